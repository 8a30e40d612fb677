/- Bytes in memory: what stays, rows of one's own, pieces of slices, what append makes. -/
import Derived.Test.YtffopkpbekjanaaW2
import Derived.Test.YtffopkpbekjanaaFrP
import Derived.Maps.AppendAt
import Derived.Maps.OwnSet
import Derived.Laws.OwnMore
namespace Go.Proofs.Ytffopkpbekjanaa
open Go.RowKit

theorem new_block (w : World) (o : Obj) : (w.alloc o).heap[w.heap.size]? = some o := (MapKept.heap_alloc w o).1
theorem alloc_below (w : World) (o : Obj) : Below w.heap.size w (w.alloc o) := (Below.refl _ _).alloc (Nat.le_refl _) _
theorem lowB {B : Nat} {w w1 w2 : World} (L : Below B w w1) (hB : B ≤ w1.heap.size) (hb : Below w1.heap.size w1 w2) : Below B w w2 := L.trans (hb.mono hB)
theorem low' {w w1 w2 : World} (L : Below w.heap.size w w1) (hb : Below w1.heap.size w1 w2) : Below w.heap.size w w2 := L.trans (hb.mono L.size)
theorem cell_of {w : World} {b : Nat} {c : Array Value} {t : TypeId} {fz : Nat × Nat} (h : w.heap[b]? = some (.cells c t fz)) (o : Nat) : w.cell? ⟨b, o, none⟩ = c[o]? := by
  simp [World.cell?, h]
theorem frozen_of {w : World} {b : Nat} {c : Array Value} {t : TypeId} (h : w.heap[b]? = some (.cells c t)) (o : Nat) : w.frozen? ⟨b, o, none⟩ = false := by
  simp [World.frozen?, h]
theorem heap_set (w : World) (b o : Nat) (v : Value) (k : Nat) (h : k ≠ b) : (w.setCell ⟨b, o, none⟩ v).heap[k]? = w.heap[k]? := by
  simp [World.setCell, Array.getElem?_modify, Ne.symm h]
theorem heap_set_at {w : World} {b o : Nat} {c : Array Value} {t : TypeId} {fz : Nat × Nat} (h : w.heap[b]? = some (.cells c t fz)) (v : Value) : (w.setCell ⟨b, o, none⟩ v).heap[b]? = some (.cells (c.setIfInBounds o v) t fz) := by
  simp [World.setCell, Array.getElem?_modify, h]
theorem size_set (w : World) (a : Addr) (v : Value) : (w.setCell a v).heap.size = w.heap.size := by
  simp [World.setCell]
theorem lt_of_block {w : World} {b : Nat} {o : Obj} (h : w.heap[b]? = some o) : b < w.heap.size := (Array.getElem?_eq_some_iff.1 h).1
theorem ownsRow_block {w w' : World} {base : Nat} {e : TypeId} {s : Nat} {v : Value} {n : Nat} {xs : List Value} (h : w.ownsRow base e s v n xs) (hb : ∀ k, v.ownBlock = some k → w'.heap[k]? = w.heap[k]?) : w'.ownsRow base e s v n xs := by
  refine ⟨h.1, ?_⟩
  rcases h.2 with hn | ⟨g, cap, cur, rfl, h1, h2, rest⟩
  · exact .inl hn
  · exact .inr ⟨g, cap, cur, rfl, h1, (hb g rfl).trans h2, rest⟩
theorem ownsRow_base {w : World} {base base' : Nat} {e : TypeId} {s : Nat} {v : Value} {n : Nat} {xs : List Value} (h : w.ownsRow base e s v n xs) (hb : ∀ k, v.ownBlock = some k → base' ≤ k) : w.ownsRow base' e s v n xs := by
  refine ⟨h.1, ?_⟩
  rcases h.2 with hn | ⟨g, cap, cur, rfl, h1, h2, rest⟩
  · exact .inl hn
  · exact .inr ⟨g, cap, cur, rfl, hb g rfl, h2, rest⟩
theorem row_slice {w : World} {base : Nat} {e : TypeId} {s : Nat} {v : Value} {n : Nat} {xs : List Value} (h : w.ownsRow base e s v n xs) : ∃ a c, v = .slice a n c := by
  rcases h.2 with ⟨rfl, h0⟩ | ⟨g, cap, cur, rfl, _⟩
  · exact ⟨none, 0, by rw [h0]⟩
  · exact ⟨_, cap, rfl⟩

/-- a row of bytes of one's own, in a block from B on. -/
def Own (B : Nat) (w : World) (v : Value) (zs : List Int) : Prop := Byt zs ∧ w.ownsRow B 5 1 v zs.length (zs.map (Value.int .u8))
theorem Own.slice {B : Nat} {w : World} {v : Value} {zs : List Int} (h : Own B w v zs) : ∃ a c, v = .slice a zs.length c := row_slice h.2
theorem Own.keep {B : Nat} {w w' : World} {v : Value} {zs : List Int} (h : Own B w v zs) (hb : ∀ k, v.ownBlock = some k → w'.heap[k]? = w.heap[k]?) : Own B w' v zs := ⟨h.1, ownsRow_block h.2 hb⟩
theorem Own.lt {B : Nat} {w : World} {v : Value} {zs : List Int} (h : Own B w v zs) {k : Nat} (hk : v.ownBlock = some k) : B ≤ k ∧ k < w.heap.size := h.2.lt k hk
theorem Own.below {B : Nat} {w w' : World} {v : Value} {zs : List Int} (h : Own B w v zs) (hb : Below w.heap.size w w') : Own B w' v zs := h.keep fun k hk => hb.block k (h.lt hk).2
theorem Own.base {B B' : Nat} {w : World} {v : Value} {zs : List Int} (h : Own B w v zs) (hB : B' ≤ B) : Own B' w v zs := ⟨h.1, ownsRow_base h.2 fun _ hk => Nat.le_trans hB (h.lt hk).1⟩
theorem Own.form {B : Nat} {w : World} {v : Value} {zs : List Int} (h : Own B w v zs) : (v = .slice none 0 0 ∧ zs = []) ∨ ∃ g c cur, v = .slice (some ⟨g, 0, none⟩) zs.length c ∧ zs.length ≤ c ∧ c ≤ maxLen ∧ B ≤ g ∧ w.heap[g]? = some (.cells cur 5) ∧ cur.size = c ∧ ∀ i, i < zs.length → cur[i]? = some (.int .u8 (zs.getD i 0)) := by
  rcases h.2.2 with ⟨rfl, h0⟩ | ⟨g, cap, cur, rfl, hB, hg, h1, h2, h3, h4⟩
  · exact .inl ⟨rfl, List.eq_nil_of_length_eq_zero h0⟩
  · refine .inr ⟨g, cap, cur, rfl, h1, h2, hB, hg, by simpa using h3, fun i hi => ?_⟩
    have : (cur.toList.take (zs.length * 1))[i]? = (zs.map (Value.int .u8))[i]? := by rw [h4]
    rw [List.getElem?_take_of_lt (by omega)] at this
    rw [← Array.getElem?_toList, this]
    simp [List.getElem?_eq_getElem hi, List.getD]
theorem Own.isB {B : Nat} {w : World} {v : Value} {zs : List Int} (h : Own B w v zs) : IsB w v zs := by
  rcases h.form with ⟨rfl, rfl⟩ | ⟨g, c, cur, rfl, h1, h2, _, h3, _, h4⟩
  · exact ⟨by simp, h.1, none, 0, rfl, by simp, by simp, .inl rfl⟩
  · refine ⟨by omega, h.1, _, c, rfl, h1, h2, .inr ⟨g, 0, rfl, fun i hi => ?_⟩⟩
    rw [cell_of h3, Nat.zero_add]; exact h4 i hi
theorem own_nil (B : Nat) (w : World) : Own B w (.slice none 0 0) [] := ⟨(by intro z hz; simp at hz), World.ownsRow_nil _ _ _ _⟩
theorem own_new (w : World) (C : Array Value) (zs : List Int) (g n : Nat) (hg : g = w.heap.size) (hn : n = zs.length) (hC : C = (zs.map (Value.int .u8)).toArray) (hb : Byt zs) (hm : zs.length ≤ maxLen) : Own w.heap.size (w.alloc (.cells C 5)) (.slice (some ⟨g, 0, none⟩) n n) zs := by
  subst hg hn hC
  refine ⟨hb, by simp, .inr ⟨_, _, _, rfl, Nat.le_refl _, new_block w _, Nat.le_refl _, hm, by simp, by simp only []; exact List.take_of_length_le (by simp)⟩⟩
theorem IsB.slice {w : World} {v : Value} {zs : List Int} (h : IsB w v zs) : ∃ a c, v = .slice a zs.length c := by obtain ⟨_, _, a, c, e, _⟩ := h; exact ⟨a, c, e⟩
theorem IsB.byt {w : World} {v : Value} {zs : List Int} (h : IsB w v zs) : Byt zs := h.2.1
theorem IsB.keep {w w' : World} {v : Value} {zs : List Int} (h : IsB w v zs) (hk : ∀ b o u, v.ownBlock = some b → w.cell? ⟨b, o, none⟩ = some u → w'.cell? ⟨b, o, none⟩ = some u) : IsB w' v zs := by
  obtain ⟨h1, h2, a, cap, rfl, h4, h5, h3⟩ := h
  refine ⟨h1, h2, a, cap, rfl, h4, h5, ?_⟩
  rcases h3 with h3 | ⟨b, off, rfl, hc⟩
  · exact .inl h3
  · exact .inr ⟨b, off, rfl, fun i hi => hk b _ _ rfl (hc i hi)⟩
theorem cell_block {w w' : World} {b o : Nat} (h : w'.heap[b]? = w.heap[b]?) : w'.cell? ⟨b, o, none⟩ = w.cell? ⟨b, o, none⟩ := by simp [World.cell?, h]
theorem IsB.block {w w' : World} {v : Value} {zs : List Int} (h : IsB w v zs) (hk : ∀ b, v.ownBlock = some b → b < w.heap.size → w'.heap[b]? = w.heap[b]?) : IsB w' v zs :=
  h.keep fun b o _ hb hu => (cell_block (hk b hb (World.block_lt_of_cell? w ⟨b, o, none⟩ hu))).trans hu
/-- the cells of a slice over bytes. -/
theorem IsB.at {w : World} {a : Option Addr} {n c : Nat} {zs : List Int} (h : IsB w (.slice a n c) zs) : n = zs.length ∧ n ≤ c ∧ c ≤ maxLen ∧ (0 < n → ∃ b off, a = some ⟨b, off, none⟩ ∧ ∀ i, i < n → w.cell? ⟨b, off + i, none⟩ = some (.int .u8 (zs.getD i 0))) := by
  obtain ⟨h1, h2, a', c', e, h4, h5, h3⟩ := h
  cases e
  refine ⟨rfl, h4, h5, fun hn => ?_⟩
  rcases h3 with h3 | h3
  · subst h3; simp at hn
  · exact h3
theorem IsB.bound {w : World} {a : Option Addr} {n c : Nat} {zs : List Int} (h : IsB w (.slice a n c) zs) : n = zs.length ∧ n ≤ c ∧ c ≤ 9223372036854775807 := by
  obtain ⟨h1, h2, h3, _⟩ := h.at
  unfold maxLen at h3
  omega
/-- a piece of a slice. -/
theorem IsB.part {w : World} {b off n c : Nat} {zs : List Int} (h : IsB w (.slice (some ⟨b, off, none⟩) n c) zs) (i j : Nat) (hij : i ≤ j) (hj : j ≤ n) (m d : Nat) (hm : m = j - i) (hd : m ≤ d) (hd2 : d ≤ maxLen) : IsB w (.slice (some ⟨b, off + i, none⟩) m d) ((zs.drop i).take m) := by
  obtain ⟨h1, h2, h3, h4⟩ := h.at
  have hl : ((zs.drop i).take m).length = m := by simp; omega
  refine ⟨by omega, (h.byt.drop i).take m, _, d, by rw [hl], by omega, hd2, ?_⟩
  rw [hl]
  by_cases hm0 : m = 0
  · left; exact List.eq_nil_of_length_eq_zero (by omega)
  · right
    obtain ⟨b', off', e, hc⟩ := h4 (by omega)
    cases e
    refine ⟨_, _, rfl, fun k hk => ?_⟩
    have := hc (i + k) (by omega)
    rw [Nat.add_assoc, this]
    congr 2
    simp [List.getD, List.getElem?_take_of_lt hk]
theorem wpList_append_run {P : Program} (w : World) {ops : Array Oper} {rest : List Oper} {o : Oper} {a : Act} {Q : Exit → Act → World → Prop} (hgd : o.guard = none) (s x : Operand) (t : TypeId)
    (ho : o.op = .call { callee := .builtin .append, args := #[s, x], argTypes := #[t, t] }) (v v2 v' : Value) (w' : World) (hs : a.eval s = v) (hx : a.eval x = v2) (hrun : ∀ ty, (Builtin.append_ #[t, t] ty #[v, v2]).run P w = .ok v' w')
    (h : wpList P ops Q rest (a.put o.dst v') w') : wpList P ops Q (o :: rest) a w := by
  refine wpList_plain hgd fun K hK => ?_
  unfold Oper.wp execOp
  simp only [ho, resolve, invoke, builtin, Sem.run_bind, Sem.run_pure, Result.andThen_ok, List.map_toArray, List.map_cons, List.map_nil, hs, hx, hrun]
  exact hK _ _ h
theorem bytesInfo : (Try.prog.info? 5).map (fun i => (i.zero, i.size, i.bytes)) = some (some (.int .u8 0), 1, 1) := by kernel_rfl
/-- append of bytes to a row of one's own. -/
theorem app_run {w : World} {base : Nat} {v v2 : Value} {b bs : List Int} (hr : Own base w v b) (h2 : IsB w v2 bs) (hl : b.length + bs.length ≤ 140737488355328) (hb : base ≤ w.heap.size) :
    ∃ a' c' w', (∀ ty, (Builtin.append_ #[22, 22] ty #[v, v2]).run Try.prog w = .ok (.slice a' (b.length + bs.length) c') w') ∧ Own base w' (.slice a' (b.length + bs.length) c') (b ++ bs) ∧ w.grownBy w' v.ownBlock ∧
      ((Value.slice a' (b.length + bs.length) c').ownBlock = v.ownBlock ∨ (Value.slice a' (b.length + bs.length) c').ownBlock = some w.heap.size) := by
  obtain ⟨i0, hi, hz0, hz1, hz2⟩ := info_parts bytesInfo
  have some_case : ∀ (ad : Addr) (c : Nat), v2 = .slice (some ad) bs.length c → (∀ j u, (bs.map (Value.int .u8))[j]? = some u → w.cell? (ad.add j) = some u) → ∃ a' c' w', (∀ ty, (Builtin.append_ #[22, 22] ty #[v, v2]).run Try.prog w = .ok (.slice a' (b.length + bs.length) c') w') ∧ Own base w' (.slice a' (b.length + bs.length) c') (b ++ bs) ∧ w.grownBy w' v.ownBlock ∧
      ((Value.slice a' (b.length + bs.length) c').ownBlock = v.ownBlock ∨ (Value.slice a' (b.length + bs.length) c').ownBlock = some w.heap.size) := by
    intro ad c e hcells
    subst e
    obtain ⟨v', w', hrun, h3, h4, _, h5⟩ := run_append_own_at (P := Try.prog) w base 22 0 5 i0 (.int .u8 0) 1 1 Try.underlying22 hi hz0 hz1 hz2 rfl (by decide) v b.length (b.map (Value.int .u8)) hr.2 ad bs.length c (bs.map (Value.int .u8)) (by simp) hcells (by intro u hu; obtain ⟨x, _, rfl⟩ := List.mem_map.1 hu; rfl) (by unfold maxLen; omega) (by omega) hb
    obtain ⟨a', c', rfl⟩ := row_slice h3
    refine ⟨a', c', w', fun ty => hrun, ⟨hr.1.app h2.byt, ?_⟩, h4, h5⟩
    simpa using h3
  obtain ⟨hm, hzb, a, c, hv, _, _, hc⟩ := h2
  rcases hc with rfl | ⟨g, off, rfl, hc⟩
  · cases a with
    | some ad => exact some_case ad c hv (by simp)
    | none =>
      subst hv
      obtain ⟨av, cv, e⟩ := hr.slice
      have hcap : b.length ≤ cv := by
        rcases hr.form with ⟨e1, rfl⟩ | ⟨g, c', cur, e1, h1, _⟩
        · simp
        · rw [e1] at e; cases e; exact h1
      have ht := Try.underlying22
      refine ⟨av, cv, w, fun ty => ?_, ?_, ⟨rfl, rfl, rfl, Nat.le_refl _, fun _ _ _ => rfl⟩, .inl ?_⟩
      · rw [e]
        cases av <;> simp [Builtin.append_, run_underlying ht, sizeOf, typeInfo, hi, Builtin.lenOf, Builtin.firstCells, loadCells, hcap, storeCells, Result.andThen]
      · rw [e] at hr; simpa using hr
      · rw [e]; simp
  · refine some_case ⟨g, off, none⟩ c hv fun j u hu => ?_
    have hj : j < bs.length := by have := (List.getElem?_eq_some_iff.1 hu).1; simpa using this
    rw [Addr.add_lit, hc j hj, ← hu]
    simp [List.getD, List.getElem?_eq_getElem hj]
/-- .. below what it owns all stays. -/
theorem app_low {base : Nat} {w w' : World} {v : Value} {b : List Int} (hr : Own base w v b) (hb : base ≤ w.heap.size) (hg : w.grownBy w' v.ownBlock) : Below base w w' :=
  ⟨hg.os, hg.tape, hg.output, hg.size, fun k hk => hg.block k (by omega) fun e => by have := (hr.lt e.symm).1; omega⟩
/-- append of bytes that the call lays itself (b = append(b, x)). -/
theorem push_run {w : World} {base : Nat} {v : Value} {b : List Int} (hr : Own base w v b) (z : Int) (hz : 0 ≤ z ∧ z < 256) (hl : b.length + 1 ≤ 140737488355328) (hb : base ≤ w.heap.size) :
    ∃ a' c' w', (∀ ty, (Builtin.append_ #[22, 22] ty #[v, .slice (some ⟨w.heap.size, 0, none⟩) 1 1]).run Try.prog (w.alloc (.cells #[.int .u8 z] 5)) = .ok (.slice a' (b.length + 1) c') w') ∧ Own base w' (.slice a' (b.length + 1) c') (b ++ [z]) ∧ Below base w w' := by
  have hn : Own w.heap.size (w.alloc (.cells #[.int .u8 z] 5)) (.slice (some ⟨w.heap.size, 0, none⟩) 1 1) [z] := own_new w _ [z] _ _ rfl rfl rfl (fun x hx => by simp at hx; subst hx; exact hz) (by unfold maxLen; simp)
  have hr' := hr.below (alloc_below w (.cells #[.int .u8 z] 5))
  obtain ⟨a', c', w', h1, h2, h3, _⟩ := app_run hr' hn.isB hl (by simp; omega)
  exact ⟨a', c', w', h1, h2, ((Below.refl base w).alloc hb _).trans (app_low hr' (by simp; omega) h3)⟩
/-- append([]byte{}, x...). -/
theorem copy_run {W : World} {v2 : Value} {bs : List Int} (h2 : IsB W v2 bs) (hl : bs.length ≤ 140737488355328) :
    ∃ a' c' w', (∀ ty, (Builtin.append_ #[22, 22] ty #[.slice (some ⟨W.heap.size, 0, none⟩) 0 0, v2]).run Try.prog (W.alloc (.cells #[] 5)) = .ok (.slice a' bs.length c') w') ∧ Own W.heap.size w' (.slice a' bs.length c') bs ∧ Below W.heap.size W w' := by
  have hr : Own W.heap.size (W.alloc (.cells #[] 5)) (.slice (some ⟨W.heap.size, 0, none⟩) 0 0) [] := own_new W _ [] _ _ rfl rfl rfl (by intro z hz; simp at hz) (by simp)
  obtain ⟨a', c', w', hrun, hown, hgr, _⟩ := app_run hr (h2.below (alloc_below W _)) (by simp; omega) (by simp)
  simp only [List.length_nil, Nat.zero_add, List.nil_append] at hrun hown
  exact ⟨a', c', w', hrun, hown, (alloc_below W _).trans (app_low hr (by simp) hgr)⟩
end Go.Proofs.Ytffopkpbekjanaa
