/- LogSynced: a log, records appended to it one by one, and beside them where each ends. -/
import Derived.Test.YtihgikekkgoddaaGreatDoorZLZ
import Derived.Maps.AppendAt
namespace Go.Proofs.YtihgikekkgoddaaGreatDoor
open Go.RowKit Go.Shelf Sto

/-- append of one element (its cells) to an owned row. -/
theorem push_run {base t e : Nat} {i : TypeInfo} {z : Value} {size bytes : Nat} (ht : Tryz.prog.underlying t = some (.slice e)) (hi : Tryz.prog.info? e = some i) (hz : i.zero = some z) (hsize : i.size = size) (hby : i.bytes = bytes) (hzs : z.cells.size = size) (hsz : 0 < size)
    {w : World} {v : Value} {n : Nat} {xs : List Value} (hr : w.ownsRow base e size v n xs) (news : List Value) (hl : news.length = size) (h1 : ∀ u ∈ news, u.oneCell' = true) (hn : n ≤ 4000000) (hb8 : bytes ≤ 64) (hb : base ≤ w.heap.size) :
    ∃ a' c' w', (∀ ty, (Builtin.append_ #[t, t] ty #[v, .slice (some ⟨w.heap.size, 0, none⟩) 1 1]).run Tryz.prog (w.alloc (.cells news.toArray e)) = .ok (.slice a' (n + 1) c') w') ∧ w'.ownsRow base e size (.slice a' (n + 1) c') (n + 1) (xs ++ news) ∧ w.grownBy w' v.ownBlock ∧
      ∀ k, (Value.slice a' (n + 1) c').ownBlock = some k → v.ownBlock = some k ∨ w.heap.size ≤ k := by
  have e0 : (w.alloc (.cells news.toArray e)).heap[w.heap.size]? = some (.cells news.toArray e) := (MapKept.heap_alloc w _).1
  have hcells : ∀ j u, news[j]? = some u → (w.alloc (.cells news.toArray e)).cell? ((⟨w.heap.size, 0, none⟩ : Addr).add j) = some u := by
    intro j u hu
    rw [Addr.add_lit, cell_of e0, Nat.zero_add]
    simpa using hu
  obtain ⟨v', w', hrun, h3, h4, _, h5⟩ := run_append_own_at (P := Tryz.prog) (w.alloc (.cells news.toArray e)) base t 0 e i z size bytes ht hi hz hsize hby hzs hsz v n xs (hr.alloc _) ⟨w.heap.size, 0, none⟩ 1 1 news (by omega) hcells h1 (by unfold maxLen; omega) (by have := Nat.mul_le_mul (show n + 1 ≤ 4000001 by omega) hb8; omega) (by simp; omega)
  obtain ⟨a', c', rfl⟩ := row_slice h3
  refine ⟨a', c', w', fun ty => hrun, h3, ⟨h4.os, h4.tape, h4.output, by have := h4.size; simp at this; omega, fun k hk hne => (h4.block k (by simp; omega) hne).trans ((alloc_low w _).block k hk)⟩, fun k hk => ?_⟩
  rcases h5 with h5 | h5
  · exact .inl (h5 ▸ hk)
  · right
    rw [hk] at h5
    have : k = w.heap.size + 1 := by simpa using h5
    omega
theorem wpList_append_run {P : Program} (w : World) {ops : Array Oper} {rest : List Oper} {o : Oper} {a : Act} {Q : Exit → Act → World → Prop} (hgd : o.guard = none) (s x : Operand) (t : TypeId)
    (ho : o.op = .call { callee := .builtin .append, args := #[s, x], argTypes := #[t, t] }) (v v2 v' : Value) (w' : World) (hs : a.eval s = v) (hx : a.eval x = v2) (hrun : ∀ ty, (Builtin.append_ #[t, t] ty #[v, v2]).run P w = .ok v' w')
    (h : wpList P ops Q rest (a.put o.dst v') w') : wpList P ops Q (o :: rest) a w := by
  refine wpList_plain hgd fun K hK => ?_
  unfold Oper.wp execOp
  simp only [ho, resolve, invoke, builtin, Sem.run_bind, Sem.run_pure, Result.andThen_ok, List.map_toArray, List.map_cons, List.map_nil, hs, hx, hrun]
  exact hK _ _ h
theorem intInfo5 : (Tryz.prog.info? 3).map (fun i => (i.zero, i.size, i.bytes)) = some (some (.int .i64 0), 1, 8) := by kernel_rfl

/-- where the first so many records end. -/
def ends (l : List (List UInt8)) (m : Nat) : List Value := (List.range m).map fun j => .int .i64 ((encs (l.take j)).length : Int)
/-- a log to which the first i records went, of which so many bytes are safe; the row of the m ends lies at ev. -/
def SyS (B : Nat) (w : World) (lb sb : Nat) (l : List (List UInt8)) (i s m A : Nat) (ev : Value) (wr : World) : Prop :=
  ∃ g t f, Bo B wr lb g t ⟨sb, [], 0, i, false⟩ ∧ RS [] t 0 [] (encs (l.take i)) s 1 ∧ LV t ∧ lookE (nameOf [] (pLog 0)) t.l = some f ∧ t.acts ≤ A ∧ Below B w wr ∧ wr.ownsRow B 3 1 ev m (ends l m) ∧ ∀ b, ev.ownBlock = some b → ¬ bfoot lb ⟨sb, [], 0, i, false⟩ g b
theorem SyS.keep {B : Nat} {w : World} {lb sb : Nat} {l : List (List UInt8)} {i j s' m A' : Nat} {ev : Value} {wr w' : World} {g g' : Gs} {t t' : St} {f' : Ent}
    (hbo : Bo B wr lb g t ⟨sb, [], 0, i, false⟩) (hlow : Below B w wr) (hrow : wr.ownsRow B 3 1 ev m (ends l m)) (hfar : ∀ b, ev.ownBlock = some b → ¬ bfoot lb ⟨sb, [], 0, i, false⟩ g b)
    (hs : BStep B lb wr w' g g' ⟨sb, [], 0, i, false⟩ ⟨sb, [], 0, j, false⟩ t') (hr : RS [] t' 0 [] (encs (l.take j)) s' 1) (hlv : LV t') (hf : lookE (nameOf [] (pLog 0)) t'.l = some f') (ha : t'.acts ≤ A') :
    SyS B w lb sb l j s' m A' ev w' := by
  refine ⟨g', t', f', hs.bo, hr, hlv, hf, ha, hlow.trans (BStep.low hbo hs), ownsRow_block hrow fun k hk => hs.kept.block k (hrow.lt k hk).2 (hfar k hk), fun b hb hbf => ?_⟩
  rcases hbf with h1 | h1
  · rcases hs.fresh b h1 with h2 | h2
    · exact hfar b hb (.inl h2)
    · have := (hrow.lt b hb).2; omega
  · exact hfar b hb (.inr h1)
theorem SyS.low {B : Nat} {w : World} {lb sb : Nat} {l : List (List UInt8)} {i s m A : Nat} {ev : Value} {wr : World} (h : SyS B w lb sb l i s m A ev wr) : Below B w wr := by
  obtain ⟨g, t, f, h1, h2, h3, h4, h5, h6, _⟩ := h; exact h6
theorem SyS.row {B : Nat} {w : World} {lb sb : Nat} {l : List (List UInt8)} {i s m A : Nat} {ev : Value} {wr : World} (h : SyS B w lb sb l i s m A ev wr) : wr.ownsRow B 3 1 ev m (ends l m) := by
  obtain ⟨g, t, f, h1, h2, h3, h4, h5, h6, h7, _⟩ := h; exact h7
theorem sy_sync {B : Nat} {w : World} {lb sb : Nat} {l : List (List UInt8)} {i s m A : Nat} {ev : Value} {wr : World} (h : SyS B w lb sb l i s m A ev wr) (hA : A ≤ 100000) :
    Calls Tryz.prog 9 #[ptr lb] wr fun e w' => e = .returned (.int .i64 0) ∧ SyS B w lb sb l i (encs (l.take i)).length m (A + 1) ev w' := by
  obtain ⟨g, t, f, h1, h2, h3, h4, h5, h6, h7, h8⟩ := h
  refine (sync_live wr h1 h2 h3 h4 (by omega)).mono ?_
  rintro e w' ⟨rfl, g', t', f', hs, hr, hlv, hf, ha⟩
  exact ⟨rfl, SyS.keep h1 h6 h7 h8 hs hr hlv hf (by omega)⟩
theorem enc_small {bs : List UInt8} (h : bs.length ≤ 50) : (enc bs).length ≤ 100 := by
  rw [enc_len, Frm.fr_len, ints_len]
  have := Frm.vi_len (n := bs.length) (by omega)
  rw [this]
  have : Frm.wide bs.length ≤ 3 := by unfold Frm.wide; split <;> (try split) <;> omega
  omega
theorem encs_len_le {l : List (List UInt8)} (h : ∀ p ∈ l, p.length ≤ 50) : (encs l).length ≤ 100 * l.length := by
  induction l with
  | nil => simp [encs]
  | cons a r ih =>
    have e : encs (a :: r) = enc a ++ encs r := by simp [encs]
    have e1 := enc_small (bs := a) (h a (by simp))
    have e2 := ih (fun p hp => h p (by simp [hp]))
    rw [e, List.length_append, List.length_cons]
    omega
theorem encs_take_le {l : List (List UInt8)} (h : ∀ p ∈ l, p.length ≤ 50) (hl : l.length ≤ 40) (i : Nat) : (encs (l.take i)).length ≤ 4000 := by
  have h3 := encs_len_le (l := l.take i) (fun p hp => h p (List.mem_of_mem_take hp))
  have h4 : (l.take i).length ≤ l.length := by rw [List.length_take]; omega
  omega
theorem encs_succ {l : List (List UInt8)} {i : Nat} (hi : i < l.length) : encs (l.take (i + 1)) = encs (l.take i) ++ enc l[i] := by
  rw [List.take_succ_eq_append_getElem hi, encs_app, encs_one]
theorem sy_append {B : Nat} {w : World} {lb sb : Nat} {l : List (List UInt8)} {i s m A : Nat} {ev : Value} {wr : World} (h : SyS B w lb sb l i s m A ev wr) (hA : A ≤ 100000) (hl : l.length ≤ 40) (h50 : ∀ p ∈ l, p.length ≤ 50) (hi : i < l.length) (v : Value) (hv : Frm.IsB wr v (ints l[i])) :
    Calls Tryz.prog 8 #[ptr lb, v] wr fun e w' => e = .returned (.int .i64 0) ∧ SyS B w lb sb l (i + 1) s m (A + 1) ev w' := by
  obtain ⟨g, t, f, h1, h2, h3, h4, h5, h6, h7, h8⟩ := h
  have hli := h50 l[i] (List.getElem_mem hi)
  have e1 := enc_small hli
  have e2 := encs_take_le h50 hl i
  refine (append_live wr h1 h2 h3 h4 v l[i] hv (by omega) (by omega) (by omega) (by omega)).mono ?_
  rintro e w' ⟨rfl, g', t', f', hs, hr, hlv, hf, ha⟩
  rw [← encs_succ hi] at hr
  exact ⟨rfl, SyS.keep h1 h6 h7 h8 hs hr hlv hf (by omega)⟩
theorem name0 : nameOf [] (pLog 0) = [108, 111, 103, 46, 48] := by decide
theorem sy_size {B : Nat} {w : World} {lb sb : Nat} {l : List (List UInt8)} {i s m A : Nat} {ev : Value} {wr : World} (h : SyS B w lb sb l i s m A ev wr) :
    Calls Tryz.prog 21 #[ptr sb, str [108, 111, 103, 46, 48]] wr fun e w' => e = .returned (.tuple #[.int .i64 ((encs (l.take i)).length : Int), .int .i64 0]) ∧ SyS B w lb sb l i s m A ev w' := by
  obtain ⟨g, t, f, h1, h2, h3, h4, h5, h6, h7, h8⟩ := h
  have hg : t.get [108, 111, 103, 46, 48] (fun f => f.b.length) = (((encs (l.take i)).length : Int), 0) := by
    unfold St.get
    rw [if_neg (by unfold LV at h3; omega), ← name0, h4]
    simp only [(h2.file h4).1]
  refine (size_t wr h1.is _ (by simp [maxLen]) hg).mono ?_
  rintro e w' ⟨rfl, hb⟩
  exact ⟨rfl, SyS.keep h1 h6 h7 h8 (h1.same hb) h2 h3 h4 h5⟩
/-- the next end goes to the row. -/
theorem sy_push {B : Nat} {w : World} {lb sb : Nat} {l : List (List UInt8)} {i s m A : Nat} {ev : Value} {wr : World} (h : SyS B w lb sb l i s m A ev wr) (hm : m ≤ 100) :
    ∃ a' c' w', (∀ ty, (Builtin.append_ #[41, 41] ty #[ev, .slice (some ⟨wr.heap.size, 0, none⟩) 1 1]).run Tryz.prog (wr.alloc (.cells #[.int .i64 ((encs (l.take m)).length : Int)] 3)) = .ok (.slice a' (m + 1) c') w') ∧ SyS B w lb sb l i s (m + 1) A (.slice a' (m + 1) c') w' := by
  obtain ⟨g, t, f, h1, h2, h3, h4, h5, h6, h7, h8⟩ := h
  obtain ⟨i0, hi, hz0, hz1, hz2⟩ := info_parts intInfo5
  obtain ⟨a', c', w', hrun, hrow, hgr, hblk⟩ := push_run (base := B) (t := 41) Tryz.underlying41 hi hz0 hz1 hz2 rfl (by omega) h7 [.int .i64 ((encs (l.take m)).length : Int)] rfl (by simp [Value.oneCell']) (by omega) (by omega) h1.is.2.2
  have hend : ends l m ++ [.int .i64 ((encs (l.take m)).length : Int)] = ends l (m + 1) := by unfold ends; rw [List.range_succ, List.map_append]; rfl
  rw [hend] at hrow
  have hbf : ∀ k, bfoot lb ⟨sb, [], 0, i, false⟩ g k → w'.heap[k]? = wr.heap[k]? := fun k hk => hgr.block k (h1.lt hk) fun e => h8 k e.symm hk
  refine ⟨a', c', w', hrun, g, t, f, h1.keep hbf hgr.size, h2, h3, h4, h5, h6.trans ⟨hgr.os, hgr.tape, hgr.output, hgr.size, fun k hk => hgr.block k (by have := h1.is.2.2; omega) fun e => ?_⟩, hrow, fun b hb hbf2 => ?_⟩
  · have := (h7.lt k e.symm).1; omega
  · rcases hblk b hb with h9 | h9
    · exact h8 b h9 hbf2
    · have := h1.lt hbf2; omega
/-- a crash. -/
theorem sy_crash {B : Nat} {w : World} {lb sb : Nat} {l : List (List UInt8)} {i s m A : Nat} {ev : Value} {wr : World} (h : SyS B w lb sb l i s m A ev wr) (hs : s ≤ (encs (l.take i)).length) (su : Nat) (hsu : su < 3000) :
    Calls Tryz.prog 18 #[ptr sb, .slice (some ⟨wr.heap.size, 0, none⟩) 1 1] (wr.alloc (.cells #[.int .i64 (su : Int)] 3)) fun e w' => e = .returned (.tuple #[]) ∧ Below B w w' ∧ w'.ownsRow B 3 1 ev m (ends l m) ∧
      ∃ g t, Is B w' sb g t ∧ (∃ s', RS [] t 0 [] ((encs (l.take i)).take (s + su)) s' 1) ∧ LV t ∧ t.acts ≤ A := by
  obtain ⟨g, t, f, h1, h2, h3, h4, h5, h6, h7, h8⟩ := h
  have hbA := alloc_low wr (.cells #[.int .i64 (su : Int)] 3)
  obtain ⟨f', hf', rs'⟩ := h2.crash1 h4 rfl [(su : Int)] hs
  have hkp : (encs (l.take i)).take (s + keptOf [(su : Int)] ((encs (l.take i)).length - s)) = (encs (l.take i)).take (s + su) := by
    generalize encs (l.take i) = X at *
    have : keptOf [(su : Int)] (X.length - s) = min su (X.length - s) := by unfold keptOf; simp
    rw [this]
    rcases Nat.le_total su (X.length - s) with h | h
    · rw [Nat.min_eq_left h]
    · rw [Nat.min_eq_right h, List.take_of_length_le (by omega), List.take_of_length_le (by omega)]
  rw [hkp] at rs'
  refine (crash_t _ (h1.is.below hbA) (.slice (some ⟨wr.heap.size, 0, none⟩) 1 1) [(su : Int)] (isI_lit wr [(su : Int)] 1 (by simp) (by unfold maxLen; omega) (by simp; omega)) (fun _ b hb hf => by
    have : b = wr.heap.size := by simpa [Value.ownBlock] using hb.symm
    have := h1.is.1.lt hf
    omega)).mono ?_
  rintro e w' ⟨rfl, g', st, is'⟩
  refine ⟨rfl, h6.trans ((hbA.mono h1.is.2.2).trans (Step.low (h1.is.below hbA) st)), ownsRow_block h7 fun k hk => ?_, g', _, is', ⟨_, rs'⟩, rfl, h5⟩
  have hlt := (h7.lt k hk).2
  exact (st.kept.block k (by simp; omega) fun hf => h8 k hk (.inl hf)).trans (hbA.block k hlt)
/-- which records are read back. -/
theorem sy_reads {l recs : List (List UInt8)} (h50 : ∀ p ∈ l, p.length ≤ 50) {sy su want : Nat} (hsy : sy ≤ want) (hwl : want ≤ l.length) (h1 : (encs (l.take want)).length ≤ (encs (l.take sy)).length + su)
    (h2 : want < l.length → (encs (l.take sy)).length + su < (encs (l.take (want + 1))).length) (h : Read8 ((encs l).take ((encs (l.take sy)).length + su)) recs) : recs = l.take want := by
  have hall : encs (l.take l.length) = encs l := by rw [List.take_length]
  obtain ⟨cut, hcut⟩ : ∃ cut, cut = min ((encs (l.take sy)).length + su) (encs l).length := ⟨_, rfl⟩
  have hmono := encs_mono (l := l) hwl
  rw [hall] at hmono
  obtain ⟨k, k1, k2, k3, k4⟩ := read8_take (l := l) (fun p hp => by have := h50 p hp; omega) cut (by omega)
  have e : (encs l).take ((encs (l.take sy)).length + su) = (encs l).take cut := by
    rw [hcut]
    rcases Nat.le_total ((encs (l.take sy)).length + su) (encs l).length with h | h
    · rw [Nat.min_eq_left h]
    · rw [Nat.min_eq_right h, List.take_of_length_le h, List.take_of_length_le (Nat.le_refl _)]
  rw [e] at h
  have a1 : want ≤ k := k4 want hwl (by omega)
  have a2 : k ≤ want := by
    rcases Nat.lt_or_ge want k with h3 | h3
    · have h4 := h2 (by omega)
      have h5 := encs_mono (l := l) (i := want + 1) (j := k) (by omega)
      omega
    · exact h3
  obtain rfl : k = want := by omega
  exact read8_one h k2
end Go.Proofs.YtihgikekkgoddaaGreatDoor
