/- Contracts of the program's frames: the function that it makes, what that goes over. -/
import Derived.Test.YtffopkpbekjanaaW8
import Derived.Test.YtffopkpbekjanaaRL
namespace Go.Proofs.Ytffopkpbekjanaa
open Go.RowKit Go.Shelf
attribute [local go_sem] Oper.semAt_some

set_option maxHeartbeats 1000000 in
theorem frames_any (v : Value) (zs : List Int) (w : World) (h : IsB w v zs) :
    Calls Try.prog 30 #[v] w fun e w' => e = .returned (.func (.func 38) #[] #[.pointer (some ⟨w.heap.size, 0, none⟩)]) ∧ w' = w.alloc (.cells #[v] 22) := by
  obtain ⟨a, c, rfl⟩ := h.slice
  clear h
  go_enter Try.func30, Try.ntmps30
  go_wp2
  go_ret
  exact ⟨rfl, rfl⟩
/-- what the k-th round is handed: a piece of the bytes, and how long its frame is. -/
def pieceOf (v : Value) (l : List (List Int)) (k : Nat) (args : Array Value) (W : World) : Prop :=
  ∃ a d, args = #[.slice a (l.getD k []).length d, .int .i64 ((fr (l.getD k [])).length : Int)] ∧ IsB W (.slice a (l.getD k []).length d) (l.getD k []) ∧ ∀ b, (Value.slice a (l.getD k []).length d).ownBlock = some b → v.ownBlock = some b
def slLen : Value → Nat | .slice _ n _ => n | _ => 0
def dataOf (bx : Nat) (v : Value) (b : Nat) : Prop := b = bx ∨ (0 < slLen v ∧ v.ownBlock = some b)
theorem IsB.lt {w : World} {v : Value} {zs : List Int} (h : IsB w v zs) {b : Nat} (h0 : 0 < slLen v) (hb : v.ownBlock = some b) : b < w.heap.size := by
  obtain ⟨a, c, rfl⟩ := h.slice
  obtain ⟨_, _, _, h4⟩ := h.at
  obtain ⟨b', off, rfl, hc⟩ := h4 h0
  cases hb
  exact World.block_lt_of_cell? w _ (hc 0 h0)
theorem data_lt {w : World} {bx : Nat} {v : Value} {zs : List Int} (h : IsB w v zs) (hx : bx < w.heap.size) {b : Nat} (hd : dataOf bx v b) : b < w.heap.size := hd.elim (fun e => e ▸ hx) fun e => h.lt e.1 e.2
theorem IsB.cut {w : World} {a : Option Addr} {n c : Nat} {zs : List Int} (h : IsB w (.slice a n c) zs) (u : Nat) (hu : u ≤ n) : IsB w (.slice (if c = u then a else a.map fun p => ⟨p.block, p.off + u, p.spot⟩) (n - u) (c - u)) (zs.drop u) := by
  obtain ⟨h1, h2, h3, h4⟩ := h.at
  have hm := h.1
  have hl : (zs.drop u).length = n - u := by simp; omega
  refine ⟨by omega, h.byt.drop u, if c = u then a else a.map fun p => ⟨p.block, p.off + u, p.spot⟩, c - u, by rw [hl], by omega, by omega, ?_⟩
  by_cases h0 : zs.length ≤ u
  · left; exact List.drop_eq_nil_of_le h0
  · right
    obtain ⟨b, off, rfl, hc⟩ := h4 (by omega)
    rw [if_neg (by omega)]
    refine ⟨b, off + u, rfl, fun i hi => ?_⟩
    simp at hi
    rw [Nat.add_assoc, hc (u + i) (by omega)]
    simp [List.getD]
set_option maxRecDepth 100000 in
set_option maxHeartbeats 4000000 in
theorem frames_gives (w0 : World) (bx : Nat) (v : Value) (zs : List Int) (l : List (List Int)) (r : List Int) (hbx : w0.cell? ⟨bx, 0, none⟩ = some v) (h : IsB w0 v zs) (hr : Reads zs l r) :
    Gives Try.prog 38 #[.pointer (some ⟨bx, 0, none⟩)] l.length (pieceOf v l) (fun _ _ => False) (dataOf bx v) w0 := by
  intro lp J Jx M W hW hM hJ hJx hY h0
  obtain ⟨a, c, rfl⟩ := h.slice
  have hbl := World.block_lt_of_cell? w0 ⟨bx, 0, none⟩ hbx
  have cb : W.cell? ⟨bx, 0, none⟩ = some (.slice a zs.length c) := (hW.cell (p := ⟨bx, 0, none⟩) hbl).trans hbx
  have hB := h.below hW
  refine (callsIn_wide (n := 9)).1 ?_
  refine callsIn_of_wp Try.func38 rfl trivial ?_ rfl
  simp only [Try.ntmps38, List.size_toArray, List.length_cons, List.length_nil, Nat.reduceAdd, Nat.reduceSub, Array.replicate_succ, Array.replicate_zero, List.push_toArray, List.append_toArray, List.nil_append, List.cons_append]
  gi_wp2
  gi_loopw [3] (fun rv wr => ∃ (k : Nat) (a' : Option Addr) (n' c' : Nat), k ≤ l.length ∧ rv = .slice a' n' c' ∧ IsB wr (.slice a' n' c') (zs.drop (rows (l.take k)).length) ∧ (∀ b, (Value.slice a' n' c').ownBlock = some b → (Value.slice a zs.length c).ownBlock = some b) ∧ J k wr ∧ Kept M W wr)
    (fun rv _ => slLen rv)
  case atStart => exact ⟨0, a, zs.length, c, by omega, rfl, by simpa [rows] using hB, fun _ h => h, h0, Kept.refl _ _⟩
  case round =>
    obtain ⟨k, a', n', c', hk, rfl, hB', hob, hJk, hK⟩ := hrel
    obtain ⟨hn', hnc', hcm'⟩ := hB'.bound
    replace hn' := hid hn'
    by_cases hlt : k < l.length
    · have hn := reads_at hr k hlt
      have hY' := hid (fun (w1 : World) (hb1 : Below wr.heap.size wr w1) args (hy : pieceOf (.slice a zs.length c) l k args w1) => hY k args w1 hlt (Nat.le_trans hK.size hb1.size) (hJ k _ _ hJk (hb1.mono hK.size)) hy 8)
      have hf := hid (first_some hB' hn)
      obtain ⟨hu, _, hu5⟩ := next_le hB'.byt hn
      rw [← hn'.out] at hu
      have hu0 : (((fr (l.getD k [])).length : Int) == 0) = false := by simp only [beq_eq_false_iff_ne, ne_eq]; omega
      have hpc := hid (fun (w1 : World) (hb1 : Below wr.heap.size wr w1) (b o d : Nat) (hb : ∃ off, a' = some ⟨b, off, none⟩) (hp : IsB wr (.slice (some ⟨b, o, none⟩) (l.getD k []).length d) (l.getD k [])) => hY'.out w1 hb1 #[.slice (some ⟨b, o, none⟩) (l.getD k []).length d, .int .i64 ((fr (l.getD k [])).length : Int)] ⟨_, d, rfl, hp.below hb1, fun b2 h2 => by
        obtain ⟨off, rfl⟩ := hb
        exact hob b2 (by simpa [Value.ownBlock] using h2)⟩)
      have hnx := hid (rows_take_succ l k hlt)
      have hcut := hid (hB'.cut (fr (l.getD k [])).length hu)
      clear hn hY' hY
      generalize hpe : l.getD k [] = p at hf hpc hcut hnx hu hu5 hu0
      replace hpe := hid hpe
      obtain ⟨u, hue⟩ : ∃ u, u = (fr p).length := ⟨_, rfl⟩
      have HU := hid hue
      rw [← hue] at hu hu5 hu0 hf hpc hcut
      clear hue
      gi_wp2_with fail
      refine ⟨trivial, (callsIn_wide.2 hf.out).mono ?_⟩
      rintro e w1 ⟨b, off, o, d, rfl, hp, rfl, hb1⟩
      obtain ⟨fn, tmps, assign, body, hy, hR⟩ := hpc.out w1 hb1 b o d ⟨off, rfl⟩ hp
      have HP := hid hp
      have HB1 := hid hb1
      clear hp hb1 hpc hf
      gi_wp2
      refine hR.mono ?_
      rintro e W3 ⟨hk3, (⟨rfl, hJ3⟩ | ⟨rfl, hJ3⟩)⟩
      · have hk3' : Kept M W W3 := (hK.trans (kept_of_below HB1.out (F := fun _ => False)) (fun _ h => h.elim)).trans hk3 (fun b hb => .inl (hb.elim id False.elim))
        have hB3 := hid (hcut.out.block (w' := W3) fun b2 hb2 hlt2 => by
          have hD : dataOf bx (.slice a zs.length c) b2 := .inr ⟨by show 0 < zs.length; have := hn'.out; simp at this; omega, hob b2 (by
            revert hb2
            split
            · exact id
            · exact id)⟩
          have hnM : ¬ M b2 := fun hm => (hM b2 hm).2 hD
          rw [hk3.block b2 (Nat.lt_of_lt_of_le hlt2 HB1.out.size) (fun h => h.elim hnM False.elim), HB1.out.block b2 hlt2])
        have hK3 := hid hk3'
        have HJ3 := hid hJ3
        clear hk3 hk3' hJ3 hy hR hcut
        by_cases hcu : c' = u
        · subst hcu
          have hB3' := hB3.out
          rw [if_pos rfl] at hB3'
          replace hB3 := hid hB3'
          clear hB3'
          have hnn : n' = c' := by omega
          have hfin : Hid (IsB W3 (.slice (some ⟨b, off, none⟩) 0 0) (zs.drop (rows (l.take (k + 1))).length)) := by
            have := hB3.out
            rw [List.drop_drop, hnn, Nat.sub_self] at this
            rw [hnx.out, List.length_append, ← HU.out]
            exact this
          clear hB3
          gi_wp2
          exact ⟨⟨k + 1, _, 0, 0, by omega, rfl, hfin.out, fun b2 h2 => hob b2 h2, HJ3.out, hK3.out⟩, by simp [slLen]; omega⟩
        · have hB3' := hB3.out
          rw [if_neg hcu] at hB3'
          replace hB3 := hid hB3'
          clear hB3'
          have hfin : Hid (IsB W3 (.slice (some ⟨b, off + u, none⟩) (n' - u) (c' - u)) (zs.drop (rows (l.take (k + 1))).length)) := by
            have := hB3.out
            rw [List.drop_drop] at this
            rw [hnx.out, List.length_append, ← HU.out]
            exact this
          clear hB3
          gi_wp2
          exact ⟨⟨k + 1, _, _, _, by omega, rfl, hfin.out, fun b2 h2 => hob b2 h2, HJ3.out, hK3.out⟩, by simp [slLen]; omega⟩
      · gi_wp2
        refine bodyPost_ret (results_none rfl _ _ _) rfl ?_
        exact ⟨⟨_, rfl⟩, .inr ⟨k + 1, by omega, hJ3⟩⟩
    · obtain rfl : k = l.length := by omega
      rw [List.take_length] at hB'
      have hf := hid (first_none hB' (reads_end hr))
      clear hB'
      gi_wp2_with fail
      refine ⟨trivial, (callsIn_wide.2 hf.out).mono ?_⟩
      rintro e w1 ⟨rfl, hb1⟩
      have hJ1 := hid (hJ _ _ _ hJk (hb1.mono hK.size))
      clear hb1 hf
      gi_wp2
      refine ⟨fun _ _ => trivial, ?_⟩
      gi_wp2
      refine bodyPost_ret (results_none rfl _ _ _) rfl ?_
      exact ⟨⟨_, rfl⟩, .inl hJ1.out⟩
end Go.Proofs.Ytffopkpbekjanaa
