/- Contracts of the reader's upTo, Uint, Bool, Len, of Over. -/
import Derived.Test.YthhfahnlcoiblaaR2
namespace Go.Proofs.Ythhfahnlcoiblaa
open Go.RowKit

theorem RAt.drewN {F : Nat → Prop} {w : World} {p q : Nat} {sv : Value} {st : St} (h : RAt F w p q sv st) (n : Nat) : RAt F (w.drewN n) p q sv st := h.heap rfl
theorem kept_drewN {F : Nat → Prop} {w w' : World} (h : Kept F w w') (n : Nat) : Kept F w (w'.drewN n) := ⟨h.os, h.tape, h.output, h.size, h.block⟩
/-- what a number that was taken made of the reader. -/
theorem RAt.took {F : Nat → Prop} {w w1 : World} {p q : Nat} {sv : Value} {zs : List Int} {e : Ending} (h : RAt F w p q sv (some zs)) (ht : Took F q w zs e w1) :
    (numP zs = none ∧ e = .returned (.tuple #[.int .u64 0, .bool false]) ∧ RTo F w w1 p q (some zs)) ∨ ∃ v k, numP zs = some (v, k) ∧ e = .returned (.tuple #[.int .u64 (v : Int), .bool true]) ∧ RTo F w w1 p q (some (zs.drop k)) := by
  unfold Took at ht
  cases hn : numP zs with
  | none =>
    rw [hn] at ht
    obtain ⟨rfl, n, rfl⟩ := ht
    exact .inl ⟨rfl, rfl, sv, h.drewN n, kept_drewN (Kept.refl _ _) n⟩
  | some x =>
    obtain ⟨v, k⟩ := x
    rw [hn] at ht
    obtain ⟨rfl, sv', n, hs, rfl⟩ := ht
    refine .inr ⟨v, k, rfl, rfl, h.turn (sv' := sv') ((kept_drewN (Kept.refl _ _) n).trans (kept_set (F := two p q) _ _ _ _ (.inr rfl)) fun k hk => .inl hk) ?_ ?_ hs⟩
    · rw [heap_set _ _ _ _ _ h.ne]; exact h.cell
    · rw [heap_set_at (w := w.drewN n) h.row]; rfl
set_option maxHeartbeats 1000000 in
theorem upTo_any {F : Nat → Prop} {p q : Nat} {sv : Value} {st : St} (most : Nat) (w : World) (h : RAt F w p q sv st) :
    Calls Try.prog 45 #[ptr p, .int .u64 (most : Int)] w fun e w' => e = .returned (.int .u64 ((rnum most st).1 : Int)) ∧ RTo F w w' p q (rnum most st).2 := by
  have he := hid (rerr w h)
  have c0 : w.cell? ⟨p, 0, none⟩ = some (ptr q) := by rw [cell_of h.cell]; rfl
  cases st with
  | none =>
    have ht := hid h.to
    simp only [errP] at he
    clear h c0
    unfold ptr at *
    go_enter Try.func45, Try.ntmps45
    go_wp2_with (go_at_call 20; refine he.out.mono ?_; rintro e w' ⟨rfl, rfl⟩)
    go_ret
    exact ⟨rfl, ht.out⟩
  | some zs =>
    have hk := hid (takeNumber_any w h.row h.bytes)
    simp only [errP, Option.getD_some] at he hk
    have H := hid h
    clear h
    unfold ptr at *
    go_enter Try.func45, Try.ntmps45
    go_wp2_with (go_at_call 20; refine he.out.mono ?_; rintro e w' ⟨rfl, rfl⟩)
    refine hk.out.mono ?_
    intro e w1 ht
    clear hk he
    rcases H.out.took ht with ⟨hn, rfl, sv1, h1, k1⟩ | ⟨v, k, hn, rfl, sv1, h1, k1⟩
    · have hf := hid (rfail w1 h1)
      have e0 : rnum most (some zs) = (0, none) := by rw [rnum_eq]; unfold rnumL; rw [hn]
      replace hn := hid hn
      replace k1 := hid k1
      clear h1 ht
      unfold ptr at hf
      replace e0 := hid e0
      go_wp2_with (go_at_call 47; refine hf.out.mono ?_; rintro e w2 ⟨rfl, t2⟩)
      go_ret
      rw [e0.out]
      exact ⟨rfl, RTo.then k1.out t2⟩
    · have hv := (numP_some H.out.bytes.1 hn).1
      by_cases hle : v ≤ most
      · have e0 : rnum most (some zs) = (v, some (zs.drop k)) := by rw [rnum_eq]; unfold rnumL; rw [hn]; simp only; rw [if_pos hle]
        have hle' : ¬ (most : Int) < (v : Int) := by omega
        have ht' := hid (⟨sv1, h1, k1⟩ : RTo F _ w1 p q (some (zs.drop k)))
        clear ht h1 k1 hn H
        replace e0 := hid e0
        go_wp2
        go_ret
        rw [e0.out]
        exact ⟨rfl, ht'.out⟩
      · have e0 : rnum most (some zs) = (0, none) := by rw [rnum_eq]; unfold rnumL; rw [hn]; simp only; rw [if_neg hle]
        have hle' : (most : Int) < (v : Int) := by omega
        have hf := hid (rfail w1 h1)
        replace k1 := hid k1
        clear ht h1 hn H
        unfold ptr at hf
        replace e0 := hid e0
        go_wp2_with (go_at_call 47; refine hf.out.mono ?_; rintro e w2 ⟨rfl, t2⟩)
        go_ret
        rw [e0.out]
        exact ⟨rfl, RTo.then k1.out t2⟩
set_option maxHeartbeats 400000 in
theorem ruint {F : Nat → Prop} {p q : Nat} {sv : Value} {st : St} (w : World) (h : RAt F w p q sv st) :
    Calls Try.prog 34 #[ptr p] w fun e w' => e = .returned (.int .u64 ((rnum 18446744073709551615 st).1 : Int)) ∧ RTo F w w' p q (rnum 18446744073709551615 st).2 := by
  have hu := hid (upTo_any 18446744073709551615 w h)
  clear h
  unfold ptr at *
  generalize rnum 18446744073709551615 st = x at *
  go_enter Try.func34, Try.ntmps34
  go_wp2_with (go_at_call 45; refine hu.out.mono ?_; rintro e w' ⟨rfl, t⟩)
  go_ret
  exact ⟨rfl, t⟩
set_option maxHeartbeats 400000 in
theorem rbool {F : Nat → Prop} {p q : Nat} {sv : Value} {st : St} (w : World) (h : RAt F w p q sv st) :
    Calls Try.prog 36 #[ptr p] w fun e w' => e = .returned (.bool ((rnum 1 st).1 == 1)) ∧ RTo F w w' p q (rnum 1 st).2 := by
  have hu := hid (upTo_any 1 w h)
  have hle := rnum_le 1 st
  clear h
  unfold ptr at *
  generalize rnum 1 st = x at *
  obtain ⟨n, st'⟩ := x
  simp only at hle hu ⊢
  obtain rfl | rfl : n = 0 ∨ n = 1 := by omega
  · go_enter Try.func36, Try.ntmps36
    go_wp2_with (go_at_call 45; refine hu.out.mono ?_; rintro e w' ⟨rfl, t⟩)
    go_ret
    exact ⟨rfl, t⟩
  · go_enter Try.func36, Try.ntmps36
    go_wp2_with (go_at_call 45; refine hu.out.mono ?_; rintro e w' ⟨rfl, t⟩)
    go_ret
    exact ⟨rfl, t⟩
def lenP (most : Int) (st : St) : Nat × St := if most < 0 then (0, none) else rnum most.toNat st
set_option maxHeartbeats 400000 in
theorem rlen {F : Nat → Prop} {p q : Nat} {sv : Value} {st : St} (most : Int) (w : World) (h : RAt F w p q sv st) (hm : most ≤ 9223372036854775807) :
    Calls Try.prog 39 #[ptr p, .int .i64 most] w fun e w' => e = .returned (.int .i64 ((lenP most st).1 : Int)) ∧ RTo F w w' p q (lenP most st).2 := by
  by_cases hneg : most < 0
  · have hf := hid (rfail w h)
    have e : lenP most st = (0, none) := if_pos hneg
    rw [e]
    clear h e
    unfold ptr at *
    go_enter Try.func39, Try.ntmps39
    go_wp2_with (go_at_call 47; refine hf.out.mono ?_; rintro e w2 ⟨rfl, t2⟩)
    go_ret
    exact ⟨rfl, t2⟩
  · obtain ⟨m, rfl⟩ : ∃ m : Nat, most = (m : Int) := ⟨most.toNat, by omega⟩
    have hu := hid (upTo_any m w h)
    have hle := rnum_le m st
    have e : lenP (m : Int) st = rnum m st := if_neg (by omega)
    rw [e]
    clear h e
    unfold ptr at *
    generalize rnum m st = x at *
    obtain ⟨n, st'⟩ := x
    simp only at hle hu ⊢
    go_enter Try.func39, Try.ntmps39
    go_wp2_with (go_at_call 45; refine hu.out.mono ?_; rintro e w' ⟨rfl, t⟩)
    go_ret
    exact ⟨rfl, t⟩
set_option maxHeartbeats 400000 in
theorem over_any {zs : List Int} (v : Value) (w : World) (h : IsB w v zs) (hl : zs.length ≤ 140737488355328) :
    Calls Try.prog 16 #[v] w fun e w' => ∃ F p q sv, e = .returned (ptr p) ∧ RAt F w' p q sv (some zs) ∧ (∀ k, F k → w.heap.size ≤ k) ∧ Below w.heap.size w w' := by
  obtain ⟨a, c, rfl⟩ := h.slice
  have hc := hid (clone_any _ zs w h hl)
  clear h
  go_enter Try.func16, Try.ntmps16
  go_wp2_with (go_at_call 33; refine hc.out.mono ?_; rintro e w2 ⟨a2, c2, rfl, o2, b2⟩)
  go_ret
  have hb : Below w2.heap.size w2 ((w2.alloc (.cells #[.slice a2 zs.length c2] 62)).alloc (.cells #[ptr w2.heap.size, .bool false] 55)) := ((Below.refl _ _).alloc (Nat.le_refl _) _).alloc (by simp) _
  refine ⟨fun k => (k = w2.heap.size ∨ k = w2.heap.size + 1) ∨ (Value.slice a2 zs.length c2).ownBlock = some k, w2.heap.size + 1, w2.heap.size, .slice a2 zs.length c2, ?_, ⟨?_, ?_, .inl (.inr rfl), .inl (.inl rfl), ?_, ?_⟩, ?_, ?_⟩
  · simp [ptr]
  · exact (two_blocks w2 _ _).2
  · exact (two_blocks w2 _ _).1
  · rintro k (hk | hk)
    · simp; omega
    · have := (o2.lt hk).2; simp; omega
  · exact Sl.of_own (o2.below hb) fun k hk => .inr hk
  · rintro k (hk | hk)
    · have := b2.size; omega
    · exact (o2.lt hk).1
  · exact low' b2 hb
end Go.Proofs.Ythhfahnlcoiblaa
