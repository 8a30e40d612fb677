/- Contract of takeMatcher. -/
import Derived.Test.YthbdghbfhjimkaaU8
namespace Go.Proofs.Ythbdghbfhjimkaa
open Go.RowKit Go.Shelf

/-- what takeMatcher tells. -/
def matchV : Option (Mt × Tx) → Value
  | none => .tuple #[.agg #[str [], opv 0, str []], str [], .bool false]
  | some (x, r) => .tuple #[.agg #[str x.1, opv x.2.1, str x.2.2], str r, .bool true]
def takeA (a s : Tx) : Option (Mt × Tx) := if Lib.hasPrefix s a then takeM (s.drop a.length) else none
theorem trim_len (s p : Tx) : (Lib.trimPrefix s p).length ≤ s.length := by
  unfold Lib.trimPrefix
  split
  · simp
  · omega
theorem trim_yes {s p : Tx} (h : Lib.hasPrefix s p = true) : Lib.trimPrefix s p = s.drop p.length := by
  unfold Lib.trimPrefix
  rw [if_pos h]
theorem below_set3 {B b i j k : Nat} {w W : World} {u v x : Value} (h : Below B w W) (hb : B ≤ b) : Below B w (((W.setCell ⟨b, i, none⟩ u).setCell ⟨b, j, none⟩ v).setCell ⟨b, k, none⟩ x) :=
  h.trans ⟨rfl, rfl, rfl, by rw [size_set, size_set, size_set]; exact Nat.le_refl _, fun y hy => by rw [heap_set _ _ _ _ _ (by omega), heap_set _ _ _ _ _ (by omega), heap_set _ _ _ _ _ (by omega)]⟩
/-- a new matcher in a block of its own, whatever came behind. -/
theorem boxM_new (w : World) : ∀ W, Below (w.alloc (.cells #[.string ⟨#[]⟩, .int .u8 0, .string ⟨#[]⟩] 37)).heap.size (w.alloc (.cells #[.string ⟨#[]⟩, .int .u8 0, .string ⟨#[]⟩] 37)) W →
    W.cell? ⟨w.heap.size, 0, none⟩ = some (.string ⟨#[]⟩) ∧ W.cell? ⟨w.heap.size, 1, none⟩ = some (.int .u8 0) ∧ W.cell? ⟨w.heap.size, 2, none⟩ = some (.string ⟨#[]⟩) ∧ W.frozen? ⟨w.heap.size, 0, none⟩ = false ∧ W.frozen? ⟨w.heap.size, 1, none⟩ = false ∧ W.frozen? ⟨w.heap.size, 2, none⟩ = false := fun W hW => by
  have hnb := (hW.block w.heap.size (by simp)).trans (new_block w (.cells #[.string ⟨#[]⟩, .int .u8 0, .string ⟨#[]⟩] 37))
  exact ⟨by rw [cell_of hnb]; rfl, by rw [cell_of hnb]; rfl, by rw [cell_of hnb]; rfl, frozen_of hnb 0, frozen_of hnb 1, frozen_of hnb 2⟩
set_option maxRecDepth 100000 in
set_option maxHeartbeats 4000000 in
theorem takeMatcher_any (s a : Tx) (w : World) (hs : s.length ≤ 4000000000) : Calls Try.prog 39 #[str s, str a] w fun e w' => e = .returned (matchV (takeA a s)) ∧ Below w.heap.size w w' := by
  have hcp := hid (cutp_any s a)
  have hrl : (Lib.trimPrefix s a).length ≤ 4000000000 := Nat.le_trans (trim_len s a) hs
  have hix := hid (fun w => any_any (Lib.trimPrefix s a) w hrl)
  have hbox := hid (boxM_new w)
  have hlow := hid (fun W (h : Below (w.alloc (.cells #[.string ⟨#[]⟩, .int .u8 0, .string ⟨#[]⟩] 37)).heap.size (w.alloc (.cells #[.string ⟨#[]⟩, .int .u8 0, .string ⟨#[]⟩] 37)) W) => low' (alloc_below w (.cells #[.string ⟨#[]⟩, .int .u8 0, .string ⟨#[]⟩] 37)) h)
  cases hp : Lib.hasPrefix s a
  · have e : Hid (takeA a s = none) := by unfold Hid takeA; rw [hp]; rfl
    rw [hp] at hcp
    rw [e.out]
    clear hp e
    generalize Lib.trimPrefix s a = r at *
    generalize Lib.indexAny r sgs = ix at *
    unfold matchV str opv signs at *
    go_enter Try.func39, Try.ntmps39
    go_wp2_with (first | (go_at_call 37; refine (hcp.out _).mono ?_; rintro e w' ⟨rfl, hw'⟩; have hw2 := hw'.symm; subst hw2) | (go_at_call 53; refine (hix.out _).mono ?_; rintro e w5 ⟨rfl, b5⟩; obtain ⟨q0, q1, q2, q3, q4, q5⟩ := hbox.out _ b5; replace b5 := hid b5))
    refine bodyPost_ret (v := .tuple #[.agg #[.string ⟨#[]⟩, .int .u8 0, .string ⟨#[]⟩], .string ⟨#[]⟩, .bool false]) ?_ rfl ⟨rfl, below_set3 (hlow.out _ b5.out) (Nat.le_refl _)⟩
    simp [results, Try.results39, go_sem, q0, q1, q2]
  · have e : Hid (takeA a s = takeM (Lib.trimPrefix s a)) := by unfold Hid takeA; rw [hp, trim_yes hp]; rfl
    rw [hp] at hcp
    rw [e.out]
    clear hp e
    generalize Lib.trimPrefix s a = r at *
    unfold takeM
    rcases cutS_index r with ⟨h1, h2⟩ | ⟨i, h1, h2, h3⟩
    · rw [h1] at hix
      rw [h2]
      clear h1 h2
      unfold matchV str opv signs at *
      go_enter Try.func39, Try.ntmps39
      go_wp2_with (first | (go_at_call 37; refine (hcp.out _).mono ?_; rintro e w' ⟨rfl, hw'⟩; have hw2 := hw'.symm; subst hw2) | (go_at_call 53; refine (hix.out _).mono ?_; rintro e w5 ⟨rfl, b5⟩; obtain ⟨q0, q1, q2, q3, q4, q5⟩ := hbox.out _ b5; replace b5 := hid b5))
      refine bodyPost_ret (v := .tuple #[.agg #[.string ⟨#[]⟩, .int .u8 0, .string ⟨#[]⟩], .string ⟨#[]⟩, .bool false]) ?_ rfl ⟨rfl, below_set3 (hlow.out _ b5.out) (Nat.le_refl _)⟩
      simp [results, Try.results39, go_sem, q0, q1, q2]
    · rw [h1] at hix
      rw [h3]
      simp only
      have hts := hid (takeSign_any (r.drop i))
      have hcl := hid (fun w => clone_any (r.take i) w (by simp; omega))
      have e1 : (⟨r.toArray⟩ : ByteArray).extract 0 i = ⟨(r.take i).toArray⟩ := by rw [ext_str, List.drop_zero]
      have e2 : (⟨r.toArray⟩ : ByteArray).extract i r.length = ⟨(r.drop i).toArray⟩ := by rw [ext_str, List.take_length]
      have c1 : (0 : Int) ≤ (i : Int) := by omega
      have c2 : (i : Int) ≤ (r.length : Int) := by omega
      have hdl : (r.drop i).length ≤ 4000000000 := by simp; omega
      clear h1 h3
      cases ht : takeS (r.drop i) with
      | none =>
        rw [ht] at hts
        unfold matchV signV str opv signs at *
        go_enter Try.func39, Try.ntmps39
        go_wp2_with (first | (go_at_call 37; refine (hcp.out _).mono ?_; rintro e w' ⟨rfl, hw'⟩; have hw2 := hw'.symm; subst hw2) | (go_at_call 53; refine (hix.out _).mono ?_; rintro e w5 ⟨rfl, b5⟩; replace b5 := hid b5) | (go_at_call 54; refine (hcl.out _).mono ?_; rintro e w6 ⟨rfl, b6⟩; replace b6 := hid (low' b5.out b6)) | (go_at_call 55; refine (hts.out _).mono ?_; rintro e w7 ⟨rfl, b7⟩; replace b7 := low' b6.out b7; obtain ⟨q0, q1, q2, q3, q4, q5⟩ := hbox.out _ b7; replace b7 := hid b7))
        trace_state
        refine bodyPost_ret (v := .tuple #[.agg #[.string ⟨#[]⟩, .int .u8 0, .string ⟨#[]⟩], .string ⟨#[]⟩, .bool false]) ?_ rfl ⟨rfl, below_set3 (hlow.out _ b7.out) (Nat.le_refl _)⟩
        simp [results, Try.results39, go_sem, q0, q1, q2]
      | some p =>
        obtain ⟨o, u⟩ := p
        rw [ht] at hts
        simp only
        have hul : u.length ≤ 4000000000 := by
          have := congrArg List.length (takeS_inv ht).2
          rw [List.length_append] at this
          omega
        have htv := hid (fun w => takeVal_any u w hul)
        cases hv : takeW u with
        | none =>
          rw [hv] at htv
          unfold matchV signV takenV str opv signs at *
          go_enter Try.func39, Try.ntmps39
          go_wp2_with (first | (go_at_call 37; refine (hcp.out _).mono ?_; rintro e w' ⟨rfl, hw'⟩; have hw2 := hw'.symm; subst hw2) | (go_at_call 53; refine (hix.out _).mono ?_; rintro e w5 ⟨rfl, b5⟩; replace b5 := hid b5) | (go_at_call 54; refine (hcl.out _).mono ?_; rintro e w6 ⟨rfl, b6⟩; replace b6 := hid (low' b5.out b6)) | (go_at_call 55; refine (hts.out _).mono ?_; rintro e w7 ⟨rfl, b7⟩; replace b7 := hid (low' b6.out b7)) | (go_at_call 56; refine (htv.out _).mono ?_; rintro e w8 ⟨rfl, b8⟩; replace b8 := low' b7.out b8; obtain ⟨q0, q1, q2, q3, q4, q5⟩ := hbox.out _ b8; replace b8 := hid b8))
          refine bodyPost_ret (v := .tuple #[.agg #[.string ⟨#[]⟩, .int .u8 0, .string ⟨#[]⟩], .string ⟨#[]⟩, .bool false]) ?_ rfl ⟨rfl, below_set3 (hlow.out _ b8.out) (Nat.le_refl _)⟩
          simp [results, Try.results39, go_sem, q0, q1, q2]
        | some p =>
          obtain ⟨v, t⟩ := p
          rw [hv] at htv
          unfold matchV signV takenV str opv signs at *
          go_enter Try.func39, Try.ntmps39
          go_wp2_with (first | (go_at_call 37; refine (hcp.out _).mono ?_; rintro e w' ⟨rfl, hw'⟩; have hw2 := hw'.symm; subst hw2) | (go_at_call 53; refine (hix.out _).mono ?_; rintro e w5 ⟨rfl, b5⟩; replace b5 := hid b5) | (go_at_call 54; refine (hcl.out _).mono ?_; rintro e w6 ⟨rfl, b6⟩; replace b6 := hid (low' b5.out b6)) | (go_at_call 55; refine (hts.out _).mono ?_; rintro e w7 ⟨rfl, b7⟩; replace b7 := hid (low' b6.out b7)) | (go_at_call 56; refine (htv.out _).mono ?_; rintro e w8 ⟨rfl, b8⟩; replace b8 := low' b7.out b8; obtain ⟨q0, q1, q2, q3, q4, q5⟩ := hbox.out _ b8; replace b8 := hid b8))
          refine bodyPost_ret (v := .tuple #[.agg #[.string ⟨(r.take i).toArray⟩, .int .u8 (o.toNat : Int), .string ⟨v.toArray⟩], .string ⟨t.toArray⟩, .bool true]) ?_ rfl ⟨rfl, below_set3 (hlow.out _ b8.out) (Nat.le_refl _)⟩
          simp [results, Try.results39, go_sem, q0, q1, q2]
end Go.Proofs.Ythbdghbfhjimkaa
