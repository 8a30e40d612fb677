/- Contract of takeLabel. -/
import Derived.Test.YthbdghbfhjimkaaV1
namespace Go.Proofs.Ythbdghbfhjimkaa
open Go.RowKit Go.Shelf

/-- what takeLabel tells. -/
def labelV : Option (Lb × Tx) → Value
  | none => .tuple #[.agg #[str [], str []], str [], .bool false]
  | some (x, r) => .tuple #[.agg #[str x.1, str x.2], str r, .bool true]
theorem below_set2 {B b i j : Nat} {w W : World} {u v : Value} (h : Below B w W) (hb : B ≤ b) : Below B w ((W.setCell ⟨b, i, none⟩ u).setCell ⟨b, j, none⟩ v) :=
  h.trans ⟨rfl, rfl, rfl, by rw [size_set, size_set]; exact Nat.le_refl _, fun k hk => by rw [heap_set _ _ _ _ _ (by omega), heap_set _ _ _ _ _ (by omega)]⟩
/-- a new label in a block of its own, whatever came behind. -/
theorem box_new (w : World) : ∀ W, Below (w.alloc (.cells #[.string ⟨#[]⟩, .string ⟨#[]⟩] 44)).heap.size (w.alloc (.cells #[.string ⟨#[]⟩, .string ⟨#[]⟩] 44)) W →
    W.cell? ⟨w.heap.size, 0, none⟩ = some (.string ⟨#[]⟩) ∧ W.cell? ⟨w.heap.size, 1, none⟩ = some (.string ⟨#[]⟩) ∧ W.frozen? ⟨w.heap.size, 0, none⟩ = false ∧ W.frozen? ⟨w.heap.size, 1, none⟩ = false := fun W hW => by
  have hnb := (hW.block w.heap.size (by simp)).trans (new_block w (.cells #[.string ⟨#[]⟩, .string ⟨#[]⟩] 44))
  exact ⟨by rw [cell_of hnb]; rfl, by rw [cell_of hnb]; rfl, frozen_of hnb 0, frozen_of hnb 1⟩
set_option maxHeartbeats 2000000 in
theorem takeLabel_any (s : Tx) (w : World) (hs : s.length ≤ 35184372088832) : Calls Try.prog 73 #[str s] w fun e w' => e = .returned (labelV (takeL s)) ∧ Below w.heap.size w w' := by
  have hcut := hid (fun w => cut_any s w hs)
  have hbox := hid (box_new w)
  have hlow := hid (fun W (h : Below (w.alloc (.cells #[.string ⟨#[]⟩, .string ⟨#[]⟩] 44)).heap.size (w.alloc (.cells #[.string ⟨#[]⟩, .string ⟨#[]⟩] 44)) W) => low' (alloc_below w (.cells #[.string ⟨#[]⟩, .string ⟨#[]⟩] 44)) h)
  unfold takeL
  cases hc : cutE s with
  | none =>
    rw [hc] at hcut
    unfold labelV cutV str at *
    go_enter Try.func73, Try.ntmps73
    go_wp2_with (go_at_call 76; refine (hcut.out _).mono ?_; rintro e w' ⟨rfl, n, rfl⟩)
    refine bodyPost_ret (v := .tuple #[.agg #[.string ⟨#[]⟩, .string ⟨#[]⟩], .string ⟨#[]⟩, .bool false]) ?_ rfl ⟨rfl, below_set2 (below_drewN (alloc_below _ _)) (Nat.le_refl _)⟩
    simp [results, Try.results73, go_sem]
  | some p =>
    obtain ⟨n, r⟩ := p
    have hsp := (cutE_inv s hc).1
    have hln : n.length ≤ 35184372088832 ∧ r.length ≤ 35184372088832 := by
      rw [hsp] at hs
      simp at hs
      omega
    rw [hc] at hcut
    simp only
    have htv := hid (fun w => takeValue_any r w hln.2)
    have hcl := hid (fun w => clone_any n w hln.1)
    clear hsp hc
    cases ht : takeV r with
    | none =>
      rw [ht] at htv
      unfold labelV cutV takenV str at *
      go_enter Try.func73, Try.ntmps73
      go_wp2_with (first | (go_at_call 76; refine (hcut.out _).mono ?_; rintro e w' ⟨rfl, k, rfl⟩) | (go_at_call 77; refine (htv.out _).mono ?_; rintro e w' ⟨rfl, b5⟩; replace b5 := low' (below_drewN (n := k) (Below.refl _ (w.alloc (.cells #[.string ⟨#[]⟩, .string ⟨#[]⟩] 44)))) b5; obtain ⟨q0, q1, q2, q3⟩ := hbox.out w' b5; replace b5 := hid b5))
      refine bodyPost_ret (v := .tuple #[.agg #[.string ⟨#[]⟩, .string ⟨#[]⟩], .string ⟨#[]⟩, .bool false]) ?_ rfl ⟨rfl, below_set2 (hlow.out _ b5.out) (Nat.le_refl _)⟩
      simp [results, Try.results73, go_sem, q0, q1]
    | some q =>
      obtain ⟨v, t⟩ := q
      rw [ht] at htv
      unfold labelV cutV takenV str at *
      go_enter Try.func73, Try.ntmps73
      go_wp2_with (first | (go_at_call 76; refine (hcut.out _).mono ?_; rintro e w' ⟨rfl, k, rfl⟩) | (go_at_call 77; refine (htv.out _).mono ?_; rintro e w' ⟨rfl, b5⟩; replace b5 := hid (low' (below_drewN (n := k) (Below.refl _ (w.alloc (.cells #[.string ⟨#[]⟩, .string ⟨#[]⟩] 44)))) b5)) | (go_at_call 54; refine (hcl.out _).mono ?_; rintro e w2 ⟨rfl, b6⟩; replace b6 := low' b5.out b6; obtain ⟨q0, q1, q2, q3⟩ := hbox.out w2 b6; replace b6 := hid b6))
      refine bodyPost_ret (v := .tuple #[.agg #[.string ⟨n.toArray⟩, .string ⟨v.toArray⟩], .string ⟨t.toArray⟩, .bool true]) ?_ rfl ⟨rfl, below_set2 (hlow.out _ b6.out) (Nat.le_refl _)⟩
      simp [results, Try.results73, go_sem, q0, q1]
end Go.Proofs.Ythbdghbfhjimkaa
