/- Contract of the map of questions: which function stands at an Op; what each asks. -/
import Derived.Test.YthbdghbfhjimkaaMM
import Derived.Test.YthbdghbfhjimkaaShelf
import Derived.Maps.OwnOps
import Derived.Maps.OwnSet
import Derived.Maps.Views
import Derived.WalkArith
namespace Go.Proofs.Ythbdghbfhjimkaa
open Go.RowKit Go.Shelf Go.Maps

/-- how the map's elements read: a function's number. -/
def fnR (v : Value) : Option (DataW Unit × List MemPlace) :=
  match v with
  | .func (.func k) f c => if f.size = 0 ∧ c.size = 0 then some (.lit (.int .i64 (k : Int)), []) else none
  | .nilFunc => some (.nil, [])
  | _ => none
theorem fnR_inv {v : Value} {k : Nat} {ps : List MemPlace} (h : fnR v = some (.lit (.int .i64 (k : Int)), ps)) : v = .func (.func k) #[] #[] := by
  unfold fnR at h
  split at h
  · split at h
    · rename_i hz
      simp at h
      have e := h.1
      rw [Int.ofNat_inj.1 e, Array.eq_empty_of_size_eq_zero hz.1, Array.eq_empty_of_size_eq_zero hz.2]
    · cases h
  · simp at h
  · cases h
theorem fnR_nil {v : Value} {ps : List MemPlace} (h : fnR v = some (.nil, ps)) : v = .nilFunc := by
  unfold fnR at h
  split at h
  · split at h
    · simp at h
    · cases h
  · rfl
  · cases h
theorem lawU : Keyed Try.prog 5 := int_keyed Try.underlying5
theorem keyU (o : UInt8) : keyOf Try.prog 5 (opv o) = some (.int .u8 (o.toNat : Int)) := keyOf_int_mk Try.underlying5 (WalkArith.wf_u8 (by
  have := UInt8.toNat_lt o
  omega))
theorem zeroF (w : World) : (zeroValue 47).run Try.prog w = .ok .nilFunc w := by kernel_rfl
def keyAt (n : Nat) : Lit := .int .u8 (n : Int)
def numAt (n : Nat) : DataW Unit := .lit (.int .i64 (n : Int))
def D3 : DataW Unit := (((DataW.map []).put (keyAt 0) (numAt 40)).put (keyAt 1) (numAt 41)).put (keyAt 2) (numAt 38)
/-- the function at an Op. -/
def fnAt (o : UInt8) : Value := if o = 0 then .func (.func 40) #[] #[] else if o = 1 then .func (.func 41) #[] #[] else if o = 2 then .func (.func 38) #[] #[] else .nilFunc
def QsAt (w : World) (b : Nat) : Prop := ∃ n, w.ownsMap Try.prog 5 fnR b n D3
theorem isMap0 : IsMap (DataW.map [] : DataW Unit) := ⟨[], rfl⟩
theorem key_ne {a b : Nat} (h : a ≠ b) : keyAt a ≠ keyAt b := by
  unfold keyAt
  intro e
  injection e with e1 e2
  exact h (Int.ofNat_inj.1 e2)
theorem D3_at (o : UInt8) : D3.atKey (keyAt o.toNat) .nil = if o = 0 then numAt 40 else if o = 1 then numAt 41 else if o = 2 then numAt 38 else .nil := by
  have m1 := isMap0.put (keyAt 0) (numAt 40)
  have m2 := m1.put (keyAt 1) (numAt 41)
  have hk : ∀ n, WideAt.IsKeyLit (keyAt n) := fun n => trivial
  unfold D3
  by_cases h2 : o = 2
  · subst h2
    rw [if_neg (by decide), if_neg (by decide), if_pos rfl]
    exact atKey_put_same m2 (hk 2) _ _
  · have n2 : o.toNat ≠ 2 := fun e => h2 (UInt8.toNat_inj.1 e)
    rw [atKey_put_other (key_ne n2)]
    by_cases h1 : o = 1
    · subst h1
      rw [if_neg (by decide), if_pos rfl]
      exact atKey_put_same m1 (hk 1) _ _
    · have n1 : o.toNat ≠ 1 := fun e => h1 (UInt8.toNat_inj.1 e)
      rw [atKey_put_other (key_ne n1)]
      by_cases h0 : o = 0
      · subst h0
        rw [if_pos rfl]
        exact atKey_put_same isMap0 (hk 0) _ _
      · have n0 : o.toNat ≠ 0 := fun e => h0 (UInt8.toNat_inj.1 e)
        rw [atKey_put_other (key_ne n0), if_neg h0, if_neg h1, if_neg h2]
        rfl
theorem look_at {w : World} {b : Nat} (h : QsAt w b) (o : UInt8) : (Instr.lookup 45 (.map (some b)) (opv o) false).run Try.prog w = .ok (fnAt o) w := by
  obtain ⟨n, h⟩ := h
  obtain ⟨v, ps, hrun, hv⟩ := h.lookup lawU Try.underlying45 (zeroF w) (zd := .nil) (zp := []) rfl (keyU o)
  rw [hrun]
  have e := D3_at o
  unfold keyAt at e
  rw [e] at hv
  unfold fnAt
  by_cases h0 : o = 0
  · rw [if_pos h0] at hv ⊢
    rw [fnR_inv hv]
  · rw [if_neg h0] at hv ⊢
    by_cases h1 : o = 1
    · rw [if_pos h1] at hv ⊢
      rw [fnR_inv hv]
    · rw [if_neg h1] at hv ⊢
      by_cases h2 : o = 2
      · rw [if_pos h2] at hv ⊢
        rw [fnR_inv hv]
      · rw [if_neg h2] at hv ⊢
        rw [fnR_nil hv]
theorem QsAt.lt {w : World} {b : Nat} (h : QsAt w b) : b < w.heap.size := by
  obtain ⟨n, h⟩ := h
  exact h.lt
theorem QsAt.block {w w' : World} {b : Nat} (h : QsAt w b) (hb : w'.heap[b]? = w.heap[b]?) : QsAt w' b := by
  obtain ⟨n, es, clock, h1, h2⟩ := h
  exact ⟨n, es, clock, hb.trans h1, h2⟩
theorem QsAt.below {w w' : World} {b : Nat} (h : QsAt w b) (hb : Below w.heap.size w w') : QsAt w' b := h.block (hb.block b h.lt)
theorem grown_below {w w' : World} {B b : Nat} (h : w.grownBy w' (some b)) (hB : B ≤ w.heap.size) (hb : B ≤ b) : Below B w w' :=
  ⟨h.os, h.tape, h.output, h.size, fun k hk => h.block k (by omega) fun e => by cases e; omega⟩
set_option maxHeartbeats 1000000 in
theorem questions_any (w : World) : Calls Try.prog 23 #[] w fun e w' => ∃ b, e = .returned (.map (some b)) ∧ QsAt w' b ∧ Below w.heap.size w w' := by
  have hmm := @run_makeMap Try.prog
  have h0 := World.ownsMap_made w Try.prog 5 fnR
  have hs0 : (w.alloc (.map #[] 0)).heap.size = w.heap.size + 1 := by simp
  have b0 := alloc_below w (.map #[] 0)
  obtain ⟨w1, r1, h1, g1⟩ := h0.update lawU Try.underlying45 (by decide) (keyU 0) (val := .func (.func 40) #[] #[]) (d := numAt 40) (ps := []) rfl
  have b1 := b0.trans (grown_below g1 (by omega) (Nat.le_refl _))
  obtain ⟨w2, r2, h2, g2⟩ := h1.update lawU Try.underlying45 (by decide) (keyU 1) (val := .func (.func 41) #[] #[]) (d := numAt 41) (ps := []) rfl
  have b2 := b1.trans (grown_below g2 b1.size (Nat.le_refl _))
  obtain ⟨w3, r3, h3, g3⟩ := h2.update lawU Try.underlying45 (by decide) (keyU 2) (val := .func (.func 38) #[] #[]) (d := numAt 38) (ps := []) rfl
  have b3 := hid (b2.trans (grown_below g3 b2.size (Nat.le_refl _)))
  have q3 : Hid (QsAt w3 w.heap.size) := ⟨_, h3⟩
  have e1 : opv 0 = .int .u8 0 := rfl
  have e2 : opv 1 = .int .u8 1 := rfl
  have e3 : opv 2 = .int .u8 2 := rfl
  rw [e1] at r1
  rw [e2] at r2
  rw [e3] at r3
  clear h0 h1 h2 h3 g1 g2 g3 b0 b1 b2 hs0 e1 e2 e3
  go_enter Try.func23, Try.ntmps23
  go_wp2
  go_ret
  exact ⟨_, rfl, q3.out, b3.out⟩
end Go.Proofs.Ythbdghbfhjimkaa
