/- Contract of Tell. -/
import Derived.Test.YtlggdeadkebgiaaC6
namespace Go.Proofs.Ytlggdeadkebgiaa
open Go.RowKit Go.Shelf

set_option maxHeartbeats 400000 in
theorem clone_any (s : Tx) (w : World) (hs : s.length ≤ 35184372088832) : Calls Try.prog 19 #[str s] w fun e w' => e = .returned (str s) ∧ Below w.heap.size w w' := by
  have hi := hid (Try.stringslite_Clone ⟨s.toArray⟩ w (by rw [size_of]; omega))
  unfold str
  go_enter Try.func19, Try.ntmps19
  go_wp2_with (go_at_call 26; refine hi.out.mono ?_; rintro e w' ⟨rfl, b8⟩)
  go_ret
  exact ⟨rfl, b8⟩
/-- a function that tells what a text's tokens are. -/
def TellPost (s : Tx) (w : World) (e : Ending) (w' : World) : Prop :=
  ∃ (g : Nat) (lb : Array Value) (Dat : World → Prop), e = .returned (.func (.func g) #[] lb) ∧ (∀ args w, (callFunc g args).run Try.prog w = .ok (.enter g args) w) ∧ Below w.heap.size w w' ∧ Dat w' ∧ (∀ A B, Dat A → (∀ b, w.heap.size ≤ b → b < w'.heap.size → B.heap[b]? = A.heap[b]?) → Dat B) ∧ ∀ r, TellOf s r → ∀ W0, Gives2 Try.prog g lb r.length (rowOf r) Dat W0
set_option maxRecDepth 100000 in
set_option maxHeartbeats 1000000 in
theorem tell_any (s : Tx) (w : World) (hs : s.length ≤ 35184372088832) : Calls Try.prog 12 #[str s] w (TellPost s w) := by
  by_cases hl : 4096 < s.length
  · have hl' : (4096 : Int) < (s.length : Int) := by omega
    have fin : Hid (TellPost s w (.returned (.func (.func 18) #[] #[])) w) :=
      ⟨_, _, fun _ => True, rfl, enters_of Try.func18 (by kernel_rfl) rfl, Below.refl _ _, trivial, fun _ _ _ _ => trivial, fun r hr W0 => by
        rcases hr with ⟨_, rfl⟩ | ⟨h, _⟩
        · exact tell1_gives W0
        · omega⟩
    unfold str
    clear hs hl
    go_enter Try.func12, Try.ntmps12
    go_wp2
    go_ret
    exact fin.out
  · have hl' : ¬ (4096 : Int) < (s.length : Int) := by omega
    have fin : Hid (∀ w1, Below w.heap.size w w1 → TellPost s w (.returned (.func (.func 20) #[] #[.pointer (some ⟨w1.heap.size, 0, none⟩)])) (w1.alloc (.cells #[.string ⟨s.toArray⟩] 9))) := fun w1 hb =>
      ⟨_, _, fun W => W.cell? ⟨w1.heap.size, 0, none⟩ = some (.string ⟨s.toArray⟩), rfl, enters_of Try.func20 (by kernel_rfl) rfl, low' hb (alloc_below _ _), (Boxed.new w1 _ _).cell, fun A B hA hk => (cell_block (hk _ hb.size (by simp))).trans hA, fun r hr W0 => by
        rcases hr with ⟨h, _⟩ | ⟨h, l, b, hsc, rfl⟩
        · omega
        · exact tell2_gives W0 _ s l b h hsc⟩
    have hcl := hid (clone_any s w hs)
    unfold str at *
    clear hs hl
    go_enter Try.func12, Try.ntmps12
    go_wp2_with (go_at_call 19; refine hcl.out.mono ?_; rintro e w1 ⟨rfl, hb⟩)
    go_ret
    exact fin.out _ hb
end Go.Proofs.Ytlggdeadkebgiaa
