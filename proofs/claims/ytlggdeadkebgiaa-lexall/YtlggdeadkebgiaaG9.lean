/- What the frame tells of a string that came in; the openers that the laws import. -/
import Derived.Test.YtlggdeadkebgiaaA9
import Derived.ProofKit
import Derived.OpenShut
import Derived.ShutString
import Derived.ChangeOld
import Derived.Deep.Slices
import Derived.Deep.RegionHeld3
namespace Go.Proofs.Ytlggdeadkebgiaa
open Go.RowKit

theorem str_of (s : ByteArray) : Value.string s = str s.data.toList := by
  unfold str
  cases s; simp
/-- one text behind another, with a line's end between. -/
theorem cat_line (s t : Tx) : (⟨s.toArray⟩ : ByteArray) ++ ⟨#[10]⟩ ++ ⟨t.toArray⟩ = ⟨(s ++ 10 :: t).toArray⟩ := by
  rw [show (⟨#[10]⟩ : ByteArray) = ⟨([10] : Tx).toArray⟩ from rfl, app_str, app_str]
  simp
end Go.Proofs.Ytlggdeadkebgiaa
