/- Contracts of the document's store: Get. -/
import Derived.Test.YtinnegkkfaaceaaRefA
import Derived.Deep.RegionHeld3
import Derived.Deep.RegionWith
import Derived.Laws.ResultCell
namespace Go.Proofs.Ytinnegkkfaaceaa
open Go.RowKit Go.Maps Go.MapKept Go.Shelf

section
variable {B rb : Nat} {R : Rs}
set_option maxHeartbeats 1000000 in
theorem rget_no (w : World) (h : RefAt B w rb R) (n : List UInt8) (hl : R.ps.length ≤ 1000) (hr : R.abs.why n ≠ 0) : Calls Try.prog 14 #[ptr rb, str n] w fun e w' => e = .returned (.tuple #[.agg #[str [], .slice none 0 0, .int .i64 0], .int .i64 (R.abs.why n)]) ∧ Below w.heap.size w w' := by
  have hb := alloc_below w (.cells #[str [], .slice none 0 0, .int .i64 0] 35)
  have hf := hid (rrefuse _ (h.below hb) n hl)
  have hr' : (R.abs.why n == 0) = false := by simpa using hr
  replace hb := hid hb
  clear h hr
  generalize R.abs.why n = r at *
  unfold ptr str at *
  go_enter Try.func14, Try.ntmps14
  go_wp2_with (go_at_call 38; refine hf.out.mono ?_; rintro e w' ⟨rfl, rfl⟩)
  (try simp only [Exit.inBlock, Exit.then])
  refine bodyPost_ret (v := .tuple #[.agg #[.string ⟨#[]⟩, .slice none 0 0, .int .i64 0], .int .i64 r]) ?_ rfl ⟨rfl, hb.out⟩
  rw [results_cell_tmp rfl]
  go_simp
set_option maxHeartbeats 1000000 in
theorem rget_yes (w : World) (h : RefAt B w rb R) (n : List UInt8) (hl : R.ps.length ≤ 1000) (h0 : R.left ≠ 0) {i : Nat} {x : Ent × Value} (hx : R.ps[i]? = some x) (hxn : x.1.name = n) (hn : ∀ (j : Nat), j < i → ∀ (q : Ent × Value), R.ps[j]? = some q → q.1.name ≠ n) (hlk : lookE n R.abs.l = some x.1) : Calls Try.prog 14 #[ptr rb, str n] w fun e w' => e = .returned (.tuple #[.agg #[str x.1.name, x.2, .int .i64 (x.1.s : Int)], .int .i64 0]) ∧ Below w.heap.size w w' := by
  have hb := alloc_below w (.cells #[str [], .slice none 0 0, .int .i64 0] 35)
  have h1 := h.below hb
  have hf := rrefuse _ h1 n hl
  have e0 : R.abs.why n = 0 := by unfold St.why; rw [if_neg (show ¬ R.abs.left = 0 from h0), hlk]
  rw [e0] at hf
  replace hf := hid hf
  have hfd := hid (rfind_hit _ (h1.below (w' := (w.alloc (.cells #[str [], .slice none 0 0, .int .i64 0] 35)).drew) (undrew' (Below.refl _ _))) n hl hx hxn hn)
  have hi := (List.getElem?_eq_some_iff.1 hx).1
  have hi' : (i : Int) < (R.ps.length : Int) := by omega
  obtain ⟨lb, lc, hlv, k0, k1, k2, _, _⟩ := h1.at hx
  obtain ⟨xa, xc, hx2⟩ := row_slice (h.els x (List.mem_of_getElem? hx))
  have c0 : (w.alloc (.cells #[str [], .slice none 0 0, .int .i64 0] 35)).cell? ⟨rb, 0, none⟩ = some (.slice (some ⟨lb, 0, none⟩) R.ps.length lc) := by rw [cell_of h1.cell, hlv]; rfl
  have fin : Hid (Below w.heap.size w (w.alloc (.cells #[str x.1.name, .slice xa x.1.b.length xc, .int .i64 (x.1.s : Int)] 35))) := alloc_below w _
  rw [hx2] at k1 ⊢
  clear h hlk hb h1 hn hx hlv e0 hxn
  unfold ptr str at *
  go_enter Try.func14, Try.ntmps14
  go_wp2_with (go_at_call 38; refine hf.out.mono ?_; rintro e w' ⟨rfl, rfl⟩)
  go_region_with (go_at_call 39; refine hfd.out.mono ?_; rintro e w' ⟨rfl, rfl⟩)
  all_goals (go_wp2; (try simp only [Exit.inBlock, Exit.then]); refine bodyPost_ret (v := .tuple #[.agg #[.string ⟨x.1.name.toArray⟩, .slice xa x.1.b.length xc, .int .i64 (x.1.s : Int)], .int .i64 0]) ?_ rfl ⟨rfl, undrew' fin.out⟩; rw [results_cell_tmp rfl]; go_simp)
end
end Go.Proofs.Ytinnegkkfaaceaa
