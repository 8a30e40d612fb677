/- The chapter's examples, as the statements ask them first: awake returns true and changes nothing that was there. -/
import Derived.Test.YtfakplbgheljbaaW2
import Derived.Lib.SlBytesConst
import Derived.Laws.IdiomStrings
namespace Go.Proofs.Ytfakplbgheljbaa
open Go.RowKit

theorem conv_const (w : World) (C : Array Value) (n c g : Nat) (hg : g = w.heap.size) :
    (convert 24 24 (.slice (some ⟨g, 0, none⟩) n c)).run Try.prog (w.alloc (.cells C 5)) = .ok (.slice (some ⟨g, 0, none⟩) n c) (w.alloc (.cells C 5 (C.size, C.size + 1))) := by
  subst hg; exact Lib.run_convert_bytes_const w _ _ C n c Try.underlying24 Try.underlying5
theorem isB_mark (w : World) (C : Array Value) (zs : List Int) (t : TypeId) (fr : Nat × Nat) (n g : Nat) (hC : C = (zs.map (Value.int .u8)).toArray) (hg : g = w.heap.size) (hn : n = zs.length) (hm : zs.length ≤ maxLen) (hz : ∀ z ∈ zs, 0 ≤ z ∧ z < 256) :
    IsB (w.alloc (.cells C t fr)) (.slice (some ⟨g, 0, none⟩) n n) zs := by
  subst hn hg hC
  refine ⟨hm, hz, _, _, rfl, Nat.le_refl _, hm, .inr ⟨_, _, rfl, fun i hi => ?_⟩⟩
  rw [World.cell?_alloc_mark]
  simp only [Nat.zero_add, List.getElem?_toArray, List.getElem?_map]
  rw [List.getElem?_eq_getElem hi]; simp [List.getD, List.getElem?_eq_getElem hi]
theorem isB_none (w : World) : IsB w (.slice none 0 0) [] := ⟨by simp, by simp, none, 0, rfl, by simp, by simp, .inl rfl⟩
theorem isP_none (w : World) : IsP w (.slice none 0 0) [] := ⟨by simp, none, 0, rfl, .inl rfl⟩
def tA : List Int := [97]
def tB : List Int := [49, 50, 51, 52, 53, 54, 55, 56, 57]
def tC : List Int := [49, 50]
def tD : List Int := [51, 52, 53, 54, 55, 56, 57]
def tE : List Int := [49, 50, 51, 52]
def tF : List Int := [53, 54, 55, 56, 57]

def s3 : R := sum [tC, [], tD].flatten
def s4 : R := sum ([] : List (List Int)).flatten
def s5 : R := txn (8 * 5) (sum tE) ^^^ sum tF
def s6 : R := txn (8 * 0) 7#32 ^^^ 9#32

set_option maxHeartbeats 4000000 in
theorem awake_any (w : World) :
    Calls Try.prog 16 #[] w fun e w' => e = .returned (.bool true) ∧ Below w.heap.size w w' := by
  have t0 : (((sum []).toNat : Int) == 0) = true := by decide +kernel
  have t1 : (((sum tA).toNat : Int) == 3251651376) = true := by decide +kernel
  have t2 : (((sum tB).toNat : Int) == 3808858755) = true := by decide +kernel
  have t3 : ((s3.toNat : Int) == 3808858755) = true := by decide +kernel
  have t4 : ((s4.toNat : Int) == 0) = true := by decide +kernel
  have t5 : ((s5.toNat : Int) == 3808858755) = true := by decide +kernel
  have t6 : ((s6.toNat : Int) == 14) = true := by decide +kernel
  have hcv := conv_const
  go_enter Try.func16, Try.ntmps16
  go_wp2_with fail
  refine (sum_any _ [] _ (isB_none _)).mono ?_
  rintro e w1 ⟨rfl, b1⟩
  go_wp2_with fail
  refine (sum_any _ tA _ (isB_mark _ _ _ _ _ _ _ rfl rfl rfl (by decide +kernel) (by decide))).mono ?_
  rintro e w2 ⟨rfl, c2⟩
  have b2 : Below w.heap.size w w2 := (b1.alloc b1.size _).trans (c2.mono (by have := b1.size; simp; omega))
  clear c2 b1
  go_wp2_with fail
  refine (sum_any _ tB _ (isB_mark _ _ _ _ _ _ _ rfl rfl rfl (by decide +kernel) (by decide))).mono ?_
  rintro e w3 ⟨rfl, c3⟩
  have b3 : Below w.heap.size w w3 := (b2.alloc b2.size _).trans (c3.mono (by have := b2.size; simp; omega))
  clear c3 b2
  have n4 : IsB (w3.alloc (.cells #[.int .u8 49, .int .u8 50] 5 (2, 3))) (.slice (some ⟨w3.heap.size, 0, none⟩) 2 2) tC := isB_mark _ _ _ _ _ _ _ rfl rfl rfl (by decide +kernel) (by decide)
  have N4 := hid n4
  clear n4
  go_wp2_with fail
  refine (of_any _ [tC, [], tD] _ (isP_three _ _ (by simp) (N4.out.below ((Below.refl _ _).alloc (Nat.le_refl _) _)) (isB_none _) (isB_mark _ _ _ _ _ _ _ rfl (by simp) rfl (by decide +kernel) (by decide)))).mono ?_
  rintro e w4 ⟨he, h4⟩
  obtain rfl : e = .returned (.int .u32 (s3.toNat : Int)) := he
  have b4 : Below w.heap.size w w4 := by
    rw [h4]
    have := b3.size
    exact ((b3.alloc this _).alloc (by simp; omega) _).alloc (by simp; omega) _
  clear N4 h4 b3
  go_wp2_with fail
  refine (of_any _ [] _ (isP_none _)).mono ?_
  rintro e w5 ⟨he, rfl⟩
  obtain rfl : e = .returned (.int .u32 (s4.toNat : Int)) := he
  go_wp2_with fail
  refine (sum_any _ tE _ (isB_mark _ _ _ _ _ _ _ rfl rfl rfl (by decide +kernel) (by decide))).mono ?_
  rintro e w6 ⟨rfl, c6⟩
  have b6 : Below w.heap.size w w6 := (b4.alloc b4.size _).trans (c6.mono (by have := b4.size; simp; omega))
  clear c6 b4
  go_wp2_with fail
  refine (sum_any _ tF _ (isB_mark _ _ _ _ _ _ _ rfl rfl rfl (by decide +kernel) (by decide))).mono ?_
  rintro e w7 ⟨rfl, c7⟩
  have b7 : Below w.heap.size w w7 := (b6.alloc b6.size _).trans (c7.mono (by have := b6.size; simp; omega))
  clear c7 b6
  go_wp2_with fail
  refine (join_any _ _ 5 _ (by decide)).mono ?_
  rintro e w8 ⟨he, rfl⟩
  obtain rfl : e = .returned (.int .u32 (s5.toNat : Int)) := he
  go_wp2_with fail
  refine (join_any 7#32 9#32 0 _ (by decide)).mono ?_
  rintro e w8 ⟨he, rfl⟩
  obtain rfl : e = .returned (.int .u32 (s6.toNat : Int)) := he
  go_wp2_with fail
  refine (join_neg 7#32 9#32 (-1) _ (by decide)).mono ?_
  rintro e w8 ⟨rfl, rfl⟩
  go_wp2
  go_ret
  exact ⟨rfl, b7⟩
end Go.Proofs.Ytfakplbgheljbaa
