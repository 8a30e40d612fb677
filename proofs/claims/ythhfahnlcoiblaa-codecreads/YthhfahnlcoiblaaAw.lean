/- The chapter's examples, as the statements ask them first: awake returns true and changes nothing that was there. -/
import Derived.Test.YthhfahnlcoiblaaO1
namespace Go.Proofs.Ythhfahnlcoiblaa
open Go.RowKit

theorem isB_new (w : World) (C : Array Value) (zs : List Int) (g n : Nat) (hg : g = w.heap.size) (hn : n = zs.length) (hC : C = (zs.map (Value.int .u8)).toArray) (hb : Byt zs) (hm : zs.length ≤ maxLen) : IsB (w.alloc (.cells C 5)) (.slice (some ⟨g, 0, none⟩) n n) zs :=
  (own_new w C zs g n hg hn hC hb hm).isB
theorem vi300 : vi 300 = [172, 2] := by rw [vi_ge (by decide), vi_lt (by decide)]; rfl
theorem byt_dec {zs : List Int} (h : (zs.all fun z => decide (0 ≤ z) && decide (z < 256)) = true) : Byt zs := fun z hz => by
  have := List.all_eq_true.1 h z hz
  simpa using this
set_option maxHeartbeats 4000000 in
theorem awake_any (w : World) :
    Calls Try.prog 25 #[] w fun e w' => e = .returned (.bool true) ∧ Below w.heap.size w w' := by
  go_enter Try.func25, Try.ntmps25
  go_wp2_with fail
  refine (m_new (Many.nil w)).mono ?_
  rintro e w1 ⟨p, rfl, m1⟩
  replace m1 := hid m1
  go_wp2_with fail
  refine (m_uint m1.out 0 rfl 300 (by omega) (by simp)).mono ?_
  rintro e w2 ⟨rfl, m2⟩
  rw [vi300] at m2
  replace m2 := hid m2
  clear m1
  go_wp2_with fail
  refine (m_int m2.out 0 rfl (-2) (by omega) (by simp)).mono ?_
  rintro e w3 ⟨rfl, m3⟩
  rw [show zz (-2) = 3 by decide, vi_lt (by decide)] at m3
  replace m3 := hid m3
  clear m2
  go_wp2_with fail
  refine (m_text m3.out 0 rfl [97, 98] (by simp) (by simp)).mono ?_
  rintro e w4 ⟨rfl, m4⟩
  rw [show ([97, 98] : List UInt8).length = 2 from rfl, vi_lt (by decide)] at m4
  replace m4 := hid m4
  clear m3
  go_wp2_with fail
  refine (m_bool m4.out 0 rfl true (by simp [ints])).mono ?_
  rintro e w5 ⟨rfl, m5⟩
  replace m5 := hid m5
  clear m4
  go_wp2_with fail
  refine (m_len m5.out 0 rfl (-5) (by omega) (by simp [ints])).mono ?_
  rintro e w6 ⟨rfl, m6⟩
  rw [show (-5 : Int).toNat = 0 from rfl, vi_lt (by decide)] at m6
  have m6' : Many w.heap.size w w6 [.wr p [172, 2, 3, 2, 97, 98, 1, 0]] := m6
  replace m6' := hid m6'
  clear m5 m6
  go_wp2_with fail
  refine (m_over (m6'.out.later (alloc_below _ _)) _ (isB_new w6 _ [7, 1] _ _ rfl rfl rfl (byt_dec (by decide)) (by decide)) (by simp)).mono ?_
  rintro e w7 ⟨p2, rfl, m7⟩
  replace m7 := hid m7
  clear m6'
  have r1 : rnum 18446744073709551615 (some [7, 1]) = (7, some [1]) := by decide +kernel
  have r2 : rnum 18446744073709551615 (some [1]) = (1, some []) := by decide +kernel
  have r3 : rnum 18446744073709551615 (some [128, 0]) = (0, none) := by decide +kernel
  have r4 : lenP 4 (some [5]) = (0, none) := by decide +kernel
  replace r1 := hid r1
  replace r2 := hid r2
  replace r3 := hid r3
  replace r4 := hid r4
  go_wp2_with fail
  refine (m_ruint m7.out 1 rfl).mono ?_
  rw [r1.out]
  rintro e w8 ⟨rfl, m8⟩
  replace m8 := hid m8
  clear m7
  go_wp2_with fail
  refine (m_done m8.out 1 rfl).mono ?_
  rintro e w9 ⟨rfl, rfl⟩
  go_wp2_with fail
  refine (m_ruint m8.out 1 rfl).mono ?_
  rw [r2.out]
  rintro e w10 ⟨rfl, m10⟩
  replace m10 := hid m10
  clear m8
  go_wp2_with fail
  refine (m_done m10.out 1 rfl).mono ?_
  rintro e w11 ⟨rfl, rfl⟩
  go_wp2_with fail
  refine (m_over (m10.out.later (alloc_below _ _)) _ (isB_new w11 _ [128, 0] _ _ rfl rfl rfl (byt_dec (by decide)) (by decide)) (by simp)).mono ?_
  rintro e w12 ⟨p3, rfl, m12⟩
  replace m12 := hid m12
  clear m10
  go_wp2_with fail
  refine (m_ruint m12.out 2 rfl).mono ?_
  rw [r3.out]
  rintro e w13 ⟨rfl, m13⟩
  replace m13 := hid m13
  clear m12
  go_wp2_with fail
  refine (m_over (m13.out.later (alloc_below _ _)) _ (isB_new w13 _ [5] _ _ rfl rfl rfl (byt_dec (by decide)) (by decide)) (by simp)).mono ?_
  rintro e w14 ⟨p4, rfl, m14⟩
  replace m14 := hid m14
  clear m13
  go_wp2_with fail
  refine (m_rlen m14.out 3 rfl 4 (by omega)).mono ?_
  rw [r4.out]
  rintro e w15 ⟨rfl, m15⟩
  replace m15 := hid m15
  clear m14
  go_wp2_with fail
  refine (m_out m15.out 0 rfl (by simp)).mono ?_
  rintro e w16 ⟨a, c, rfl, o16, m16, b16⟩
  replace m16 := hid m16
  replace o16 := hid o16
  clear m15 b16
  go_wp2_with fail
  refine (same_any _ _ _ _ _ (o16.out.below (alloc_below _ _)).isB (isB_new w16 _ [172, 2, 3, 2, 97, 98, 1, 0] _ _ rfl rfl rfl (byt_dec (by decide)) (by decide))).mono ?_
  rintro e w17 ⟨rfl, n, rfl⟩
  have m17 := hid ((m16.out.later (alloc_below w16 (.cells #[Value.int .u8 172, .int .u8 2, .int .u8 3, .int .u8 2, .int .u8 97, .int .u8 98, .int .u8 1, .int .u8 0] 5))).heap n)
  clear m16 o16
  go_wp2_with fail
  refine (m_err m17.out 2 rfl).mono ?_
  rintro e w18 ⟨rfl, rfl⟩
  go_wp2_with fail
  refine (m_err m17.out 3 rfl).mono ?_
  rintro e w19 ⟨rfl, rfl⟩
  go_wp2
  go_ret
  exact ⟨rfl, m17.out.low⟩
end Go.Proofs.Ythhfahnlcoiblaa
