/- The chapter's examples, as the statements ask them first: awake returns true and changes nothing that was there. -/
import Derived.Test.YtffopkpbekjanaaW8
import Derived.Lib.SlBytesConst
import Derived.Laws.IdiomStrings
namespace Go.Proofs.Ytffopkpbekjanaa
open Go.RowKit

theorem conv_const (w : World) (C : Array Value) (n c g : Nat) (hg : g = w.heap.size) :
    (convert 22 22 (.slice (some ⟨g, 0, none⟩) n c)).run Try.prog (w.alloc (.cells C 5)) = .ok (.slice (some ⟨g, 0, none⟩) n c) (w.alloc (.cells C 5 (C.size, C.size + 1))) := by
  subst hg; exact Lib.run_convert_bytes_const w _ _ C n c Try.underlying22 Try.underlying5
theorem isB_mark (w : World) (C : Array Value) (zs : List Int) (t : TypeId) (fz : Nat × Nat) (n g : Nat) (hC : C = (zs.map (Value.int .u8)).toArray) (hg : g = w.heap.size) (hn : n = zs.length) (hm : zs.length ≤ maxLen) (hz : ∀ z ∈ zs, 0 ≤ z ∧ z < 256) :
    IsB (w.alloc (.cells C t fz)) (.slice (some ⟨g, 0, none⟩) n n) zs := by
  subst hn hg hC
  refine ⟨hm, hz, _, _, rfl, Nat.le_refl _, hm, .inr ⟨_, _, rfl, fun i hi => ?_⟩⟩
  rw [World.cell?_alloc_mark]
  simp only [Nat.zero_add, List.getElem?_toArray, List.getElem?_map]
  rw [List.getElem?_eq_getElem hi]; simp [List.getD, List.getElem?_eq_getElem hi]
theorem isB_none (w : World) : IsB w (.slice none 0 0) [] := ⟨by simp, by simp, none, 0, rfl, by simp, by simp, .inl rfl⟩
def sA : R := sum [1, 97]
theorem frA : fr [97] = [1, 97, (sA.toNat : Int) % 256, (sA.toNat : Int) / 256 % 256, (sA.toNat : Int) / 65536 % 256, (sA.toNat : Int) / 16777216 % 256] := by
  unfold fr
  rw [vi_lt (by decide)]
  rfl
theorem frA_len : (fr [97]).length = 6 := by rw [frA]; rfl
theorem frN : ∃ l, fr [] = 0 :: l ∧ (fr []).length = 5 := by
  unfold fr
  rw [vi_lt (by decide)]
  exact ⟨_, rfl, rfl⟩
theorem bytA : Byt [97] := by intro z hz; simp at hz; omega
theorem nextA : nextP (fr [97]) = some ([97], 6) := by
  have := next_fr (p := [97]) (by simp) []
  rw [List.append_nil, frA_len] at this
  exact this
theorem Own.cell {B : Nat} {w : World} {a : Option Addr} {n c : Nat} {zs : List Int} (h : Own B w (.slice a n c) zs) (hn : 0 < n) : ∃ g, a = some ⟨g, 0, none⟩ ∧ n = zs.length ∧ n ≤ c ∧ c ≤ 9223372036854775807 ∧ B ≤ g ∧ g < w.heap.size ∧ (∀ i, i < n → w.cell? ⟨g, i, none⟩ = some (.int .u8 (zs.getD i 0))) ∧ ∀ i, w.frozen? ⟨g, i, none⟩ = false := by
  rcases h.form with ⟨e, _⟩ | ⟨g, c', cur, e, h1, h2, hB, h3, _, h4⟩
  · cases e; omega
  · cases e
    unfold maxLen at h2
    exact ⟨g, rfl, rfl, h1, h2, hB, lt_of_block h3, (fun i hi => by rw [cell_of h3]; exact h4 i hi), fun i => frozen_of h3 i⟩

/-- the frame of a, in memory. -/
def IsA (w : World) (g c : Nat) : Prop := Own 0 w (.slice (some ⟨g, 0, none⟩) 6 c) (fr [97])
theorem IsA.cells {w : World} {g c : Nat} (h : IsA w g c) : (6 ≤ c ∧ c ≤ 9223372036854775807) ∧ w.cell? ⟨g, 0, none⟩ = some (.int .u8 1) ∧ w.cell? ⟨g, 1, none⟩ = some (.int .u8 97) ∧ w.cell? ⟨g, 2, none⟩ = some (.int .u8 ((sA.toNat : Int) % 256)) ∧ w.cell? ⟨g, 5, none⟩ = some (.int .u8 ((sA.toNat : Int) / 16777216)) := by
  obtain ⟨g', e, _, h1, h2, _, _, hc, _⟩ := Own.cell h (by omega)
  cases e
  have s32 := sA.isLt
  have c0 := hc 0 (by omega)
  have c1 := hc 1 (by omega)
  have c2 := hc 2 (by omega)
  have c5 := hc 5 (by omega)
  rw [frA] at c0 c1 c2 c5
  exact ⟨⟨h1, h2⟩, c0, c1, c2, c5.trans (by congr 2)⟩
theorem encA {w : World} {v : Value} (h : IsB w v [97]) : Calls Try.prog 10 #[v] w fun e w' => ∃ g c, e = .returned (.tuple #[.slice (some ⟨g, 0, none⟩) 6 c, .int .i64 0]) ∧ IsA w' g c ∧ Below w.heap.size w w' := by
  refine (encode_any _ [97] _ h (by simp)).mono ?_
  rintro e w1 ⟨a1, c1, rfl, o1, b1⟩
  rw [frA_len] at o1 ⊢
  obtain ⟨g, rfl, _⟩ := o1.cell (by omega)
  exact ⟨g, c1, rfl, o1.base (Nat.zero_le _), b1⟩
theorem encN (w : World) : Calls Try.prog 10 #[.slice none 0 0] w fun e w' => ∃ g c, e = .returned (.tuple #[.slice (some ⟨g, 0, none⟩) 5 c, .int .i64 0]) ∧ 5 ≤ c ∧ w'.cell? ⟨g, 0, none⟩ = some (.int .u8 0) ∧ Below w.heap.size w w' := by
  refine (encode_any _ [] _ (isB_none _) (by simp)).mono ?_
  rintro e w1 ⟨a1, c1, rfl, o1, b1⟩
  obtain ⟨l, h1, h2⟩ := frN
  rw [h2] at o1 ⊢
  obtain ⟨g, rfl, _, k1, _, _, _, hc, _⟩ := o1.cell (by omega)
  have := hc 0 (by omega)
  rw [h1] at this
  exact ⟨g, c1, rfl, k1, this, b1⟩
theorem sumA {w : World} {v : Value} (h : IsB w v [1, 97]) : Calls Try.prog 31 #[v] w fun e w' => e = .returned (.int .u32 (sA.toNat : Int)) ∧ Below w.heap.size w w' := sum_any _ _ _ h
theorem nextA6 {w : World} {g c : Nat} (h : IsA w g c) : Calls Try.prog 14 #[.slice (some ⟨g, 0, none⟩) 6 c] w fun e w' => ∃ h c, e = .returned (.tuple #[.slice (some ⟨h, 0, none⟩) 1 c, .int .i64 6, .int .i64 0]) ∧ 1 ≤ c ∧ w'.cell? ⟨h, 0, none⟩ = some (.int .u8 97) ∧ Below w.heap.size w w' := by
  refine (next_yes (Own.isB h) nextA).mono ?_
  rintro e w1 ⟨a1, c1, rfl, o1, b1⟩
  change Own _ w1 (.slice a1 1 c1) [97] at o1
  obtain ⟨g, rfl, _, k1, _, _, _, hc, _⟩ := o1.cell (by omega)
  exact ⟨g, c1, rfl, k1, hc 0 (by omega), b1⟩
theorem nextA5 {w : World} {g c : Nat} (h : IsA w g c) : Calls Try.prog 14 #[.slice (some ⟨g, 0, none⟩) 5 c] w fun e w' => e = .returned (.tuple #[.slice none 0 0, .int .i64 0, .int .i64 40]) ∧ Below w.heap.size w w' := by
  have hb := (Own.isB h).bound
  have hp := (Own.isB h).part 0 5 (by omega) (by omega) 5 c (by omega) (by omega) (by unfold maxLen; omega)
  refine next_no (zs := (fr [97]).take 5) (by simpa using hp) (torn bytA (by simp) (by rw [frA_len]; omega))
theorem next00 {w : World} {v : Value} (h : IsB w v (List.replicate 5 0)) : Calls Try.prog 14 #[v] w fun e w' => e = .returned (.tuple #[.slice none 0 0, .int .i64 0, .int .i64 40]) ∧ Below w.heap.size w w' := next_no h (next_noughts 5)
theorem IsA.below {w w' : World} {g c : Nat} (h : IsA w g c) (hb : Below w.heap.size w w') : IsA w' g c := Own.below h hb

set_option maxHeartbeats 4000000 in
theorem awake_any (w : World) :
    Calls Try.prog 18 #[] w fun e w' => e = .returned (.bool true) ∧ Below w.heap.size w w' := by
  have hcv := conv_const
  have s32 := sA.isLt
  go_enter Try.func18, Try.ntmps18
  go_wp2_with fail
  refine (encA (isB_mark _ _ [97] _ _ _ _ rfl rfl rfl (by decide +kernel) (by decide))).mono ?_
  rintro e w1 ⟨g1, c1, rfl, o1, b1⟩
  have O1 := hid o1
  have B1 := hid (low' ((Below.refl _ w).alloc (Nat.le_refl _) (.cells #[Value.int .u8 97] 5 (1, 2))) b1)
  clear o1 b1
  go_wp2_with fail
  refine (encN _).mono ?_
  rintro e w2 ⟨g2, c2, rfl, k2, h20, b2⟩
  have O2 := hid (O1.out.below b2)
  have B2 := hid (low' B1.out b2)
  obtain ⟨⟨k3, k4⟩, h10, h11, _, _⟩ := O2.out.cells
  clear b2 O1 B1
  go_wp2_with fail
  refine (sumA (isB_mark _ _ [1, 97] _ _ _ _ rfl rfl rfl (by decide +kernel) (by decide))).mono ?_
  rintro e w3 ⟨rfl, b3⟩
  have O3 := hid (O2.out.below (low' (alloc_below _ _) b3))
  have B3 := hid (low' B2.out (low' (alloc_below _ _) b3))
  clear b3 O2 B2 h20 h10 h11
  go_wp2_with fail
  refine (nextA6 O3.out).mono ?_
  rintro e w4 ⟨g4, c4, rfl, k5, h40, b4⟩
  have O4 := hid (O3.out.below b4)
  have B4 := hid (low' B3.out b4)
  have L4 := hid (World.block_lt_of_cell? w4 _ h40)
  have H40 := hid h40
  clear b4 O3 B3 h40
  go_wp2_with fail
  refine (nextA5 O4.out).mono ?_
  rintro e w5 ⟨rfl, b5⟩
  have O5 := hid (O4.out.below b5)
  have B5 := hid (low' B4.out b5)
  have H50 := hid ((b5.cell (p := ⟨g4, 0, none⟩) L4.out).trans H40.out)
  have L5 := hid (Nat.lt_of_lt_of_le L4.out b5.size)
  clear b5 O4 B4 H40 L4
  go_wp2_with fail
  refine (next00 (isB_mark _ _ (List.replicate 5 0) _ _ _ _ rfl rfl rfl (by decide +kernel) (by decide))).mono ?_
  rintro e w6 ⟨rfl, b6⟩
  have b6' := low' (alloc_below w5 _) b6
  have O6 := hid (O5.out.below b6')
  have B6 := hid (low' B5.out b6')
  have h60 := (b6'.cell (p := ⟨g4, 0, none⟩) L5.out).trans H50.out
  obtain ⟨_, h10, h11, h12, h15⟩ := O6.out.cells
  clear b6 b6' O5 B5 L5 H50 O6
  go_wp2
  go_ret
  exact ⟨rfl, B6.out⟩
end Go.Proofs.Ytffopkpbekjanaa
