/- Contracts of the program's sums: Of over pieces in memory, Sum over bytes in memory. -/
import Derived.Test.YtffopkpbekjanaaW1
import Derived.Test.YtffopkpbekjanaaPlain2
import Derived.Deep.QuietTactic
import Derived.BigQuiet
import Derived.Below
namespace Go.Proofs.Ytffopkpbekjanaa
open Go.RowKit

/-- a slice's value over a row of bytes. -/
def IsB (w : World) (v : Value) (zs : List Int) : Prop :=
  zs.length ≤ maxLen ∧ (∀ z ∈ zs, 0 ≤ z ∧ z < 256) ∧ ∃ a cap, v = .slice a zs.length cap ∧ zs.length ≤ cap ∧ cap ≤ maxLen ∧ (zs = [] ∨ ∃ b off, a = some ⟨b, off, none⟩ ∧ ∀ i, i < zs.length → w.cell? ⟨b, off + i, none⟩ = some (.int .u8 (zs.getD i 0)))
/-- a slice's value over a row of such slices. -/
def IsP (w : World) (v : Value) (l : List (List Int)) : Prop :=
  l.length ≤ maxLen ∧ ∃ a cap, v = .slice a l.length cap ∧ (l = [] ∨ ∃ b off, a = some ⟨b, off, none⟩ ∧ ∀ i, i < l.length → ∃ u, w.cell? ⟨b, off + i, none⟩ = some u ∧ IsB w u (l.getD i []))
theorem hid {p : Prop} (h : p) : Hid p := h
theorem getD_mem (zs : List Int) (i : Nat) (h : i < zs.length) : zs.getD i 0 ∈ zs := by
  simp [List.getD, List.getElem?_eq_getElem h]
theorem byt_nat (z : Int) (h0 : 0 ≤ z) (h : z < 256) : z = ((byt z).toNat : Int) := by
  unfold byt; rw [BitVec.toNat_ofInt]; omega
theorem step_form (l : R) (z : Int) : step l z = txn 8 (l ^^^ byt z) := rfl
theorem ones_not (x : R) : (4294967295 : Int) - (x.toNat : Int) = ((x ^^^ ones).toNat : Int) := by
  have h : x ^^^ ones = ~~~x := by unfold ones; rw [show (0xffffffff#32 : R) = BitVec.allOnes 32 by decide +kernel, BitVec.xor_allOnes]
  rw [h, BitVec.toNat_not]; have := x.isLt; omega

set_option maxHeartbeats 2000000 in
theorem of_any (v : Value) (l : List (List Int)) (w : World) (h : IsP w v l) :
    Calls Try.prog 32 #[v] w fun e w' => e = .returned (.int .u32 ((sum l.flatten).toNat : Int)) ∧ w' = w := by
  obtain ⟨hm, a, cap, rfl, hc⟩ := h
  unfold maxLen at hm
  have HC : Hid (l = [] ∨ ∃ b off, a = some ⟨b, off, none⟩ ∧ ∀ i, i < l.length → ∃ u, w.cell? ⟨b, off + i, none⟩ = some u ∧ IsB w u (l.getD i [])) := hc
  clear hc
  go_enter Try.func32, Try.ntmps32
  go_wp2
  go_loop [3, 10] (fun p i => ∃ (k : Nat), k ≤ l.length ∧ i = .int .i64 k ∧ p = .int .u32 ((raw ones (l.take k).flatten).toNat : Int)) (fun _ i => l.length - (intOf i).toNat)
  case atStart => exact ⟨0, by omega, rfl, rfl⟩
  case round =>
    obtain ⟨k, hk, rfl, rfl⟩ := hrel
    by_cases hlt : k < l.length
    · have hlt' : (k : Int) < (l.length : Int) := by omega
      obtain ⟨b, off, rfl, hcell⟩ : ∃ b off, a = some ⟨b, off, none⟩ ∧ ∀ i, i < l.length → ∃ u, w.cell? ⟨b, off + i, none⟩ = some u ∧ IsB w u (l.getD i []) := by
        rcases HC.out with h | h
        · subst h; simp at hlt
        · exact h
      obtain ⟨u, hcu, hzm, hzb, a1, cap1, rfl, _, _, hc1⟩ := hcell k hlt
      clear hcell
      have HF := hid (flat_take l k hlt)
      generalize l.getD k [] = zs at *
      unfold maxLen at hzm
      have HZ : Hid (∀ z ∈ zs, 0 ≤ z ∧ z < 256) := hzb
      have HC1 : Hid (zs = [] ∨ ∃ b off, a1 = some ⟨b, off, none⟩ ∧ ∀ i, i < zs.length → w.cell? ⟨b, off + i, none⟩ = some (.int .u8 (zs.getD i 0))) := hc1
      clear hzb hc1
      go_wp2
      go_loop [3, 16] (fun p i => ∃ (j : Nat), j ≤ zs.length ∧ i = .int .i64 j ∧ p = .int .u32 ((raw ones ((l.take k).flatten ++ zs.take j)).toNat : Int)) (fun _ i => zs.length - (intOf i).toNat)
      case atStart => exact ⟨0, by omega, rfl, by simp⟩
      case round =>
        obtain ⟨j, hj, rfl, rfl⟩ := hrel
        by_cases hjt : j < zs.length
        · have hjt' : (j : Int) < (zs.length : Int) := by omega
          obtain ⟨b1, off1, rfl, hcell1⟩ : ∃ b off, a1 = some ⟨b, off, none⟩ ∧ ∀ i, i < zs.length → w.cell? ⟨b, off + i, none⟩ = some (.int .u8 (zs.getD i 0)) := by
            rcases HC1.out with h | h
            · subst h; simp at hjt
            · exact h
          have hcz := hcell1 j hjt
          have hz := HZ.out _ (getD_mem zs j hjt)
          clear hcell1
          have HT := hid (take_snoc zs j hjt)
          generalize zs.getD j 0 = z at *
          obtain ⟨hz0, hz1⟩ := hz
          have HX : Hid (bits .xor .u32 ((raw ones ((l.take k).flatten ++ zs.take j)).toNat : Int) z = ((raw ones ((l.take k).flatten ++ zs.take j) ^^^ byt z).toNat : Int)) := by
            have h := bx (raw ones ((l.take k).flatten ++ zs.take j)) (byt z)
            rw [← byt_nat z hz0 hz1] at h
            exact h
          go_wp2
          go_loop [3, 24] (fun p i => ∃ (m : Nat), m ≤ 8 ∧ i = .int .i64 m ∧ p = .int .u32 ((txn m (raw ones ((l.take k).flatten ++ zs.take j) ^^^ byt z)).toNat : Int)) (fun _ i => 8 - (intOf i).toNat)
          case atStart => exact ⟨0, by omega, rfl, congrArg (Value.int .u32) HX.out⟩
          case round =>
            obtain ⟨m, hm8, rfl, rfl⟩ := hrel
            by_cases hmt : m < 8
            · have hmt' : (m : Int) < 8 := by omega
              go_wp2_with (go_at_call 39; refine (tx_any _ _).mono ?_; rintro e w' ⟨rfl, rfl⟩)
              go_round
              case rel => exact ⟨m + 1, by omega, by go_num, by rw [txn_succ]⟩
              case measure => simp [intOf]; omega
            · have hmt' : ¬ (m : Int) < 8 := by omega
              obtain rfl : m = 8 := by omega
              go_wp2
              go_round
              case rel => exact ⟨j + 1, by omega, by go_num, by rw [HT.out, ← List.append_assoc, raw_snoc, step_form]⟩
              case measure => simp [intOf]; omega
        · have hjt' : ¬ (j : Int) < (zs.length : Int) := by omega
          go_wp2
          go_round
          case rel => exact ⟨k + 1, by omega, by go_num, by rw [HF.out, List.take_of_length_le (show zs.length ≤ j by omega)]⟩
          case measure => simp [intOf]; omega
    · have hlt' : ¬ (k : Int) < (l.length : Int) := by omega
      go_wp2
      go_ret
      refine ⟨ret_int ?_, rfl⟩
      rw [show IntKind.u32.max = (ones.toNat : Int) from rfl, bx, List.take_of_length_le (by omega), BitVec.xor_comm]
      rfl

theorem IsB.below {w w' : World} {v : Value} {zs : List Int} (h : IsB w v zs) (hb : Below w.heap.size w w') : IsB w' v zs := by
  obtain ⟨h1, h2, a, cap, rfl, h4, h5, h3⟩ := h
  refine ⟨h1, h2, a, cap, rfl, h4, h5, ?_⟩
  rcases h3 with rfl | ⟨b, off, rfl, hc⟩
  · exact .inl rfl
  · refine .inr ⟨b, off, rfl, fun i hi => ?_⟩
    have := hc i hi
    rw [hb.cell (p := ⟨b, off + i, none⟩) (World.block_lt_of_cell? w _ this)]
    exact this
theorem IsP.below {w w' : World} {v : Value} {l : List (List Int)} (h : IsP w v l) (hb : Below w.heap.size w w') : IsP w' v l := by
  obtain ⟨h1, a, cap, rfl, h3⟩ := h
  refine ⟨h1, a, cap, rfl, ?_⟩
  rcases h3 with rfl | ⟨b, off, rfl, hc⟩
  · exact .inl rfl
  · refine .inr ⟨b, off, rfl, fun i hi => ?_⟩
    obtain ⟨u, hu, hB⟩ := hc i hi
    refine ⟨u, ?_, hB.below hb⟩
    rw [hb.cell (p := ⟨b, off + i, none⟩) (World.block_lt_of_cell? w _ hu)]
    exact hu

theorem isP_alloc (w : World) (vs : List Value) (l : List (List Int)) (t : TypeId) (n g : Nat) (hg : g = w.heap.size) (hn : n = l.length) (hm : n ≤ maxLen) (h : ∀ i, i < l.length → ∃ u, vs[i]? = some u ∧ IsB w u (l.getD i [])) :
    IsP (w.alloc (.cells vs.toArray t)) (.slice (some ⟨g, 0, none⟩) n n) l := by
  subst hn hg
  refine ⟨hm, _, _, rfl, .inr ⟨_, _, rfl, fun i hi => ?_⟩⟩
  obtain ⟨u, hu, hB⟩ := h i hi
  refine ⟨u, ?_, hB.below ((Below.refl _ _).alloc (Nat.le_refl _) _)⟩
  rw [World.cell?_alloc_new]
  simpa using hu
theorem isP_one {w : World} {v : Value} {zs : List Int} (t : TypeId) (h : IsB w v zs) : IsP (w.alloc (.cells #[v] t)) (.slice (some ⟨w.heap.size, 0, none⟩) 1 1) [zs] :=
  isP_alloc w [v] [zs] t 1 _ rfl rfl (by unfold maxLen; omega) (fun i hi => by
    match i, hi with
    | 0, _ => exact ⟨_, rfl, h⟩)
theorem isP_two {w : World} {v v' : Value} {zs zs' : List Int} (t : TypeId) (g : Nat) (hg : g = w.heap.size) (h : IsB w v zs) (h' : IsB w v' zs') : IsP (w.alloc (.cells #[v, v'] t)) (.slice (some ⟨g, 0, none⟩) 2 2) [zs, zs'] :=
  isP_alloc w [v, v'] [zs, zs'] t 2 g hg rfl (by unfold maxLen; omega) (fun i hi => by
    match i, hi with
    | 0, _ => exact ⟨_, rfl, h⟩
    | 1, _ => exact ⟨_, rfl, h'⟩)
theorem isP_three {w : World} {v v' v'' : Value} {zs zs' zs'' : List Int} (t : TypeId) (g : Nat) (hg : g = w.heap.size) (h : IsB w v zs) (h' : IsB w v' zs') (h'' : IsB w v'' zs'') : IsP (w.alloc (.cells #[v, v', v''] t)) (.slice (some ⟨g, 0, none⟩) 3 3) [zs, zs', zs''] :=
  isP_alloc w [v, v', v''] [zs, zs', zs''] t 3 g hg rfl (by unfold maxLen; omega) (fun i hi => by
    match i, hi with
    | 0, _ => exact ⟨_, rfl, h⟩
    | 1, _ => exact ⟨_, rfl, h'⟩
    | 2, _ => exact ⟨_, rfl, h''⟩)

set_option maxHeartbeats 1000000 in
theorem sum_any (v : Value) (zs : List Int) (w : World) (h : IsB w v zs) :
    Calls Try.prog 31 #[v] w fun e w' => e = .returned (.int .u32 ((sum zs).toNat : Int)) ∧ Below w.heap.size w w' := by
  obtain ⟨a, cap, rfl⟩ : ∃ a cap, v = .slice a zs.length cap := by obtain ⟨_, _, a, cap, h, _⟩ := h; exact ⟨a, cap, h⟩
  have H := hid h
  clear h
  go_enter Try.func31, Try.ntmps31
  go_wp2_with (go_at_call 32; refine (of_any _ _ _ (isP_one _ H.out)).mono ?_; rintro e w' ⟨rfl, rfl⟩)
  go_ret
  exact ⟨ret_int (by simp), (Below.refl _ _).alloc (Nat.le_refl _) _⟩
end Go.Proofs.Ytffopkpbekjanaa
