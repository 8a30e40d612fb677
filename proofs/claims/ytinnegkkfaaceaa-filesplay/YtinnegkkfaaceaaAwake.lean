/- Some of the chapter's rows, as the statements ask them (awake). -/
import Derived.Test.YtinnegkkfaaceaaTold
import Derived.Laws.BytesArg
namespace Go.Proofs.Ytinnegkkfaaceaa
open Go.RowKit Go.Maps Go.MapKept Go.Shelf

def T1 : St := ⟨[⟨[97], [1, 2, 3], 0⟩], 1, -1⟩
def T2 : St := ⟨[⟨[97], [1, 2, 3], 3⟩], 2, -1⟩
def T3 : St := ⟨[⟨[97], [1, 2, 3, 4, 5], 3⟩], 3, -1⟩
def T4 : St := ⟨[⟨[97], [1, 2, 3, 4, 5], 3⟩, ⟨[98], [6], 0⟩], 4, -1⟩
def T5 : St := ⟨[⟨[97], [1, 2, 3, 4], 4⟩, ⟨[98], [], 0⟩], 4, -1⟩
theorem t1 : St.append ⟨[], 0, -1⟩ [97] [1, 2, 3] = (0, T1) := rfl
theorem t2 : T1.sync [97] = (0, T2) := rfl
theorem t3 : T2.append [97] [4, 5] = (0, T3) := rfl
theorem t4 : T3.append [98] [6] = (0, T4) := rfl
theorem t5 : T4.crash [1] = T5 := rfl
theorem alloc_below (w : World) (o : Obj) : Below w.heap.size w (w.alloc o) := (Below.refl _ _).alloc (Nat.le_refl _) _
theorem strOf_ints (bs : List UInt8) : strOfNums (ints bs) = ⟨bs.toArray⟩ := by
  have h : (strOfNums (ints bs)).data.toList = bs := by
    rw [strOfNums_data]
    unfold ints
    rw [List.map_map]
    have : ((fun n : Int => UInt8.ofNat n.toNat) ∘ fun c : UInt8 => (c.toNat : Int)) = id := by
      funext c; simp
    rw [this, List.map_id]
  have h2 : (strOfNums (ints bs)).data = bs.toArray := by rw [← Array.toArray_toList (xs := (strOfNums (ints bs)).data), h]
  cases hx : strOfNums (ints bs) with
  | mk d => rw [hx] at h2; simp only at h2; rw [h2]
/-- string(b). -/
theorem conv_str {w : World} {v : Value} {bs : List UInt8} (h : IsB w v bs) : (convert 30 9 v).run Try.prog w = .ok (str bs) w := by
  obtain ⟨_, a, c, rfl, h2⟩ := h
  rcases h2 with rfl | ⟨b, off, rfl, hc⟩
  · cases a with
    | none => exact run_convert_bytes_nil w 30 5 Try.underlying30 Try.underlying5 0 c 9 Try.underlying9
    | some ad =>
      have e := run_convert_bytes_string (P := Try.prog) w 30 9 5 (some ad) 0 c Try.underlying30 Try.underlying5 Try.underlying9
      have e2 := run_bytesToString (P := Try.prog) w ad 0 c [] (by simp [loadCells, loadCellsFrom])
      show (convert 30 9 (.slice (some ad) 0 c)).run Try.prog w = _
      rw [e, e2]; rfl
  · have e := run_convert_bytes_arg (P := Try.prog) w 30 5 Try.underlying30 Try.underlying5 b off bs.length c (ints bs) (by simp [ints]) (fun i hi => by rw [hc i hi, ints_at]) 9 Try.underlying9
    rw [e, strOf_ints]; rfl
theorem low {B : Nat} {w w1 w2 : World} (L : Below B w w1) (hB : B ≤ w1.heap.size) (hb : Below w1.heap.size w1 w2) : Below B w w2 := L.trans (hb.mono hB)
theorem Is.fresh {B sb : Nat} {w : World} {g : Gs} {t : St} (h : Is B w sb g t) {k : Nat} (hk : w.heap.size ≤ k) : ¬ foot sb g k := fun e => by have := h.1.lt e; omega
set_option maxHeartbeats 4000000 in
theorem awake_any (w : World) : Calls Try.prog 20 #[] w fun e w' => e = .returned (.bool true) ∧ Below w.heap.size w w' := by
  go_enter Try.func20, Try.ntmps20
  go_wp2_with fail
  refine (new_t _).mono ?_
  rintro e w1 ⟨rfl, h1, hb1, hs1⟩
  have L1 := hid hb1
  replace h1 := hid h1
  clear hb1 hs1
  generalize g0 w.heap.size = g1 at h1
  generalize w.heap.size + 1 = sb at h1 ⊢
  unfold ptr
  go_wp2_with fail
  have h1' := h1.out.below (alloc_below w1 (.cells ([1, 2, 3].map bv).toArray 5))
  refine (append_t _ h1' [97] (by decide) _ [1, 2, 3] (isB_lit w1 [1, 2, 3] 3 (by decide)) (by decide) t1).mono ?_
  rintro e w2 ⟨rfl, g2, s2, h2⟩
  have L2 := hid ((low L1.out h1.out.2.2 (alloc_below _ _)).trans (s2.low h1'))
  replace h2 := hid h2
  clear h1 h1' s2 L1
  go_wp2_with fail
  refine (sync_t _ h2.out [97] (by decide) (by decide) t2).mono ?_
  rintro e w3 ⟨rfl, g3, s3, h3⟩
  have L3 := hid (L2.out.trans (s3.low h2.out))
  replace h3 := hid h3
  clear h2 s3 L2
  go_wp2_with fail
  have h3' := h3.out.below (alloc_below w3 (.cells ([4, 5].map bv).toArray 5))
  refine (append_t _ h3' [97] (by decide) _ [4, 5] (isB_lit w3 [4, 5] 2 (by decide)) (by decide) t3).mono ?_
  rintro e w4 ⟨rfl, g4, s4, h4⟩
  have L4 := hid ((low L3.out h3.out.2.2 (alloc_below _ _)).trans (s4.low h3'))
  replace h4 := hid h4
  clear h3 h3' s4 L3
  go_wp2_with fail
  have h4' := h4.out.below (alloc_below w4 (.cells ([6].map bv).toArray 5))
  refine (append_t _ h4' [98] (by decide) _ [6] (isB_lit w4 [6] 1 (by decide)) (by decide) t4).mono ?_
  rintro e w5 ⟨rfl, g5, s5, h5⟩
  have L5 := hid ((low L4.out h4.out.2.2 (alloc_below _ _)).trans (s5.low h4'))
  replace h5 := hid h5
  clear h4 h4' s5 L4
  go_wp2_with fail
  refine (size_t (x := 5) (r := 0) _ h5.out [97] (by decide) rfl).mono ?_
  rintro e w6 ⟨rfl, b6⟩
  have h6 := hid (h5.out.below b6)
  have L6 := hid (low L5.out h5.out.2.2 b6)
  clear h5 L5 b6
  go_wp2_with fail
  have h6' := h6.out.below (alloc_below w6 (.cells ([1].map (Value.int .i64)).toArray 3))
  refine (crash_t _ h6' _ [1] (isI_lit w6 [1] 1 (by decide) (by decide) (by simp)) (fun _ b e => by cases e; exact fun hf => h6.out.fresh (Nat.le_refl _) hf)).mono ?_
  rintro e w7 ⟨rfl, g7, s7, h7⟩
  rw [t5] at h7
  have L7 := hid ((low L6.out h6.out.2.2 (alloc_below _ _)).trans (s7.low h6'))
  replace h7 := hid h7
  clear h6 h6' s7 L6
  go_wp2_with fail
  refine (read_t (bs := [1, 2, 3, 4]) (r := 0) _ h7.out [97] (by decide) rfl).mono ?_
  rintro e w8 ⟨a8, c8, rfl, o8, b8⟩
  have h8 := hid (h7.out.below b8)
  have L8 := hid (low L7.out h7.out.2.2 b8)
  replace o8 := hid (ownsRow_base (base' := 0) o8 fun _ _ => Nat.zero_le _)
  clear h7 L7 b8
  go_wp2_with fail
  refine (read_t (bs := []) (r := 0) _ h8.out [98] (by decide) rfl).mono ?_
  rintro e w9 ⟨a9, c9, rfl, o9, b9⟩
  have L9 := hid (low L8.out h8.out.2.2 b9)
  have o8' := hid (ownsRow_block o8.out fun k hk => b9.block k (o8.out.lt k hk).2)
  clear h8 L8 b9 o9 o8
  have hcv := conv_str (isB_row o8'.out)
  unfold str at hcv
  simp only [List.length_cons, List.length_nil, Nat.zero_add, Nat.reduceAdd] at hcv ⊢
  go_wp2
  go_ret
  exact ⟨rfl, L9.out⟩
end Go.Proofs.Ytinnegkkfaaceaa
