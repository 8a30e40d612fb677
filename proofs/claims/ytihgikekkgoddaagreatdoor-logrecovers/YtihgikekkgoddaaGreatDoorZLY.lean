/- Contract of the law's same, at like records. -/
import Derived.Test.YtihgikekkgoddaaGreatDoorZLX
import Derived.Deep.QuietTactic
import Derived.BigQuiet
namespace Go.Proofs.YtihgikekkgoddaaGreatDoor
open Go.RowKit Go.Shelf Sto

theorem strOf5 (bs : List UInt8) : strOfNums (ints bs) = ⟨bs.toArray⟩ := by
  have h : (strOfNums (ints bs)).data.toList = bs := by
    rw [strOfNums_data]
    exact byts_ints bs
  have h2 : (strOfNums (ints bs)).data = bs.toArray := by rw [← Array.toArray_toList (xs := (strOfNums (ints bs)).data), h]
  exact ByteArray.ext h2
theorem conv5 {w : World} {v : Value} {bs : List UInt8} (h : Frm.IsB w v (ints bs)) : (convert 22 9 v).run Tryz.prog w = .ok (str bs) w := by
  obtain ⟨_, a, c, rfl, h2⟩ := isB_ints h
  rcases h2 with rfl | ⟨b, off, rfl, hc⟩
  · cases a with
    | none => exact run_convert_bytes_nil w 22 5 Tryz.underlying22 Tryz.underlying5 0 c 9 Tryz.underlying9
    | some ad =>
      have e := run_convert_bytes_string (P := Tryz.prog) w 22 9 5 (some ad) 0 c Tryz.underlying22 Tryz.underlying5 Tryz.underlying9
      have e2 := run_bytesToString (P := Tryz.prog) w ad 0 c [] (by simp [loadCells, loadCellsFrom])
      show (convert 22 9 (.slice (some ad) 0 c)).run Tryz.prog w = _
      rw [e, e2]; rfl
  · have e := run_convert_bytes_arg (P := Tryz.prog) w 22 5 Tryz.underlying22 Tryz.underlying5 b off bs.length c (ints bs) (by simp [ints]) (fun i hi => by
      rw [hc i hi, bv_ints]; simp [List.getD, ints, hi]) 9 Tryz.underlying9
    rw [e, strOf5]; rfl
/-- records in memory. -/
def IsR (w : World) (v : Value) (l : List (List UInt8)) : Prop := ∃ a c, v = .slice a l.length c ∧ l.length ≤ c ∧ c ≤ maxLen ∧ (l = [] ∨ ∃ b off, a = some ⟨b, off, none⟩ ∧ ∀ i (hi : i < l.length), ∃ u, w.cell? ⟨b, off + i, none⟩ = some u ∧ Frm.IsB w u (ints l[i]))
theorem recs_isR {B : Nat} {w : World} {v : Value} {l : List (List UInt8)} (h : Recs B w v (l.map ints)) : IsR w v l := by
  obtain ⟨us, h1, h2, h3⟩ := h
  rw [List.length_map] at h1 h2
  rcases h2.2 with ⟨rfl, h0⟩ | ⟨g, cap, cur, rfl, _, _, h4, h5, _⟩
  · refine ⟨none, 0, by rw [h0], by omega, by omega, .inl (List.eq_nil_of_length_eq_zero h0)⟩
  · refine ⟨_, cap, rfl, h4, h5, .inr ⟨g, 0, rfl, fun i hi => ?_⟩⟩
    obtain ⟨u, h6, h7⟩ := h3 i (by simpa using hi)
    refine ⟨u, ?_, ?_⟩
    · have := h2.cells (g := g) rfl i u h6
      rwa [Addr.add_lit] at this
    · rw [List.getElem_map] at h7; exact h7.isB
theorem IsR.below {w w' : World} {v : Value} {l : List (List UInt8)} (h : IsR w v l) (hb : Below w.heap.size w w') : IsR w' v l := by
  obtain ⟨a, c, h1, h2, h3, h4⟩ := h
  refine ⟨a, c, h1, h2, h3, h4.imp id ?_⟩
  rintro ⟨b, off, rfl, h5⟩
  refine ⟨b, off, rfl, fun i hi => ?_⟩
  obtain ⟨u, h6, h7⟩ := h5 i hi
  exact ⟨u, (hb.cell (p := ⟨b, off + i, none⟩) (World.block_lt_of_cell? w _ h6)).trans h6, h7.below hb⟩
set_option maxRecDepth 100000 in
set_option maxHeartbeats 4000000 in
theorem same_yes (w : World) (va vb : Value) (l : List (List UInt8)) (ha : IsR w va l) (hb : IsR w vb l) :
    Calls Tryz.prog 20 #[va, vb] w fun e w' => e = .returned (.bool true) ∧ ∃ n, w' = w.drewN n := by
  obtain ⟨a, c, rfl, ha1, ha2, ha3⟩ := ha
  obtain ⟨b, d, rfl, hb1, hb2, hb3⟩ := hb
  go_enter Tryz.func20, Tryz.ntmps20
  go_wp2
  go_loopw [5] (fun iv wr => ∃ (i n : Nat), i ≤ l.length ∧ iv = .int .i64 (i : Int) ∧ wr = w.drewN n) (fun iv _ => l.length - (intOf iv).toNat)
  case atStart => exact ⟨0, 0, Nat.zero_le _, rfl, rfl⟩
  case round =>
    obtain ⟨i, n, hi, rfl, hwr⟩ := hrel
    subst hwr
    by_cases hlt : i < l.length
    · obtain ⟨p, o, rfl, hpc⟩ := ha3.resolve_left (fun e => by rw [e] at hlt; simp at hlt)
      obtain ⟨q, o', rfl, hqc⟩ := hb3.resolve_left (fun e => by rw [e] at hlt; simp at hlt)
      obtain ⟨u, hu1, hu2⟩ := hpc i hlt
      obtain ⟨u', hu3, hu4⟩ := hqc i hlt
      have cv1 : ∀ m, (convert 22 9 u).run Tryz.prog (w.drewN m) = .ok (str l[i]) (w.drewN m) := fun m => conv5 (w := w.drewN m) hu2
      have cv2 : ∀ m, (convert 22 9 u').run Tryz.prog (w.drewN m) = .ok (str l[i]) (w.drewN m) := fun m => conv5 (w := w.drewN m) hu4
      have hi9 : (i : Int) + 1 ≤ 9223372036854775807 := by unfold maxLen at ha2; omega
      have hit : decide ((i : Int) < (l.length : Int)) = true := by simp; omega
      clear hpc hqc hu2 hu4 ha3 hb3
      unfold str at cv1 cv2
      generalize l[i] = li at *
      go_wp2_with fail
      go_region
      all_goals
        go_wp2
        exact ⟨⟨i + 1, n + 1, hlt, rfl, rfl⟩, by simp [intOf]; omega⟩
    · obtain rfl : i = l.length := by omega
      go_wp2
      go_ret
      exact ⟨rfl, n, rfl⟩
end Go.Proofs.YtihgikekkgoddaaGreatDoor
