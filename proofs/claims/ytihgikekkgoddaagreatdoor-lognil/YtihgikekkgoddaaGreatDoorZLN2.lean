/- LogNil's walk. -/
import Derived.Test.YtihgikekkgoddaaGreatDoorZLN1
namespace Go.Proofs.YtihgikekkgoddaaGreatDoor
open Go.RowKit Go.Shelf Sto

theorem nilL_below {w w' : World} {p : Option Addr} (h : NilL w p) (hb : Below w.heap.size w w') : NilL w' p := by
  rcases h with h | ⟨b, h1, h2⟩
  · exact .inl h
  · exact .inr ⟨b, h1, (hb.cell (p := ⟨b, 0, none⟩) (World.block_lt_of_cell? w ⟨b, 0, none⟩ h2)).trans h2⟩
set_option maxRecDepth 100000 in
set_option maxHeartbeats 8000000 in
theorem logNil_walk (s : ByteArray) (a : Option Addr) (n c : Nat) (w : World) : Calls Tryz.prog 3 #[.string s, .slice a n c] w fun e w' => e = .returned (.bool true) ∧ Below w.heap.size w w' := by
  by_cases hs : 1000 < s.size
  · have h1 : decide ((1000 : Int) < (s.size : Int)) = true := by simp; omega
    go_enter Tryz.func3, Tryz.ntmps3
    go_wp2
    go_ret
    exact ⟨rfl, Below.refl _ _⟩
  · by_cases hn : 1000 < n
    · have h1 : decide ((1000 : Int) < (s.size : Int)) = false := by simp; omega
      have h2 : decide ((1000 : Int) < (n : Int)) = true := by simp; omega
      go_enter Tryz.func3, Tryz.ntmps3
      go_wp2
      go_ret
      exact ⟨rfl, Below.refl _ _⟩
    · have h1 : decide ((1000 : Int) < (s.size : Int)) = false := by simp; omega
      have h2 : decide ((1000 : Int) < (n : Int)) = false := by simp; omega
      have o1 := hid (open_nil (nilS_none w) s)
      clear hs hn
      go_enter Tryz.func3, Tryz.ntmps3
      go_wp2_with fail
      refine o1.out.mono ?_
      rintro e w1 ⟨rfl, hb1⟩
      have hz : (w1.alloc (.cells #[.map none, .int .i64 0, .int .i64 0] 31)).cell? ⟨w1.heap.size, 0, none⟩ = some (.map none) := by
        rw [cell_of (MapKept.heap_alloc w1 _).1]; rfl
      have o2 := hid (open_nil (nilS_zero hz) s)
      have B1 := hid hb1
      clear hb1 o1 hz
      go_wp2_with fail
      refine o2.out.mono ?_
      rintro e w2 ⟨rfl, hb2⟩
      have B2 : Hid (Below w.heap.size w w2) := B1.out.trans (((alloc_low w1 _).trans (hb2.mono (by simp))).mono B1.out.size)
      clear hb2 o2 B1
      have aw := hid (fun w => awake_any w)
      obtain ⟨W, hW⟩ : ∃ W, W = (w2.alloc (.cells #[.pointer none, .string ⟨#[]⟩, .int .i64 0, .int .i64 0, .bool false] 33)).alloc (.cells #[.pointer none, .pointer (some ⟨w2.heap.size, 0, none⟩)] 24) := ⟨_, rfl⟩
      have s1 : (w2.alloc (.cells #[.pointer none, .string ⟨#[]⟩, .int .i64 0, .int .i64 0, .bool false] 33)).heap.size = w2.heap.size + 1 := by simp
      have b1 := alloc_low w2 (.cells #[.pointer none, .string ⟨#[]⟩, .int .i64 0, .int .i64 0, .bool false] 33)
      have b2 := alloc_low (w2.alloc (.cells #[.pointer none, .string ⟨#[]⟩, .int .i64 0, .int .i64 0, .bool false] 33)) (.cells #[.pointer none, .pointer (some ⟨w2.heap.size, 0, none⟩)] 24)
      have c1 : W.heap[w2.heap.size]? = some (.cells #[.pointer none, .string ⟨#[]⟩, .int .i64 0, .int .i64 0, .bool false] 33) := by
        rw [hW, b2.block _ (by omega)]; exact (MapKept.heap_alloc _ _).1
      have c2 : W.heap[w2.heap.size + 1]? = some (.cells #[.pointer none, .pointer (some ⟨w2.heap.size, 0, none⟩)] 24) := by
        rw [hW, ← s1]; exact (MapKept.heap_alloc _ _).1
      have BW : Hid (Below w.heap.size w W) := by
        rw [hW]; exact B2.out.trans ((b1.trans (b2.mono (by omega))).mono B2.out.size)
      have hp : Hid (∀ i : Nat, i < 2 → ∃ p, W.cell? ⟨w2.heap.size + 1, i, none⟩ = some (.pointer p) ∧ NilL W p) := by
        intro i hi
        match i, hi with
        | 0, _ => exact ⟨none, by rw [cell_of c2]; rfl, .inl rfl⟩
        | 1, _ => exact ⟨_, by rw [cell_of c2]; rfl, .inr ⟨_, rfl, by rw [cell_of c1]; rfl⟩⟩
      clear b1 b2 c1 c2 s1 B2
      go_wp2_with fail
      rw [← hW]
      clear hW
      go_loopw [16] (fun iv wr => ∃ (i : Nat), i ≤ 2 ∧ iv = .int .i64 i ∧ wr = W) (fun iv _ => 2 - (intOf iv).toNat)
      case atStart => exact ⟨0, by omega, rfl, rfl⟩
      case round =>
        rename_i wr
        obtain ⟨i, hi, rfl, rfl⟩ := hrel
        by_cases hlt : i < 2
        · have hlt' : (i : Int) < 2 := by omega
          obtain ⟨p, hcell, hnil⟩ := hp.out i hlt
          have q1 := hid (lapp_no hnil a n c)
          have q2 := hid (lsyn_no hnil)
          have q3 := hid (lchk_no hnil a n c)
          have q4 := hid (lnum_no hnil)
          have q5 := hid (lcnt_no hnil)
          clear hp hnil
          go_wp2_with (first | (go_at_call 8; refine q1.out.mono ?_; rintro e w' ⟨rfl, rfl⟩) | (go_at_call 9; refine q2.out.mono ?_; rintro e w' ⟨rfl, rfl⟩) | (go_at_call 10; refine q3.out.mono ?_; rintro e w' ⟨rfl, rfl⟩) | (go_at_call 11; refine q4.out.mono ?_; rintro e w' ⟨rfl, rfl⟩) | (go_at_call 12; refine q5.out.mono ?_; rintro e w' ⟨rfl, rfl⟩))
          refine ⟨⟨i + 1, by omega, by simp, trivial⟩, ?_⟩
          simp only [intOf]; omega
        · have hlt' : ¬ (i : Int) < 2 := by omega
          clear hp
          go_wp2_with fail
          refine (aw.out _).mono ?_
          rintro e w5 ⟨rfl, hb5⟩
          have B5 : Hid (Below w.heap.size w w5) := BW.out.trans (hb5.mono BW.out.size)
          clear hb5 aw BW
          go_wp2
          go_ret
          exact ⟨rfl, B5.out⟩
end Go.Proofs.YtihgikekkgoddaaGreatDoor
