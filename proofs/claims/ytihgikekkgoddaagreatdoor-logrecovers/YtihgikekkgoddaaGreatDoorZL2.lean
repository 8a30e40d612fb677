/- Contracts of the log's names: numberOf, partOf. -/
import Derived.Test.YtihgikekkgoddaaGreatDoorZL1
import Derived.Deep.RegionWith
import Derived.Laws.ResultCell
namespace Go.Proofs.YtihgikekkgoddaaGreatDoor
open Go.RowKit Go.Shelf Sto

theorem cut_yes (w : World) (p s : List UInt8) : Calls Tryz.prog 81 #[str (p ++ s), str p] w fun e w' => e = .returned (.tuple #[str s, .bool true]) ∧ w' = w := by
  have h := Tryz.strings_CutPrefix ⟨(p ++ s).toArray⟩ ⟨p.toArray⟩ w
  have e1 : Lib.hasPrefix (p ++ s) p = true := by unfold Lib.hasPrefix; rw [List.isPrefixOf_iff_prefix]; exact ⟨s, rfl⟩
  have e2 : Lib.trimPrefix (p ++ s) p = s := by unfold Lib.trimPrefix; rw [if_pos e1]; simp
  simp only at h
  rw [e1, e2] at h
  exact h
theorem cut_no (w : World) (p s : List UInt8) (hn : ¬ p <+: s) : Calls Tryz.prog 81 #[str s, str p] w fun e w' => e = .returned (.tuple #[str s, .bool false]) ∧ w' = w := by
  have h := Tryz.strings_CutPrefix ⟨s.toArray⟩ ⟨p.toArray⟩ w
  have e1 : Lib.hasPrefix s p = false := by unfold Lib.hasPrefix; rw [Bool.eq_false_iff]; intro h; exact hn (List.isPrefixOf_iff_prefix.1 h)
  have e2 : Lib.trimPrefix s p = s := by unfold Lib.trimPrefix; rw [if_neg (by rw [e1]; simp)]
  simp only at h
  rw [e1, e2] at h
  exact h
theorem bytesWorld_below (w : World) (t : TypeId) (s : ByteArray) : Below w.heap.size w (Lib.bytesWorld w t s) := by
  unfold Lib.bytesWorld
  have h1 : Below w.heap.size w (w.drew.alloc (.cells (Lib.bytesCells w t s) t)) := (Below.refl _ w).drew.alloc (by simp) _
  refine h1.trans ⟨rfl, rfl, rfl, by simp [World.freeze], fun k hk => ?_⟩
  have hne : w.heap.size ≠ k := by omega
  simp [World.freeze, Array.getElem?_modify, hne]
set_option maxHeartbeats 400000 in
theorem numberOf_yes (w : World) (n : Nat) (hn : n < 100) : Calls Tryz.prog 100 #[str (dg n)] w fun e w' => e = .returned (.tuple #[.int .i64 (n : Int), .bool true]) ∧ Below w.heap.size w w' := by
  have ha := hid (Tryz.strconv_Atoi ⟨(dg n).toArray⟩ (n : Int) (by show (dg n).toArray.size ≤ 18; have := dg_len n; simp; omega) (by rw [List.toList_toArray]; exact dg_atoi n hn) w)
  have hi := hid (fun W => itoa_any W n hn)
  have hl := (dg_len n).2
  have hl9 : ¬ (9 : Int) < ((dg n).length : Int) := by omega
  have h0 : decide ((n : Int) < 0) = false := by simp
  have fin := hid (fun t => bytesWorld_below w 5 t)
  unfold str
  generalize dg n = d at *
  go_enter Tryz.func100, Tryz.ntmps100
  go_wp2_with (first | (go_at_call 110; refine ha.out.mono ?_; rintro e w1 ⟨rfl, t, rfl⟩) | (go_at_call 65; refine (hi.out _).mono ?_; rintro e w' ⟨rfl, rfl⟩))
  go_ret2
  exact ⟨rfl, fin.out t⟩
def partV (q : Part) : Value := .agg #[str q.kind, .int .i64 (q.num : Int)]
theorem alloc_low (w : World) (o : Obj) : Below w.heap.size w (w.alloc o) := (Below.refl _ _).alloc (Nat.le_refl _) _
theorem box_back (w : World) : ∀ w1, Below (w.alloc (.cells #[.string ⟨#[]⟩, .int .i64 0] 88)).heap.size (w.alloc (.cells #[.string ⟨#[]⟩, .int .i64 0] 88)) w1 →
    w1.cell? ⟨w.heap.size, 0, none⟩ = some (.string ⟨#[]⟩) ∧ w1.cell? ⟨w.heap.size, 1, none⟩ = some (.int .i64 0) ∧ w1.frozen? ⟨w.heap.size, 0, none⟩ = false ∧ w1.frozen? ⟨w.heap.size, 1, none⟩ = false ∧ ∀ x y, Below w.heap.size w ((w1.setCell ⟨w.heap.size, 0, none⟩ x).setCell ⟨w.heap.size, 1, none⟩ y) := by
  intro w1 hb
  have e : w1.heap[w.heap.size]? = some (.cells #[.string ⟨#[]⟩, .int .i64 0] 88) := (hb.block _ (by simp)).trans (MapKept.heap_alloc w _).1
  have h1 : Below w.heap.size w w1 := (alloc_low w _).trans (hb.mono (by simp))
  refine ⟨by rw [cell_of e]; rfl, by rw [cell_of e]; rfl, frozen_of e _, frozen_of e _, fun x y => ?_⟩
  exact (h1.setCell (p := ⟨w.heap.size, 0, none⟩) (Nat.le_refl _) x).setCell (p := ⟨w.heap.size, 1, none⟩) (Nat.le_refl _) y
set_option maxHeartbeats 800000 in
theorem partOf_yes (w : World) (q : Part) (h : q.ok) : Calls Tryz.prog 82 #[str q.text] w fun e w' => e = .returned (.tuple #[partV q, .bool true]) ∧ Below w.heap.size w w' := by
  have hal := hid (fun o => alloc_low w o)
  rcases ok_cases h with rfl | ⟨n, hn, rfl⟩ | ⟨n, hn0, hn, rfl⟩
  · rw [text_new]
    unfold partV pNew str kNew
    go_enter Tryz.func82, Tryz.ntmps82
    go_wp2
    (try simp only [Exit.inBlock, Exit.then])
    refine bodyPost_ret (v := .tuple #[.agg #[.string ⟨#[110, 101, 119]⟩, .int .i64 0], .bool true]) ?_ rfl ⟨rfl, hal.out _⟩
    rw [results_cell_tmp rfl]
    go_simp
  · rw [text_log]
    have c1 := hid (fun W => cut_yes W kLog (dg n))
    have c2 := hid (fun W => numberOf_yes W n hn)
    have t1 : (kLog ++ dg n == [110, 101, 119]) = false := by simp [kLog]
    have fin := hid (box_back w)
    unfold partV pLog str at *
    generalize dg n = d at *
    generalize kLog ++ d = T at *
    unfold kLog at *
    go_enter Tryz.func82, Tryz.ntmps82
    go_wp2_with (first | (go_at_call 81; refine (c1.out _).mono ?_; rintro e w1 ⟨rfl, rfl⟩) | (go_at_call 100; refine (c2.out _).mono ?_; rintro e w1 ⟨rfl, hb⟩; obtain ⟨k0, k1, f0, f1, hB⟩ := fin.out w1 hb; replace hB := hid hB; clear hb))
    (try simp only [Exit.inBlock, Exit.then])
    refine bodyPost_ret (v := .tuple #[.agg #[.string ⟨#[108, 111, 103, 46]⟩, .int .i64 (n : Int)], .bool true]) ?_ rfl ⟨rfl, hB.out _ _⟩
    rw [results_cell_tmp rfl]
    go_simp
  · rw [text_snap]
    have c1 := hid (fun W => cut_no W kLog (kSnap ++ dg n) (by rintro ⟨t, ht⟩; simp [kLog, kSnap] at ht))
    have c3 := hid (fun W => cut_yes W kSnap (dg n))
    have c2 := hid (fun W => numberOf_yes W n hn)
    have t1 : (kSnap ++ dg n == [110, 101, 119]) = false := by simp [kSnap]
    have t2 : decide ((0 : Int) < (n : Int)) = true := by simp; omega
    have fin := hid (box_back w)
    unfold partV pSnap str at *
    generalize dg n = d at *
    generalize kSnap ++ d = T at *
    unfold kSnap kLog at *
    go_enter Tryz.func82, Tryz.ntmps82
    go_wp2_with fail
    refine (c1.out _).mono ?_
    rintro e w1 ⟨rfl, rfl⟩
    go_wp2_with fail
    refine (c3.out _).mono ?_
    rintro e w1 ⟨rfl, rfl⟩
    go_wp2_with (go_at_call 100; refine (c2.out _).mono ?_; rintro e w1 ⟨rfl, hb⟩; obtain ⟨k0, k1, f0, f1, hB⟩ := fin.out w1 hb; replace hB := hid hB; clear hb)
    (try simp only [Exit.inBlock, Exit.then])
    refine bodyPost_ret (v := .tuple #[.agg #[.string ⟨#[115, 110, 97, 112, 46]⟩, .int .i64 (n : Int)], .bool true]) ?_ rfl ⟨rfl, hB.out _ _⟩
    rw [results_cell_tmp rfl]
    go_simp
    exact hn0
end Go.Proofs.YtihgikekkgoddaaGreatDoor
