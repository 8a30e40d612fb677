/- For any slice of slices of bytes and any order the law CrcTree of the program returns true and leaves both as they were: the sum of pieces is told by their sums and lengths alone, joined two by two, neighbours with neighbours, in whatever order. No condition. -/
import Derived.Test.YtfakplbgheljbaaAwake
import Derived.Test.YtfakplbgheljbaaW4
import Derived.Test.YtfakplbgheljbaaOpen2
import Derived.Test.YtfakplbgheljbaaTreeP
import Derived.Deep.RegionHeld3
import Derived.Deep.RegionWith
import Derived.Deep.CutRange
import Derived.Laws.MakeOwn
import Derived.Lib.SmallJoins
namespace Go.Proofs.Ytfakplbgheljbaa.crcTree
open Go.ChangeShapes Go.WideShapes Go.ChangeAt Go.RowKit
set_option linter.unusedVariables false

def u32v (x : R) : Value := .int .u32 (x.toNat : Int)
def i64v (n : Nat) : Value := .int .i64 (n : Int)
/-- a row that is known whole. -/
def Row {α : Type} (w : World) (g : Nat) (f : α → Value) (L : List α) (t : TypeId) : Prop := w.heap[g]? = some (.cells (L.map f).toArray t (0, 0))
theorem Row.cell {α : Type} {w : World} {g : Nat} {f : α → Value} {L : List α} {t : TypeId} (h : Row w g f L t) (i : Nat) (d : α) (hi : i < L.length) : w.cell? ⟨g, i, none⟩ = some (f (L.getD i d)) := by
  rw [Go.Joins.cell_of_block h]
  simp [List.getElem?_map, List.getElem?_eq_getElem hi, List.getD]
theorem Row.frozen {α : Type} {w : World} {g : Nat} {f : α → Value} {L : List α} {t : TypeId} (h : Row w g f L t) (i : Nat) : w.frozen? ⟨g, i, none⟩ = false := Go.Joins.unfrozen_of_block h i
theorem Row.set {α : Type} {w : World} {g : Nat} {f : α → Value} {L : List α} {t : TypeId} (h : Row w g f L t) (i : Nat) (x : α) : Row (w.setCell ⟨g, i, none⟩ (f x)) g f (L.set i x) t := by
  unfold Row
  rw [Go.Joins.block_setCell h]
  simp [List.map_set]
theorem Row.other {α : Type} {w : World} {g g' : Nat} {f : α → Value} {L : List α} {t : TypeId} (h : Row w g f L t) (hne : g ≠ g') (i : Nat) (v : Value) : Row (w.setCell ⟨g', i, none⟩ v) g f L t := by
  unfold Row
  rw [Below.heap_setCell _ _ _ _ hne]
  exact h
theorem Row.below {α : Type} {w w' : World} {g : Nat} {f : α → Value} {L : List α} {t : TypeId} (h : Row w g f L t) (hb : Below w.heap.size w w') : Row w' g f L t := by
  have hlt : g < w.heap.size := by
    rcases Nat.lt_or_ge g w.heap.size with h' | h'
    · exact h'
    · unfold Row at h; rw [Array.getElem?_eq_none h'] at h; cases h
  unfold Row
  rw [hb.block g hlt]; exact h
theorem Row.drew {α : Type} {w : World} {g : Nat} {f : α → Value} {L : List α} {t : TypeId} (h : Row w g f L t) : Row w.drew g f L t := h
theorem Row.lt {α : Type} {w : World} {g : Nat} {f : α → Value} {L : List α} {t : TypeId} (h : Row w g f L t) : g < w.heap.size := by
  rcases Nat.lt_or_ge g w.heap.size with h' | h'
  · exact h'
  · unfold Row at h; rw [Array.getElem?_eq_none h'] at h; cases h
theorem made {α : Type} (w : World) (f : α → Value) (x : α) (n : Nat) (t : TypeId) (C : Array Value) (hC : C = madeCells #[f x] (n * 1)) : Row (w.alloc (.cells C t)) w.heap.size f (List.replicate n x) t := by
  unfold Row
  have : C = ((List.replicate n x).map f).toArray := by
    rw [hC]
    unfold madeCells
    apply Array.ext
    · simp
    · intro i h1 h2
      simp [Nat.mod_one]
  rw [← this]
  show (w.heap.push _)[w.heap.size]? = _
  simp
theorem info26 : (Try.prog.info? 26).map (fun i => (i.zero, i.size, i.bytes)) = some (some (.int .u32 0), 1, 4) := by kernel_rfl
theorem info3 : (Try.prog.info? 3).map (fun i => (i.zero, i.size, i.bytes)) = some (some (.int .i64 0), 1, 8) := by kernel_rfl
def lenN (z : List Int) : Nat := z.length

/-- what is known at each turn of the great loop. -/
def Turn (w : World) (l : List (List Int)) (gs gz N : Nat) (g : List (List Int)) (wr : World) : Prop :=
  ∃ (S : List R) (Z : List Nat), S.length = N ∧ Z.length = N ∧ Fits sum 0#32 g S ∧ Fits lenN 0 g Z ∧ g.flatten = l.flatten ∧ Row wr gs u32v S 26 ∧ Row wr gz i64v Z 3 ∧ Below w.heap.size w wr

set_option maxHeartbeats 8000000 in
theorem walk_big (a0 a1 : Option Addr) (N ca lb cb : Nat) (l : List (List Int)) (z1 : List Int) (w : World) (h0 : IsQ w (.slice a0 N ca) l) (hs : ∀ z ∈ l, z.length ≤ 140737488351232) (e0 : N = l.length) (hg : 10000 < wt l ∨ 40 < N) :
    Calls Try.prog 5 #[.slice a0 N ca, .slice a1 lb cb] w fun e w' => e = .returned (.bool true) ∧ Below w.heap.size w w' := by
  have H0 := hid h0
  have HS := hid hs
  have hm : N ≤ maxLen := by obtain ⟨h, _⟩ := h0; rw [← e0] at h; exact h
  unfold maxLen at hm
  clear h0 hs e0
  by_cases h1 : 10000 < wt l
  · have hd : decide (10000 < wt l) = true := by simpa using h1
    go_enter Try.func5, Try.ntmps5
    go_wp2_with fail
    refine (awake_any _).mono ?_
    rintro e w1 ⟨rfl, hb⟩
    go_wp2_with fail
    refine (great_any _ l _ (H0.out.below hb).isP HS.out).mono ?_
    rintro e w2 ⟨rfl, rfl⟩
    go_wp2_with fail
    go_ret
    exact ⟨rfl, hb⟩
  · have hd : decide (10000 < wt l) = false := by simpa using h1
    have h2 : 40 < N := by omega
    have h2' : decide ((40 : Int) < (N : Int)) = true := by simp; omega
    go_enter Try.func5, Try.ntmps5
    go_wp2_with fail
    refine (awake_any _).mono ?_
    rintro e w1 ⟨rfl, hb⟩
    go_wp2_with fail
    refine (great_any _ l _ (H0.out.below hb).isP HS.out).mono ?_
    rintro e w2 ⟨rfl, rfl⟩
    go_wp2_with fail
    go_ret
    exact ⟨rfl, hb⟩

set_option maxRecDepth 20000 in
set_option maxHeartbeats 8000000 in
theorem walk_in (a0 a1 : Option Addr) (N ca lb cb : Nat) (l : List (List Int)) (z1 : List Int) (w : World) (h0 : IsQ w (.slice a0 N ca) l) (h1 : IsB w (.slice a1 lb cb) z1) (hs : ∀ z ∈ l, z.length ≤ 140737488351232) (e0 : N = l.length) (e1 : lb = z1.length)
    (hwt : wt l ≤ 10000) (hN : N ≤ 40) :
    Calls Try.prog 5 #[.slice a0 N ca, .slice a1 lb cb] w fun e w' => e = .returned (.bool true) ∧ Below w.heap.size w w' := by
  have hd : decide (10000 < wt l) = false := by simp; omega
  have hN' : decide ((40 : Int) < (N : Int)) = false := by simp; omega
  have hlb : lb ≤ cb ∧ cb ≤ maxLen := by obtain ⟨_, _, _, _, hv, h3, h4, _⟩ := h1; cases hv; omega
  unfold maxLen at hlb
  obtain ⟨hlb1, hlb2⟩ := hlb
  have hfl : l.flatten.length ≤ 10000 := by unfold wt at hwt; omega
  obtain ⟨s, hsum⟩ : ∃ s : R, s = sum l.flatten := ⟨_, rfl⟩
  have H0 := hid h0
  have H1 := hid h1
  have HS := hid hs
  have E0 := hid e0
  have E1 := hid e1
  have HSUM := hid hsum
  have HFL := hid hfl
  clear h0 h1 hs e0 e1 hwt hsum hfl
  obtain ⟨i0, hi0, hz00, hz01, hz02⟩ := info_parts info26
  obtain ⟨i1, hi1, hz10, hz11, hz12⟩ := info_parts info3
  have hmk0 := fun w => run_make (P := Try.prog) w 32 26 i0 (.int .u32 0) Try.underlying32 hi0 hz00 .i64 .i64 (N : Int) (N : Int) (by omega) (by omega) (by rw [hz02]; omega) (by omega)
  have hmk1 := fun w => run_make (P := Try.prog) w 33 3 i1 (.int .i64 0) Try.underlying33 hi1 hz10 .i64 .i64 (N : Int) (N : Int) (by omega) (by omega) (by rw [hz12]; omega) (by omega)
  rw [hz01] at hmk0
  rw [hz11] at hmk1
  simp only [Int.toNat_natCast] at hmk0 hmk1
  obtain ⟨C0, hC0⟩ : ∃ C, C = madeCells (Value.int .u32 0).cells (N * 1) := ⟨_, rfl⟩
  obtain ⟨C1, hC1⟩ : ∃ C, C = madeCells (Value.int .i64 0).cells (N * 1) := ⟨_, rfl⟩
  rw [← hC0] at hmk0
  rw [← hC1] at hmk1
  have HC0 := hid hC0
  have HC1 := hid hC1
  clear hC0 hC1 hi0 hz00 hz01 hz02 hi1 hz10 hz11 hz12
  go_enter Try.func5, Try.ntmps5
  go_wp2_with fail
  refine (awake_any _).mono ?_
  rintro e w1 ⟨rfl, hb⟩
  go_wp2_with fail
  refine (great_any _ l _ (H0.out.below hb).isP HS.out).mono ?_
  rintro e w2 ⟨rfl, rfl⟩
  go_wp2_with fail
  obtain ⟨gs, hgs⟩ : ∃ g, w2.heap.size = g := ⟨_, rfl⟩
  obtain ⟨gz, hgz⟩ : ∃ g, gs + 1 = g := ⟨_, rfl⟩
  have r0 : Row ((w2.alloc (.cells C0 26)).alloc (.cells C1 3)) gs u32v (List.replicate N 0#32) 26 := by
    rw [← hgs]; exact (made w2 u32v 0#32 N _ C0 HC0.out).below ((Below.refl _ _).alloc (Nat.le_refl _) _)
  have r1 : Row ((w2.alloc (.cells C0 26)).alloc (.cells C1 3)) gz i64v (List.replicate N 0) 3 := by
    rw [← hgz, ← hgs]
    have := made (w2.alloc (.cells C0 26)) i64v 0 N 3 C1 HC1.out
    rw [show (w2.alloc (.cells C0 26)).heap.size = w2.heap.size + 1 by simp] at this
    exact this
  have hle : w.heap.size ≤ gs := by rw [← hgs]; exact hb.size
  have hb3 : Below w.heap.size w ((w2.alloc (.cells C0 26)).alloc (.cells C1 3)) := (hb.alloc hb.size _).alloc (by have := hb.size; simp; omega) _
  rw [hgs, hgz]
  have hne : gs ≠ gz := by omega
  have hlz : w.heap.size ≤ gz := by omega
  generalize (w2.alloc (.cells C0 26)).alloc (.cells C1 3) = w3 at *
  have R0 := hid r0
  have R1 := hid r1
  have B3 := hid hb3
  clear r0 r1 hb3 hmk0 hmk1 hb hgs hgz HC0 HC1
  go_loopw [7] (fun i wr => ∃ (k : Nat) (S : List R) (Z : List Nat), k ≤ N ∧ i = .int .i64 k ∧ S.length = N ∧ Z.length = N ∧ Fits sum 0#32 (l.take k) S ∧ Fits lenN 0 (l.take k) Z ∧ Row wr gs u32v S 26 ∧ Row wr gz i64v Z 3 ∧ Below w.heap.size w wr) (fun i _ => N - (intOf i).toNat)
  case atStart => exact ⟨0, _, _, by omega, rfl, by simp, by simp, fun i h => by simp at h, fun i h => by simp at h, R0.out, R1.out, B3.out⟩
  case round =>
    obtain ⟨k, S, Z, hk, rfl, hSl, hZl, hFS, hFZ, rS, rZ, hbel⟩ := hrel
    by_cases hlt : k < N
    · have hlt' : (k : Int) < (N : Int) := by omega
      have hge' : (0 : Int) ≤ (k : Int) := by omega
      have hkl : k < l.length := by rw [← E0.out]; exact hlt
      obtain ⟨_, a', cap', hv, hor⟩ := H0.out
      obtain ⟨b, off, rfl, hcell⟩ : ∃ b off, a0 = some ⟨b, off, none⟩ ∧ ∀ i, i < l.length → ∃ u, w.cell? ⟨b, off + i, none⟩ = some u ∧ IsB w u (l.getD i []) ∧ ∀ n c, u = .slice none n c → c = 0 := by
        obtain ⟨rfl, -, -⟩ : a0 = a' ∧ N = l.length ∧ ca = cap' := by simpa using hv
        rcases hor with h | h
        · subst h; simp at hkl
        · exact h
      obtain ⟨ap, cp, hcu, hB, _⟩ := piece_at w wr l b off k hkl hcell hbel
      have hblk : b < w.heap.size := by obtain ⟨u, hu, _⟩ := hcell k hkl; exact World.block_lt_of_cell? _ _ hu
      have HFS1 := hid (fits_snoc sum 0#32 l k hkl S (by omega) hFS)
      have HFZ1 := hid (fits_snoc lenN 0 l k hkl Z (by omega) hFZ)
      have hzl : (l.getD k []).length ≤ 140737488351232 := HS.out _ (getD_mem_l l k hkl)
      have HB := hid hB
      clear hcell hv hor hB
      generalize l.getD k [] = zs at *
      have RS := hid rS
      have RZ := hid rZ
      have BEL := hid hbel
      clear hFS hFZ rS rZ hbel
      go_wp2_with fail
      refine (sum_any _ zs _ HB.out).mono ?_
      rintro e w4 ⟨rfl, hb4⟩
      have RS4 := hid (RS.out.below hb4)
      have RZ4 := hid (RZ.out.below hb4)
      have BEL4 : Hid (Below w.heap.size w w4) := BEL.out.trans (hb4.mono BEL.out.size)
      have hcu4 : w4.cell? ⟨b, off + k, none⟩ = some (.slice ap zs.length cp) := (hb4.cell (p := ⟨b, off + k, none⟩) (by have := BEL.out.size; simp; omega)).trans hcu
      have hc1 := RS4.out.cell k 0#32 (by omega)
      have hf1 := RS4.out.frozen k
      have hc2 := RZ4.out.cell k 0 (by omega)
      have hf2 := RZ4.out.frozen k
      have n1 : b ≠ gs := by omega
      have n2 : b ≠ gz := by omega
      have n3 : gz ≠ gs := by omega
      go_wp2_with fail
      exact ⟨⟨k + 1, S.set k (sum zs), Z.set k (lenN zs), by omega, by go_num, by simp; exact hSl, by simp; exact hZl, HFS1.out, HFZ1.out, (RS4.out.set k (sum zs)).other hne k _, (RZ4.out.other n3 k _).set k (lenN zs), (BEL4.out.setCell hle _).setCell hlz _⟩, by simp [intOf]; omega⟩
    · have hlt' : ¬ (k : Int) < (N : Int) := by omega
      obtain rfl : N = k := by omega
      rw [List.take_of_length_le (by rw [← E0.out]; exact Nat.le_refl _)] at hFS hFZ
      have T0 : Hid (Turn w l gs gz N l wr) := ⟨S, Z, hSl, hZl, hFS, hFZ, rfl, rS, rZ, hbel⟩
      have BEL := hid hbel
      clear hFS hFZ rS rZ hbel R0 R1 B3
      go_wp2_with fail
      refine (of_any _ l _ (H0.out.below BEL.out).isP).mono ?_
      rintro e w5 ⟨he, hw⟩
      have hw2 := hw.symm
      subst hw2
      rw [← HSUM.out] at he
      subst he
      clear hw
      go_wp2_with fail
      go_loopw [5, 6, 9] (fun sv zv tv wr => ∃ (g : List (List Int)) (t : Nat), sv = .slice (some ⟨gs, 0, none⟩) g.length N ∧ zv = .slice (some ⟨gz, 0, none⟩) g.length N ∧ tv = .int .i64 t ∧ t + g.length = N ∧ Turn w l gs gz N g wr) (fun _ _ tv _ => N - (intOf tv).toNat)
      case atStart => exact ⟨l, 0, by rw [← E0.out], by rw [← E0.out], rfl, by rw [← E0.out]; omega, T0.out⟩
      case round =>
        obtain ⟨g, t, rfl, rfl, rfl, htN, hT⟩ := hrel
        have HT := hid hT
        have HTN := hid htN
        obtain ⟨S', Z', hS'l, hZ'l, hFS', hFZ', hflat, rS', rZ', hbel'⟩ := hT
        clear T0 BEL htN
        by_cases hm : 1 < g.length
        · have hm' : (1 : Int) < (g.length : Int) := by omega
          have hgl : g.length ≤ 40 := by have := HTN.out; omega
          have hgl' : (g.length : Int) ≤ 40 := by omega
          have hdz : ¬ (g.length : Int) - 1 = 0 := by omega
          have FS := hid hFS'
          have FZ := hid hFZ'
          have FL := hid hflat
          have RS := hid rS'
          have RZ := hid rZ'
          have BB := hid hbel'
          clear hFS' hFZ' hflat rS' rZ' hbel' HT
          have htl : t < N := by have := HTN.out; omega
          go_upto_if 59 with fail
          go_cut [10] from 51 to 134 (fun s10 wx => ∃ p : Nat, s10 = .int .i64 p ∧ p + 1 < g.length ∧ wx = wr)
          case first =>
            by_cases ht : t < lb
            · have ht' : (t : Int) < (lb : Int) := by omega
              obtain ⟨_, hzb1, a', cap', hv, _, _, hor⟩ := H1.out
              obtain ⟨b1, off1, rfl, hcell1⟩ : ∃ b off, a1 = some ⟨b, off, none⟩ ∧ ∀ i, i < z1.length → w.cell? ⟨b, off + i, none⟩ = some (.int .u8 (z1.getD i 0)) := by
                obtain ⟨rfl, -, -⟩ : a1 = a' ∧ lb = z1.length ∧ cb = cap' := by simpa using hv
                rcases hor with h | h
                · have := E1.out; rw [h] at this; simp at this; omega
                · exact h
              have hc1 := hcell1 t (by rw [← E1.out]; exact ht)
              have hc1' : wr.cell? ⟨b1, off1 + t, none⟩ = some (.int .u8 (z1.getD t 0)) := (BB.out.cell (p := ⟨b1, off1 + t, none⟩) (World.block_lt_of_cell? _ _ hc1)).trans hc1
              have hO := hzb1 _ (getD_mem z1 t (by rw [← E1.out]; exact ht))
              clear hcell1 hor hv hzb1 hc1
              generalize z1.getD t 0 = ob at *
              obtain ⟨hO0, hO1⟩ := hO
              obtain ⟨p, hp, hpl⟩ : ∃ p : Nat, ob % ((g.length : Int) - 1) = (p : Int) ∧ p + 1 < g.length := by
                have h1 := Int.emod_nonneg ob (b := (g.length : Int) - 1) (by omega)
                have h2 := Int.emod_lt_of_pos ob (b := (g.length : Int) - 1) (by omega)
                exact ⟨(ob % ((g.length : Int) - 1)).toNat, by omega, by omega⟩
              have HP := hid hp
              clear hp
              go_wp2_with fail
              go_meet
              case rel => exact ⟨p, congrArg (Value.int .i64) HP.out, hpl, rfl⟩
            · have ht' : ¬ (t : Int) < (lb : Int) := by omega
              go_wp2_with fail
              go_meet
              case rel => exact ⟨0, rfl, by omega, rfl⟩
          case rest =>
            obtain ⟨p, rfl, hpl, hwc⟩ := hcut
            have hwc2 := hwc.symm
            subst hwc2
            clear hwc hdz
            have hpl' : (p : Int) + 1 < (g.length : Int) := by omega
            have hp0' : (0 : Int) ≤ (p : Int) := by omega
            have hp1' : (0 : Int) ≤ (p : Int) + 1 := by omega
            have hpl0' : (p : Int) < (g.length : Int) := by omega
            have hp40' : (p : Int) ≤ 40 := by omega
            have hwr : IntKind.i64.wrap ((p : Int) + 1) = (p : Int) + 1 := by rw [IntKind.wrap_i64]; omega
            have hgN : g.length ≤ N := by have := HTN.out; omega
            have E1' := hid (FS.out p (by omega))
            have E2' := hid (FS.out (p + 1) (by omega))
            have E3' := hid (FZ.out p (by omega))
            have E4' := hid (FZ.out (p + 1) (by omega))
            have hq0 : Z'.getD p 0 ≤ 10000 ∧ Z'.getD (p + 1) 0 ≤ 10000 := by
              rw [E3'.out, E4'.out]
              have h1 := flat_two g p hpl
              have h2 := HFL.out
              rw [FL.out] at h1
              unfold lenN
              omega
            obtain ⟨x, hx⟩ : ∃ x, S'.getD p 0#32 = x := ⟨_, rfl⟩
            obtain ⟨y, hy⟩ : ∃ y, S'.getD (p + 1) 0#32 = y := ⟨_, rfl⟩
            obtain ⟨q0, hq0'⟩ : ∃ q, Z'.getD p 0 = q := ⟨_, rfl⟩
            obtain ⟨q, hq'⟩ : ∃ q, Z'.getD (p + 1) 0 = q := ⟨_, rfl⟩
            rw [hq0', hq'] at hq0
            obtain ⟨hq00, hq01⟩ := hq0
            rw [hx] at E1'
            rw [hy] at E2'
            rw [hq0'] at E3'
            rw [hq'] at E4'
            have hJ : Hid (txn (8 * q) x ^^^ y = sum (g.getD p [] ++ g.getD (p + 1) [])) := by
              rw [E1'.out, E2'.out, E4'.out]; exact sum_two _ _
            have hK : Hid (q0 + q = lenN (g.getD p [] ++ g.getD (p + 1) [])) := by
              rw [E3'.out, E4'.out]; unfold lenN; rw [List.length_append]; rfl
            have HX := hid hx
            have HY := hid hy
            have HQ0 := hid hq0'
            have HQ := hid hq'
            obtain ⟨jn, hjn⟩ : ∃ jn : R, jn = txn (8 * q) x ^^^ y := ⟨_, rfl⟩
            have HJ := hid hjn
            clear hjn hx hy hq0' hq' E1' E2' E3' E4'
            go_upto_region 19 with fail
            go_cut [] from 51 to 134 (fun wx => Row wx gs u32v (S'.set p jn) 26 ∧ Row wx gz i64v Z' 3 ∧ Below w.heap.size w wx)
            case first =>
              have cx : wr.cell? ⟨gs, p, none⟩ = some (.int .u32 (x.toNat : Int)) := by rw [← HX.out]; exact RS.out.cell p 0#32 (by omega)
              have cy : wr.cell? ⟨gs, p + 1, none⟩ = some (.int .u32 (y.toNat : Int)) := by rw [← HY.out]; exact RS.out.cell (p + 1) 0#32 (by omega)
              have cq : wr.cell? ⟨gz, p + 1, none⟩ = some (.int .i64 (q : Int)) := by rw [← HQ.out]; exact RZ.out.cell (p + 1) 0 (by omega)
              have fx := RS.out.frozen p
              go_region_with (go_at_call 14; refine (join_any x y q _ (by omega)).mono ?_; rintro e w' ⟨he, rfl⟩; rw [← HJ.out] at he; subst he)
              all_goals (try go_wp2_with fail)
              all_goals go_meet
              all_goals exact ⟨(RS.out.set p jn).drew, (RZ.out.other (Ne.symm hne) p _).drew, (BB.out.setCell hle _).drew⟩
            case rest =>
              obtain ⟨rS1, rZ1, bel1⟩ := hcut
              generalize wc = w6 at *
              have RS1 := hid rS1
              have RZ1 := hid rZ1
              have BEL1 := hid bel1
              clear rS1 rZ1 bel1 RS RZ BB
              go_upto_region 20 with fail
              go_cut [] from 51 to 134 (fun wx => Row wx gs u32v (S'.set p jn) 26 ∧ Row wx gz i64v (Z'.set p (q0 + q)) 3 ∧ Below w.heap.size w wx)
              case first =>
                have cq0 : w6.cell? ⟨gz, p, none⟩ = some (.int .i64 (q0 : Int)) := by rw [← HQ0.out]; exact RZ1.out.cell p 0 (by omega)
                have cq : w6.cell? ⟨gz, p + 1, none⟩ = some (.int .i64 (q : Int)) := by rw [← HQ.out]; exact RZ1.out.cell (p + 1) 0 (by omega)
                have fq := RZ1.out.frozen p
                have b1 : (q0 : Int) ≤ 10000 := by omega
                have b2 : (q : Int) ≤ 10000 := by omega
                have hsumw : IntKind.i64.wrap ((q0 : Int) + (q : Int)) = ((q0 + q : Nat) : Int) := by rw [IntKind.wrap_i64]; omega
                have HSW := hid hsumw
                clear hsumw
                go_region
                all_goals (try go_wp2_with fail)
                all_goals go_meet
                all_goals exact ⟨(RS1.out.other hne p _).drew, (RZ1.out.set p (q0 + q)).drew, (BEL1.out.setCell hlz _).drew⟩
              case rest =>
                obtain ⟨rS2, rZ2, bel2⟩ := hcut
                generalize wc = w7 at *
                have RS2 := hid rS2
                have RZ2 := hid rZ2
                have BEL2 := hid bel2
                clear rS2 rZ2 bel2 RS1 RZ1 BEL1
                go_wp2_with fail
                go_loopw [11] (fun iv wx => ∃ (j : Nat) (S2 : List R) (Z2 : List Nat), p + 1 ≤ j ∧ j + 1 ≤ g.length ∧ iv = .int .i64 j ∧ Moved 0#32 p j (S'.set p jn) S2 ∧ Moved 0 p j (Z'.set p (q0 + q)) Z2 ∧ Row wx gs u32v S2 26 ∧ Row wx gz i64v Z2 3 ∧ Below w.heap.size w wx) (fun iv _ => g.length - (intOf iv).toNat)
                case atStart => exact ⟨p + 1, _, _, by omega, by omega, by go_num, moved_refl _ _ _, moved_refl _ _ _, RS2.out, RZ2.out, BEL2.out⟩
                case round =>
                  obtain ⟨j, S2, Z2, hj1, hj2, rfl, mS, mZ, rS3, rZ3, bel3⟩ := hrel
                  have hS2l : S2.length = N := by rw [mS.1, List.length_set]; exact hS'l
                  have hZ2l : Z2.length = N := by rw [mZ.1, List.length_set]; exact hZ'l
                  have hj40 : (j : Int) ≤ 40 := by omega
                  have hj0 : (0 : Int) ≤ (j : Int) := by omega
                  have MS := hid mS
                  have MZ := hid mZ
                  have RS3 := hid rS3
                  have RZ3 := hid rZ3
                  have BEL3 := hid bel3
                  clear mS mZ rS3 rZ3 bel3 RS2 RZ2 BEL2
                  by_cases hjl : j + 1 < g.length
                  · have hjl' : (j : Int) < (g.length : Int) - 1 := by omega
                    have hjl2 : (j : Int) + 1 < (g.length : Int) := by omega
                    have hjl3 : (j : Int) < (g.length : Int) := by omega
                    have cy : wr.cell? ⟨gs, j + 1, none⟩ = some (.int .u32 (((S'.set p jn).getD (j + 1) 0#32).toNat : Int)) := by
                      have := RS3.out.cell (j + 1) 0#32 (by omega)
                      rw [moved_read _ _ _ _ _ MS.out] at this
                      exact this
                    have cq : wr.cell? ⟨gz, j + 1, none⟩ = some (.int .i64 (((Z'.set p (q0 + q)).getD (j + 1) 0 : Nat) : Int)) := by
                      have := RZ3.out.cell (j + 1) 0 (by omega)
                      rw [moved_read _ _ _ _ _ MZ.out] at this
                      exact this
                    have cx0 := RS3.out.cell j 0#32 (by omega)
                    have cq0 := RZ3.out.cell j 0 (by omega)
                    have fx := RS3.out.frozen j
                    have fq := RZ3.out.frozen j
                    have MS' := hid (moved_next 0#32 p j _ _ hj1 MS.out (by rw [List.length_set]; omega))
                    have MZ' := hid (moved_next 0 p j _ _ hj1 MZ.out (by rw [List.length_set]; omega))
                    generalize (S'.set p jn).getD (j + 1) 0#32 = y2 at *
                    generalize (Z'.set p (q0 + q)).getD (j + 1) 0 = q2 at *
                    have n3 : gz ≠ gs := by omega
                    go_wp2_with fail
                    go_roundw
                    case rel => exact ⟨j + 1, _, _, by omega, by omega, by go_num, MS'.out, MZ'.out, (RS3.out.set j y2).other hne j _, (RZ3.out.other n3 j _).set j q2, (BEL3.out.setCell hle _).setCell hlz _⟩
                    case measure => simp [intOf]; omega
                  · have hjl' : ¬ (j : Int) < (g.length : Int) - 1 := by omega
                    obtain rfl : j = g.length - 1 := by omega
                    have hml := mrg_length p g hpl
                    have e1 : ((g.length : Int) - 1).toNat = (mrg p g).length := by omega
                    have HE := hid e1
                    have hr0 : (0 : Int) ≤ (g.length : Int) - 1 := by omega
                    have hr1 : (g.length : Int) - 1 ≤ (N : Int) := by omega
                    have T1 : Hid (Turn w l gs gz N (mrg p g) wr) := ⟨S2, Z2, hS2l, hZ2l, fits_mrg sum 0#32 g S' S2 p hpl (by omega) FS.out jn (by rw [HJ.out]; exact hJ.out) MS.out, fits_mrg lenN 0 g Z' Z2 p hpl (by omega) FZ.out (q0 + q) hK.out MZ.out, by rw [mrg_flatten]; exact FL.out, RS3.out, RZ3.out, BEL3.out⟩
                    have HML := hid hml
                    clear e1 hml
                    go_wp2_with fail
                    have hlen : g.length - 1 = (mrg p g).length := by have := HML.out; omega
                    exact ⟨⟨mrg p g, t + 1, by rw [hlen], by rw [hlen], by go_num, by have := HML.out; have := HTN.out; omega, T1.out⟩, by simp [intOf]; omega⟩
        · have hm' : ¬ (1 : Int) < (g.length : Int) := by omega
          have FS := hid hFS'
          have RS := hid rS'
          have BB := hid hbel'
          have FL := hid hflat
          clear hFS' hFZ' hflat rS' rZ' hbel' HT
          match g, hm, hm', HTN, FS, FL with
          | [], _, _, _, _, FL =>
            have ht : ((s.toNat : Int) == 0) = true := by
              rw [HSUM.out, ← FL.out, List.flatten_nil, sum_nil]; rfl
            go_wp2_with fail
            go_ret
            exact ⟨rfl, BB.out⟩
          | [z], _, _, HTN, FS, FL =>
            have hN1 : 0 < N := by have := HTN.out; simp at this; omega
            have c0 : wr.cell? ⟨gs, 0, none⟩ = some (.int .u32 (s.toNat : Int)) := by
              have h1 := RS.out.cell 0 0#32 (by omega)
              rw [fits_one sum 0#32 z S' FS.out] at h1
              have h2 : s = sum z := by rw [HSUM.out, ← FL.out]; simp
              rw [h2]
              exact h1
            have ht : ((s.toNat : Int) == (s.toNat : Int)) = true := by simp
            go_wp2_with fail
            go_ret
            exact ⟨rfl, BB.out⟩
          | _ :: _ :: _, hm, _, _, _, _ => exact absurd (by simp) hm

theorem walk (v0 : Value) (l : List (List Int)) (v1 : Value) (z1 : List Int) (w : World) (h0 : IsQ w v0 l) (hs : ∀ z ∈ l, z.length ≤ 140737488351232) (h1 : IsB w v1 z1) :
    Calls Try.prog 5 #[v0, v1] w fun e w' => e = .returned (.bool true) ∧ Below w.heap.size w w' := by
  obtain ⟨a0, ca, rfl⟩ : ∃ a cap, v0 = .slice a l.length cap := by obtain ⟨_, a, cap, h, _⟩ := h0; exact ⟨a, cap, h⟩
  obtain ⟨a1, cb, rfl⟩ : ∃ a cap, v1 = .slice a z1.length cap := by obtain ⟨_, _, a, cap, h, _⟩ := h1; exact ⟨a, cap, h⟩
  by_cases hg : 10000 < wt l ∨ 40 < l.length
  · exact walk_big a0 a1 _ ca _ cb l z1 w h0 hs rfl hg
  · exact walk_in a0 a1 _ ca _ cb l z1 w h0 h1 hs rfl rfl (by omega) (by omega)

theorem own : ownKnob Try.prog.godebug = none := by kernel_rfl
theorem laidOut : laidOutB Try.prog = true := by kernel_rfl

set_option maxRecDepth 100000 in
theorem lifted (os : Os) (started : os.Started) (H : Type) (enc : TypeId × Value → H) :
    ReturnsInHanded {} Try.checked os 5 .any (Rows.crcTreeSpec.pre6 enc Try.prog Try.f5 Rows.crcTreeRow.domain false) (Rows.crcTreeSpec.post enc Try.prog Try.f5 false true false false) := by
  refine returnsInHanded_of_change_sized (C := Try.checked) own started (by kernel_rfl) Try.func5
    (ChangeSpec.witness6 (enc := enc) (C := Try.checked) false ⟨#[], #[.slice none 0 0, .slice none 0 0], []⟩ 8 (by kernel_rfl) (by kernel_rfl) (by kernel_rfl) (by kernel_rfl)) ?_
  intro W base args ds gs before hval0 hW hcnd hsz0 _
  have hval : ∀ (j : Nat) t v, Try.f5.params[j]? = some t → args[j]? = some v → Value.okWide Try.prog W .any base t v := hval0
  have hW' := hW
  obtain ⟨p, q, hA0, hV, rfl, hfz, hnd⟩ := hW
  have hA : DataW.TrodAll enc Try.prog W 0 (fun _ => true) true Try.f5.params.toList args.toList ds p := hA0
  rw [Try.params5] at hA hval
  have hsz : (DataW.weightsEach Try.prog (Try.f5.params.toList ++ Rows.crcTreeSpec.plain.varTypes Try.prog) (ds ++ gs)).all (· ≤ reachBytes) = true := hsz0
  rw [Try.params5] at hsz
  obtain ⟨v0, vs0, d0, ds0, p0, q0, hargs, rfl, rfl, h0, r0⟩ := trodAll_cons hA
  obtain ⟨v1, vs1, d1, ds1, p1, q1, rfl, rfl, rfl, h1, r1⟩ := trodAll_cons r0
  obtain ⟨rfl, rfl, rfl⟩ := trodAll_nil r1
  obtain rfl : args = #[v0, v1] := by cases args; simp_all
  obtain ⟨rfl, rfl⟩ := trodVars_none hV
  have k0 := h0
  have lt0 : ∀ x ∈ p0, x.block < W.heap.size := by obtain ⟨m, hm⟩ := k0; exact DataW.trod_lt m _ _ _ hm
  obtain ⟨z0, w0, s0⟩ := open_pieces2 Try.underlying22 Try.underlying24 Try.underlying5 (by kernel_rfl) (by kernel_rfl) (by kernel_rfl) (hval 0 22 v0 rfl rfl) h0 (fun n hn => by simpa using List.all_eq_true.1 hsz n (DataW.weights_mem_each (j := 0) (t := 22) rfl rfl n hn))
  have k1 := h1
  have lt1 : ∀ x ∈ p1, x.block < W.heap.size := by obtain ⟨m, hm⟩ := k1; exact DataW.trod_lt m _ _ _ hm
  obtain ⟨z1, w1⟩ := open_bytes Try.underlying24 Try.underlying5 (by kernel_rfl) (hval 1 24 v1 rfl rfl) h1
  clear hA0 hval0
  refine (walk v0 z0 v1 z1 W w0 s0 w1).mono fun e W' ⟨he, bel⟩ => ?_
  subst he
  exact ⟨_, rfl, _, _, _, [], _, [], hW', trodAll_mk1 (shut_bool Try.underlying4 _), (trodAll_cons_mk (Below.trod laidOut (by kernel_rfl) (of_decide_eq_true (by kernel_rfl)) k0 bel lt0) (trodAll_cons_mk (Below.trod laidOut (by kernel_rfl) (of_decide_eq_true (by kernel_rfl)) k1 bel lt1) trodAll_mk0)), rfl, bel.frame _, fun h => by cases h⟩

theorem over : Rows.crcTreeRow.holds Try.pinned (OpenSpec.ofChange Rows.crcTreeSpec) :=
  OpenClaim.holds_of_wide 5 Try.f5 rfl rfl rfl rfl rfl rfl rfl ⟨rfl, rfl, rfl, rfl, rfl⟩ rfl rfl rfl rfl rfl (by kernel_rfl) Try.func5 (by kernel_rfl)
    (of_decide_eq_true (by kernel_rfl)) (by unfold Func.isWrapper; first | (rw [if_pos (by decide +kernel)]; kernel_rfl) | (rw [if_neg (by decide +kernel)]; exact ⟨rfl, rfl⟩))
    (fun os started H enc _ => lifted os started H enc)

theorem proved : Rows.CrcTreeSaid := over
#print axioms proved

end Go.Proofs.Ytfakplbgheljbaa.crcTree
