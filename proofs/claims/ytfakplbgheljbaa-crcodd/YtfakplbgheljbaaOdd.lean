/- For any two slices of bytes the law CrcOdd of the program returns true and leaves them as they were: bytes of one length that differ in an odd number of bits have unlike sums. No condition. -/
import Derived.Test.YtfakplbgheljbaaAwake
import Derived.Test.YtfakplbgheljbaaOpen
import Derived.Test.YtfakplbgheljbaaOddP
import Derived.Deep.RegionHeld3
import Derived.Laws.CopyOwn
import Derived.Laws.MakeOwn
import Derived.Laws.ShiftsVar
import Derived.Lib.SmallJoins
namespace Go.Proofs.Ytfakplbgheljbaa.crcOdd
open Go.ChangeShapes Go.WideShapes Go.ChangeAt Go.RowKit
set_option linter.unusedVariables false

def rowV (l : List Int) : List Value := l.map (Value.int .u8)
theorem rowV_length (l : List Int) : (rowV l).length = l.length := by simp [rowV]
theorem made (n : Nat) : madeCells (Value.int .u8 0).cells (n * 1) = (rowV (List.replicate n 0)).toArray := by
  unfold madeCells rowV
  apply Array.ext
  · simp
  · intro i h1 h2
    simp [Value.cells, Nat.mod_one]
theorem info5 : (Try.prog.info? 5).map (fun i => (i.zero, i.size, i.bytes)) = some (some (.int .u8 0), 1, 1) := by kernel_rfl
theorem info5s : (Try.prog.info? 5).map (·.size) = some 1 := by kernel_rfl
theorem xor_u8 (b o : Int) (h1 : 0 ≤ b) (h2 : b < 256) (h3 : 0 ≤ o) (h4 : o < 256) : bits .xor .u8 b o = bx8 b o := by
  rw [u8_xor b o h1 h2 h3 h4]
  unfold bx8
  rw [BitVec.toNat_xor, byt_toNat b h1 h2, byt_toNat o h3 h4]
theorem splice_all (cur cs : List Value) (h : cs.length = cur.length) : splice cur 0 cs = cs := by
  unfold splice
  rw [List.drop_of_length_le (by omega)]; simp
theorem src_cells (w : World) (b off n : Nat) (zs : List Int) (hz : n = zs.length) (h : ∀ i, i < zs.length → w.cell? ⟨b, off + i, none⟩ = some (.int .u8 (zs.getD i 0))) :
    ∀ j v, (rowV zs)[j]? = some v → w.cell? ((⟨b, off, none⟩ : Addr).add j) = some v := by
  intro j v hj
  rw [Addr.add_lit]
  unfold rowV at hj
  rw [List.getElem?_map] at hj
  by_cases hlt : j < zs.length
  · rw [h j hlt, ← hj, List.getElem?_eq_getElem hlt]
    simp [List.getD, List.getElem?_eq_getElem hlt]
  · rw [List.getElem?_eq_none (by omega)] at hj
    simp at hj
theorem one_cells (zs : List Int) : ∀ v ∈ rowV zs, v.oneCell' = true := by
  intro v hv
  unfold rowV at hv
  obtain ⟨z, _, rfl⟩ := List.mem_map.1 hv
  rfl

theorem copied (w w1 : World) (a0 : Option Addr) (la ca : Nat) (z0 : List Int) (h : IsB w1 (.slice a0 la ca) z0) (e : la = z0.length) (cur0 : List Value) (hc : cur0.length = la)
    (hb : Below w.heap.size w (w1.alloc (.cells cur0.toArray 5))) (hge : w.heap.size ≤ w1.heap.size) :
    ∃ w2, (Builtin.copy_ #[24, 24] 3 #[.slice (some ⟨w1.heap.size, 0, none⟩) la la, .slice a0 la ca]).run Try.prog (w1.alloc (.cells cur0.toArray 5)) = .ok (goInt la) w2 ∧
      w2.heap[w1.heap.size]? = some (.cells (rowV z0).toArray 5 (0, 0)) ∧ Below w.heap.size w w2 := by
  have hg : (w1.alloc (.cells cur0.toArray 5)).heap[w1.heap.size]? = some (.cells cur0.toArray 5 (0, 0)) := by
    show (w1.heap.push _)[w1.heap.size]? = _
    simp
  obtain ⟨_, _, a', cap', hv, _, _, hor⟩ := h
  obtain ⟨rfl, -, rfl⟩ : a0 = a' ∧ la = z0.length ∧ ca = cap' := by simpa using hv
  by_cases h0 : la = 0
  · obtain rfl : z0 = [] := List.eq_nil_of_length_eq_zero (by omega)
    subst h0
    obtain rfl : cur0 = [] := List.eq_nil_of_length_eq_zero hc
    refine ⟨_, run_copy_none (P := Try.prog) _ _ _ _ 5 _ _ 0 0 0 ca Try.underlying24 info5s (by simp), ?_, hb⟩
    exact hg
  · rcases hor with hz | ⟨b, off, rfl, hcell⟩
    · rw [hz] at e; simp at e; omega
    · have hr := run_copy_row (P := Try.prog) (w1.alloc (.cells cur0.toArray 5)) 24 24 3 5 w1.heap.size 0 la la ⟨b, off, none⟩ la ca cur0.toArray 5 (rowV z0) Try.underlying24 info5s hg
        (by rw [rowV_length, ← e]; simp) (fun j v hj => by
          have := src_cells w1 b off _ z0 rfl hcell j v hj
          rw [World.cell?_alloc_lt _ _ _ (World.block_lt_of_cell? _ _ this)]
          exact this) (by rw [rowV_length]; simp; omega) (one_cells z0)
      rw [rowV_length, ← e] at hr
      refine ⟨_, hr, ?_, below_setRow hb hge _⟩
      rw [setRow_heap _ _ _ _ _ _ hg]
      simp [List.drop_of_length_le (show cur0.length ≤ la by omega)]

theorem row_cell (w : World) (g i : Nat) (C : List Int) (t : TypeId) (h : w.heap[g]? = some (.cells (rowV C).toArray t (0, 0))) (hi : i < C.length) : w.cell? ⟨g, i, none⟩ = some (.int .u8 (C.getD i 0)) := by
  rw [Go.Joins.cell_of_block h]
  simp [rowV, List.getElem?_map, List.getElem?_eq_getElem hi, List.getD]
theorem row_set (w : World) (g i : Nat) (C : List Int) (t : TypeId) (z : Int) (h : w.heap[g]? = some (.cells (rowV C).toArray t (0, 0))) : (w.setCell ⟨g, i, none⟩ (.int .u8 z)).heap[g]? = some (.cells (rowV (C.set i z)).toArray t (0, 0)) := by
  rw [Go.Joins.block_setCell h]
  simp [rowV, List.map_set]
theorem row_isB (w : World) (g : Nat) (C : List Int) (t : TypeId) (h : w.heap[g]? = some (.cells (rowV C).toArray t (0, 0))) (hm : C.length ≤ maxLen) (hz : ∀ z ∈ C, 0 ≤ z ∧ z < 256) (n : Nat) (hn : n = C.length) : IsB w (.slice (some ⟨g, 0, none⟩) n n) C := by
  subst hn
  exact ⟨hm, hz, _, _, rfl, Nat.le_refl _, hm, .inr ⟨_, _, rfl, fun i hi => by rw [Nat.zero_add]; exact row_cell w g i C t h hi⟩⟩

theorem bit_test (o : Int) (h0 : 0 ≤ o) (h : o < 256) (j : Nat) : ((o / 2 ^ j).tmod 2 == 1) = (byt o).getLsbD j := by
  rw [byt_bit o h0 h]
  obtain ⟨n, rfl⟩ : ∃ n : Nat, o = (n : Int) := ⟨o.toNat, by omega⟩
  have e : ((n : Int) / 2 ^ j).tmod 2 = ((n / 2 ^ j % 2 : Nat) : Int) := by
    rw [Int.tmod_eq_emod_of_nonneg (Int.ediv_nonneg (by omega) (Int.pow_nonneg (by omega)))]
    simp
  rw [e, Int.toNat_natCast]
  generalize n / 2 ^ j % 2 = m
  rw [Bool.eq_iff_iff]
  simp
  omega
theorem par_up (j : Nat) (a : R) : par (j + 1) a = (par j a ^^ a.getLsbD j) := rfl
theorem flip (p q : Bool) : (p ^^ (q ^^ true)) = !(p ^^ q) := by cases p <;> cases q <;> rfl
theorem flop (p q : Bool) : (p ^^ q) = (p ^^ (q ^^ false)) := by cases p <;> cases q <;> rfl

set_option maxHeartbeats 4000000 in
theorem walk_any (a0 a1 : Option Addr) (la lb ca cb : Nat) (z0 z1 : List Int) (w : World) (h0 : IsB w (.slice a0 la ca) z0) (h1 : IsB w (.slice a1 lb cb) z1) (e0 : la = z0.length) (e1 : lb = z1.length) :
    Calls Try.prog 7 #[.slice a0 la ca, .slice a1 lb cb] w fun e w' => e = .returned (.bool true) ∧ Below w.heap.size w w' := by
  have l0 : la ≤ ca ∧ ca ≤ maxLen := by obtain ⟨_, _, _, _, hv, h3, h4, _⟩ := h0; cases hv; omega
  have l1 : lb ≤ cb ∧ cb ≤ maxLen := by obtain ⟨_, _, _, _, hv, h3, h4, _⟩ := h1; cases hv; omega
  unfold maxLen at l0 l1
  obtain ⟨l00, l01⟩ := l0
  obtain ⟨l10, l11⟩ := l1
  have H0 := hid h0
  have H1 := hid h1
  have E0 := hid e0
  have E1 := hid e1
  clear h0 h1 e0 e1
  by_cases h5 : 5000 < la
  · have h5' : (5000 : Int) < (la : Int) := by omega
    go_enter Try.func7, Try.ntmps7
    go_wp2_with (go_at_call 16; refine (awake_any _).mono ?_; rintro e w1 ⟨rfl, hb⟩)
    go_ret
    exact ⟨rfl, hb⟩
  · have h5' : ¬ (5000 : Int) < (la : Int) := by omega
    obtain ⟨i0, hi, hz0, hz1, hz2⟩ := info_parts info5
    have hmk := fun w => run_make (P := Try.prog) w 24 5 i0 (.int .u8 0) Try.underlying24 hi hz0 .i64 .i64 (la : Int) (la : Int) (by omega) (by omega) (by rw [hz2]; omega) (by omega)
    rw [hz1] at hmk
    simp only [Int.toNat_natCast, made] at hmk
    obtain ⟨cur0, hcur0⟩ : ∃ c, c = rowV (List.replicate la 0) := ⟨_, rfl⟩
    obtain ⟨cs, hcs⟩ : ∃ c, c = rowV z0 := ⟨_, rfl⟩
    rw [← hcur0] at hmk
    have HCU := hid hcur0
    have HCS := hid hcs
    clear hcur0 hcs
    go_enter Try.func7, Try.ntmps7
    go_wp2_with fail
    refine (awake_any _).mono ?_
    rintro e w1 ⟨rfl, hb⟩
    have b1 : Below w.heap.size w (w1.alloc (.cells cur0.toArray 5)) := hb.alloc hb.size _
    have hge : w.heap.size ≤ w1.heap.size := hb.size
    have B0 : IsB w1 (.slice a0 la ca) z0 := H0.out.below hb
    have B1 : IsB w1 (.slice a1 lb cb) z1 := H1.out.below hb
    have BB0 := hid B0
    have BB1 := hid B1
    have HB1 := hid b1
    have HGE := hid hge
    clear B0 B1 hb b1 hge
    obtain ⟨w2, hrun, hg2, hb2⟩ := copied w w1 a0 la ca z0 BB0.out E0.out cur0 (by rw [HCU.out, rowV_length, List.length_replicate]) HB1.out HGE.out
    have HG2 := hid hg2
    have HB2 := hid hb2
    clear hg2 hb2 HB1 HCU HCS
    go_wp2_with fail
    obtain ⟨g, hg⟩ : ∃ g, g = w1.heap.size := ⟨_, rfl⟩
    rw [← hg]
    rw [← hg] at HG2 HGE
    have hgl : w.heap.size ≤ g := HGE.out
    clear hrun hmk hi hz0 hz1 hz2 hg
    go_loopw [6, 7] (fun od i wr => ∃ k : Nat, k ≤ la ∧ k ≤ lb ∧ i = .int .i64 k ∧ od = .bool (parB (z1.take k)) ∧ wr.heap[g]? = some (.cells (rowV (xo z0 (z1.take k))).toArray 5 (0, 0)) ∧ Below w.heap.size w wr) (fun _ i _ => la - (intOf i).toNat)
    case atStart => exact ⟨0, by omega, by omega, rfl, rfl, by simpa [xo_nil] using HG2.out, HB2.out⟩
    case round =>
      obtain ⟨k, hka, hkb, rfl, rfl, hrow, hbel⟩ := hrel
      by_cases hlt : k < la ∧ k < lb
      · obtain ⟨h1, h2⟩ := hlt
        have d1 : decide ((k : Int) < (la : Int)) = true := by simp; omega
        have d2 : decide ((k : Int) < (lb : Int)) = true := by simp; omega
        have h1' : (k : Int) < (la : Int) := by omega
        have h2' : (k : Int) < (lb : Int) := by omega
        have h3' : (0 : Int) ≤ (k : Int) := by omega
        have hlen : k < (xo z0 (z1.take k)).length := by rw [xo_length, ← E0.out]; exact h1
        have hc0 := row_cell wr g k _ _ hrow hlen
        rw [xo_get] at hc0
        have hf0 := Go.Joins.unfrozen_of_block hrow k
        obtain ⟨_, hzb0, _⟩ := H0.out
        obtain ⟨_, hzb1, a', cap', hv, _, _, hor⟩ := H1.out
        obtain ⟨b1, off1, rfl, hcell1⟩ : ∃ b off, a1 = some ⟨b, off, none⟩ ∧ ∀ i, i < z1.length → w.cell? ⟨b, off + i, none⟩ = some (.int .u8 (z1.getD i 0)) := by
          obtain ⟨rfl, -, -⟩ : a1 = a' ∧ lb = z1.length ∧ cb = cap' := by simpa using hv
          rcases hor with h | h
          · have := E1.out; rw [h] at this; simp at this; omega
          · exact h
        have hc1 := hcell1 k (by rw [← E1.out]; exact h2)
        have hc1' : wr.cell? ⟨b1, off1 + k, none⟩ = some (.int .u8 (z1.getD k 0)) := (hbel.cell (p := ⟨b1, off1 + k, none⟩) (World.block_lt_of_cell? _ _ hc1)).trans hc1
        have hne : b1 ≠ g := by have := World.block_lt_of_cell? _ _ hc1; simp at this; omega
        have hB := hzb0 _ (getD_mem z0 k (by rw [← E0.out]; exact h1))
        have hO := hzb1 _ (getD_mem z1 k (by rw [← E1.out]; exact h2))
        have HSET := hid (xo_set k z0 z1 (by rw [← E0.out]; exact h1) (by rw [← E1.out]; exact h2))
        have HTAKE := hid (take_snoc z1 k (by rw [← E1.out]; exact h2))
        clear hcell1 hor hv hzb0 hzb1 hc1
        generalize z0.getD k 0 = cb0 at *
        generalize z1.getD k 0 = ob at *
        obtain ⟨hB0, hB1⟩ := hB
        obtain ⟨hO0, hO1⟩ := hO
        have HX := hid (xor_u8 cb0 ob hB0 hB1 hO0 hO1)
        have HROW := hid hrow
        have HBEL := hid hbel
        clear hrow hbel
        go_wp2_with fail
        go_region
        rw [HX.out]
        have hrow3 : (wr.setCell ⟨g, k, none⟩ (.int .u8 (bx8 cb0 ob))).drew.heap[g]? = some (.cells (rowV (xo z0 (z1.take (k + 1)))).toArray 5 (0, 0)) := by
          rw [← HSET.out]; exact row_set wr g k _ _ _ HROW.out
        have hbel3 : Below w.heap.size w (wr.setCell ⟨g, k, none⟩ (.int .u8 (bx8 cb0 ob))).drew := (HBEL.out.setCell hgl _).drew
        have hc3 : (wr.setCell ⟨g, k, none⟩ (.int .u8 (bx8 cb0 ob))).drew.cell? ⟨b1, off1 + k, none⟩ = some (.int .u8 ob) := by
          have : (wr.setCell ⟨g, k, none⟩ (.int .u8 (bx8 cb0 ob))).cell? ⟨b1, off1 + k, none⟩ = some (.int .u8 ob) := by
            rw [World.cell?_of_block (w := wr) (Below.heap_setCell _ _ _ _ hne)]; exact hc1'
          exact this
        generalize (wr.setCell ⟨g, k, none⟩ (.int .u8 (bx8 cb0 ob))).drew = w3 at *
        have HROW3 := hid hrow3
        have HBEL3 := hid hbel3
        clear hrow3 hbel3 HROW HBEL hc0 hf0 hc1'
        go_wp2_with fail
        go_loop [6, 8] (fun od i => ∃ j : Nat, j ≤ 8 ∧ i = .int .i64 j ∧ od = .bool (parB (z1.take k) ^^ par j (byt ob))) (fun _ i => 8 - (intOf i).toNat)
        case atStart => exact ⟨0, by omega, rfl, by simp [par]⟩
        case round =>
          obtain ⟨j, hj, rfl, rfl⟩ := hrel
          by_cases hjt : j < 8
          · have hjt' : (j : Int) < 8 := by omega
            have ht := bit_test ob hO0 hO1 j
            have HU := hid (par_up j (byt ob))
            cases hq : (byt ob).getLsbD j
            all_goals
              rw [hq] at ht
              have HQ := hid hq
              clear hq
              go_wp2_with fail
              go_round
              case rel => exact ⟨j + 1, by omega, by go_num, congrArg Value.bool (by rw [HU.out, HQ.out]; first | exact flop _ _ | exact (flip _ _).symm)⟩
              case measure => simp [intOf]; omega
          · have hjt' : ¬ (j : Int) < 8 := by omega
            obtain rfl : j = 8 := by omega
            go_wp2
            go_roundw
            case rel => exact ⟨k + 1, by omega, by omega, by go_num, by rw [HTAKE.out, parB_snoc], HROW3.out, HBEL3.out⟩
            case measure => simp [intOf]; omega
      · have hbl : Below w.heap.size w wr := hbel
        have hBz := row_isB wr g (xo z0 (z1.take k)) _ hrow (by rw [xo_length, ← E0.out]; unfold maxLen; omega) (xo_in z0 H0.out.2.1 _ (fun z hz => H1.out.2.1 z (List.mem_of_mem_take hz))) la (by rw [xo_length, ← E0.out])
        have hB0 : IsB wr (.slice a0 la ca) z0 := H0.out.below hbel
        have HN : Hid (parB (z1.take k) = true → sum z0 ≠ sum (xo z0 (z1.take k))) := fun hp => sum_over z0 (z1.take k) (by rw [← E0.out]; simp; omega) (fun z hz => H1.out.2.1 z (List.mem_of_mem_take hz)) hp
        have HBz := hid hBz
        have HB0 := hid hB0
        have HBL := hid hbl
        clear hBz hB0 hbl hrow hbel
        generalize xo z0 (z1.take k) = zc at *
        have hd : (decide ((k : Int) < (la : Int)) = true ∧ decide ((k : Int) < (lb : Int)) = false) ∨ decide ((k : Int) < (la : Int)) = false := by
          simp; omega
        cases hp : parB (z1.take k)
        · rcases hd with ⟨d1, d2⟩ | d1
          all_goals go_wp2_with fail
          all_goals
            go_ret
            exact ⟨rfl, HBL.out⟩
        · have HNE := hid (HN.out hp)
          rcases hd with ⟨d1, d2⟩ | d1
          all_goals go_wp2_with fail
          all_goals
            refine (sum_any _ _ _ HB0.out).mono ?_
            rintro e w4 ⟨rfl, hb4⟩
            go_wp2_with fail
            refine (sum_any _ _ _ (HBz.out.below hb4)).mono ?_
            rintro e w5 ⟨rfl, hb5⟩
            have ht : (((sum z0).toNat : Int) != ((sum zc).toNat : Int)) = true := by
              have := HNE.out
              simp only [bne_iff_ne, ne_eq]
              intro h
              exact this (BitVec.eq_of_toNat_eq (by omega))
            go_wp2_with fail
            go_ret
            exact ⟨rfl, (HBL.out.trans (hb4.mono HBL.out.size)).trans (hb5.mono (by have := HBL.out.size; have := hb4.size; omega))⟩

theorem walk (v0 : Value) (z0 : List Int) (v1 : Value) (z1 : List Int) (w : World) (h0 : IsB w v0 z0) (h1 : IsB w v1 z1) :
    Calls Try.prog 7 #[v0, v1] w fun e w' => e = .returned (.bool true) ∧ Below w.heap.size w w' := by
  obtain ⟨a0, ca, rfl⟩ : ∃ a cap, v0 = .slice a z0.length cap := by obtain ⟨_, _, a, cap, h, _⟩ := h0; exact ⟨a, cap, h⟩
  obtain ⟨a1, cb, rfl⟩ : ∃ a cap, v1 = .slice a z1.length cap := by obtain ⟨_, _, a, cap, h, _⟩ := h1; exact ⟨a, cap, h⟩
  exact walk_any a0 a1 _ _ ca cb z0 z1 w h0 h1 rfl rfl

theorem own : ownKnob Try.prog.godebug = none := by kernel_rfl
theorem laidOut : laidOutB Try.prog = true := by kernel_rfl

set_option maxRecDepth 100000 in
theorem lifted (os : Os) (started : os.Started) (H : Type) (enc : TypeId × Value → H) :
    ReturnsInHanded {} Try.checked os 7 .any (Rows.crcOddSpec.pre6 enc Try.prog Try.f7 Rows.crcOddRow.domain false) (Rows.crcOddSpec.post enc Try.prog Try.f7 false true false false) := by
  refine returnsInHanded_of_change (C := Try.checked) own started (by kernel_rfl) Try.func7
    (ChangeSpec.witness6 (enc := enc) (C := Try.checked) false ⟨#[], #[.slice none 0 0, .slice none 0 0], []⟩ 8 (by kernel_rfl) (by kernel_rfl) (by kernel_rfl) (by kernel_rfl)) ?_
  intro W base args ds gs before hval0 hW hcnd _
  have hval : ∀ (j : Nat) t v, Try.f7.params[j]? = some t → args[j]? = some v → Value.okWide Try.prog W .any base t v := hval0
  have hW' := hW
  obtain ⟨p, q, hA0, hV, rfl, hfz, hnd⟩ := hW
  have hA : DataW.TrodAll enc Try.prog W 0 (fun _ => true) true Try.f7.params.toList args.toList ds p := hA0
  rw [Try.params7] at hA hval
  obtain ⟨v0, vs0, d0, ds0, p0, q0, hargs, rfl, rfl, h0, r0⟩ := trodAll_cons hA
  obtain ⟨v1, vs1, d1, ds1, p1, q1, rfl, rfl, rfl, h1, r1⟩ := trodAll_cons r0
  obtain ⟨rfl, rfl, rfl⟩ := trodAll_nil r1
  obtain rfl : args = #[v0, v1] := by cases args; simp_all
  obtain ⟨rfl, rfl⟩ := trodVars_none hV
  have k0 := h0
  have lt0 : ∀ x ∈ p0, x.block < W.heap.size := by obtain ⟨m, hm⟩ := k0; exact DataW.trod_lt m _ _ _ hm
  obtain ⟨z0, w0⟩ := open_bytes Try.underlying24 Try.underlying5 (by kernel_rfl) (hval 0 24 v0 rfl rfl) h0
  have k1 := h1
  have lt1 : ∀ x ∈ p1, x.block < W.heap.size := by obtain ⟨m, hm⟩ := k1; exact DataW.trod_lt m _ _ _ hm
  obtain ⟨z1, w1⟩ := open_bytes Try.underlying24 Try.underlying5 (by kernel_rfl) (hval 1 24 v1 rfl rfl) h1
  clear hA0 hval0
  refine (walk v0 z0 v1 z1 W w0 w1).mono fun e W' ⟨he, bel⟩ => ?_
  subst he
  exact ⟨_, rfl, _, _, _, [], _, [], hW', trodAll_mk1 (shut_bool Try.underlying4 _), (trodAll_cons_mk (Below.trod laidOut (by kernel_rfl) (of_decide_eq_true (by kernel_rfl)) k0 bel lt0) (trodAll_cons_mk (Below.trod laidOut (by kernel_rfl) (of_decide_eq_true (by kernel_rfl)) k1 bel lt1) trodAll_mk0)), rfl, bel.frame _, fun h => by cases h⟩

theorem over : Rows.crcOddRow.holds Try.pinned (OpenSpec.ofChange Rows.crcOddSpec) :=
  OpenClaim.holds_of_wide 7 Try.f7 rfl rfl rfl rfl rfl rfl rfl ⟨rfl, rfl, rfl, rfl, rfl⟩ rfl rfl rfl rfl rfl (by kernel_rfl) Try.func7 (by kernel_rfl)
    (of_decide_eq_true (by kernel_rfl)) (by unfold Func.isWrapper; first | (rw [if_pos (by decide +kernel)]; kernel_rfl) | (rw [if_neg (by decide +kernel)]; exact ⟨rfl, rfl⟩))
    (fun os started H enc _ => lifted os started H enc)

theorem proved : Rows.CrcOddSaid := over
#print axioms proved

end Go.Proofs.Ytfakplbgheljbaa.crcOdd
