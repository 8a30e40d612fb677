/- Contracts of the document's Number and Form. -/
import Derived.Test.YthhfahnlcoiblaaO3
import Derived.Lib.AppendStr
import Derived.Lib.AppendZeros
namespace Go.Proofs.Ythhfahnlcoiblaa
open Go.RowKit

set_option maxHeartbeats 1000000 in
theorem rnumber (N : Nat) (w : World) (hN : N < 18446744073709551616) :
    Calls Try.prog 31 #[.int .u64 (N : Int)] w fun e w' => ∃ a c, e = .returned (.slice a (vi N).length c) ∧ Own w.heap.size w' (.slice a (vi N).length c) (vi N) ∧ Below w.heap.size w w' := by
  have h10 := vi_len10 hN
  go_enter Try.func31, Try.ntmps31
  go_wp2
  go_loopw [0, 3] (fun nv bv wr => ∃ (n : Nat) (b : List Int), n ≤ N ∧ nv = .int .u64 (n : Int) ∧ b ++ vi n = vi N ∧ Own w.heap.size wr bv b ∧ Below w.heap.size w wr) (fun nv _ _ => (intOf nv).toNat)
  case atStart => exact ⟨N, [], Nat.le_refl _, rfl, rfl, own_nil _ _, Below.refl _ _⟩
  case round =>
    obtain ⟨n, b, hn, rfl, hv, ho, hb⟩ := hrel
    obtain ⟨a0, c0, e0⟩ := ho.slice
    subst e0
    have hbl : b.length ≤ 10 := by have := congrArg List.length hv; simp at this; omega
    have HV := hid hv
    clear hv
    by_cases h : 128 ≤ n
    · have h' : (127 : Int) < (n : Int) := by omega
      obtain ⟨a', c', w', hrun, ho', hb'⟩ := push_run ho (128 + (n : Int) % 128) (by omega) (by omega) hb.size
      replace ho' := hid ho'
      replace hb := hid (hb.trans hb')
      clear ho hb'
      go_wp2_with (at_builtin; refine wpList_append_run _ rfl _ _ 26 rfl _ _ _ _ rfl rfl hrun ?_)
      go_roundw
      case rel => exact ⟨n / 128, b ++ [128 + (n : Int) % 128], by omega, by go_num, by rw [← HV.out, vi_ge (show ¬ n < 128 by omega)]; simp, by simpa using ho'.out, hb.out⟩
      case measure => simp [intOf]; omega
    · have h' : ¬ (127 : Int) < (n : Int) := by omega
      obtain ⟨a', c', w', hrun, ho', hb'⟩ := push_run ho (n : Int) (by omega) (by omega) hb.size
      have hvl : vi N = b ++ [(n : Int)] := by rw [← HV.out, vi_lt (show n < 128 by omega)]
      have hlen : b.length + 1 = (vi N).length := by rw [hvl]; simp
      rw [hlen, ← hvl] at ho'
      rw [hlen] at hrun
      replace ho' := hid ho'
      replace hb := hid (hb.trans hb')
      clear ho hb' hvl hlen
      go_wp2_with (at_builtin; refine wpList_append_run _ rfl _ _ 26 rfl _ _ _ _ rfl rfl hrun ?_)
      go_ret
      exact ⟨_, _, rfl, ho'.out, hb.out⟩
/-- append of a text to a row of one's own. -/
theorem appS_run {w : World} {base : Nat} {v : Value} {b : List Int} (s : List UInt8) (hr : Own base w v b) (hl : b.length + s.length ≤ 140737488355328) (hb : base ≤ w.heap.size) :
    ∃ a' c' w', (Builtin.append_ #[26, 9] 26 #[v, .string ⟨s.toArray⟩]).run Try.prog w = .ok (.slice a' (b.length + s.length) c') w' ∧ Own base w' (.slice a' (b.length + s.length) c') (b ++ ints s) ∧ w.grownBy w' v.ownBlock := by
  obtain ⟨i0, hi, hz0, hz1, hz2⟩ := info_parts bytesInfo
  have hsz : (⟨s.toArray⟩ : ByteArray).size = s.length := by show s.toArray.size = _; simp
  obtain ⟨v', w', hrun, h3, h4, _⟩ := Lib.run_append_own_string (P := Try.prog) w base 26 9 26 5 i0 Try.underlying26 Try.underlying9 hi hz0 hz1 hz2 v b.length (b.map (Value.int .u8)) hr.2 ⟨s.toArray⟩ (by rw [hsz]; unfold maxLen; omega) (by rw [hsz]; omega) hb
  rw [hsz] at h3
  obtain ⟨a', c', rfl⟩ := row_slice h3
  refine ⟨a', c', w', hrun, ⟨hr.1.app (ints_byt s), ?_⟩, h4⟩
  have e : b.map (Value.int .u8) ++ Lib.strCells ⟨s.toArray⟩ = (b ++ ints s).map (Value.int .u8) := by
    rw [List.map_append]
    congr 1
    simp [Lib.strCells, ints]
  rw [e] at h3
  simpa [ints_len] using h3
/-- a copy of a row of one's own behind nothing. -/
theorem grow_run {w : World} {v2 : Value} {bs : List Int} (h2 : IsB w v2 bs) (hl : bs.length ≤ 140737488355328) :
    ∃ a' c' w', (∀ ty, (Builtin.append_ #[26, 26] ty #[.slice none 0 0, v2]).run Try.prog w = .ok (.slice a' bs.length c') w') ∧ Own w.heap.size w' (.slice a' bs.length c') bs ∧ Below w.heap.size w w' := by
  obtain ⟨a', c', w', hrun, ho, hg, _⟩ := app_run (own_nil w.heap.size w) h2 (by simpa using hl) (Nat.le_refl _)
  simp only [List.length_nil, Nat.zero_add, List.nil_append] at hrun ho
  exact ⟨a', c', w', hrun, ho, app_low (own_nil w.heap.size w) (Nat.le_refl _) hg⟩
set_option maxHeartbeats 1000000 in
theorem rform (x : Vl) (a : Option Addr) (c : Nat) (w : World) (hx : x.Ok) (hv : IsB w (.slice a x.l.length c) x.l) (hls : x.l.length ≤ 20000) (hss : x.s.length ≤ 20000) :
    Calls Try.prog 14 #[agg x (.slice a x.l.length c)] w fun e w' => ∃ a' c', e = .returned (.slice a' (form x).length c') ∧ Own w.heap.size w' (.slice a' (form x).length c') (form x) ∧ Below w.heap.size w w' := by
  obtain ⟨k, u, i, b, l, s, n⟩ := x
  have hk := hx.k
  have hu := hx.u
  have hxi := hx.i
  have hn := hx.n
  simp only at hk hu hxi hn hls hss hv
  have hw := alloc_below w (.cells #[.int .u8 (k : Int), .int .u64 (u : Int), .int .i64 i, .bool b, .slice a l.length c, .string ⟨s.toArray⟩, .int .i64 n] 29)
  have hv1 := hid (hv.below hw)
  have hsz : (⟨s.toArray⟩ : ByteArray).size = s.length := by show s.toArray.size = _; simp
  replace hw := hid hw
  clear hv hx
  unfold agg str
  obtain rfl | rfl | rfl | rfl | rfl | rfl | ⟨j, rfl⟩ := kinds k
  · have h10 := vi_len10 hu
    go_enter Try.func14, Try.ntmps14
    go_wp2_with fail
    refine (rnumber u _ hu).mono ?_
    rintro e w1 ⟨a1, c1, rfl, o1, b1⟩
    obtain ⟨a2, c2, w2, hrun, o2, b2⟩ := grow_run o1.isB (by omega)
    have fin := hid (And.intro (o2.base (low' hw.out b1).size) (low' (low' hw.out b1) b2))
    clear o1 b1 o2 b2 hv1
    go_wp2_with (at_builtin; refine wpList_append_run _ rfl _ _ 26 rfl _ _ _ _ rfl rfl hrun ?_)
    go_ret
    exact ⟨a2, c2, rfl, fin.out.1, fin.out.2⟩
  · have hzl := zz_lt hxi
    have h10 := vi_len10 hzl
    obtain ⟨hxi0, hxi1⟩ := hxi
    change Calls _ _ _ _ fun e w' => ∃ a' c', e = .returned (.slice a' (vi (zz i)).length c') ∧ Own w.heap.size w' (.slice a' (vi (zz i)).length c') (vi (zz i)) ∧ Below w.heap.size w w'
    by_cases hz : i < 0
    · have e0 : ((zz i : Nat) : Int) = -(i + 1) * 2 + 1 := by unfold zz; split <;> omega
      have hnum := hid (fun W => rnumber (zz i) W hzl)
      rw [e0] at hnum
      replace e0 := hid e0
      go_enter Try.func14, Try.ntmps14
      go_wp2_with fail
      refine (hnum.out _).mono ?_
      rintro e w1 ⟨a1, c1, rfl, o1, b1⟩
      obtain ⟨a2, c2, w2, hrun, o2, b2⟩ := grow_run o1.isB (by omega)
      have fin := hid (And.intro (o2.base (low' hw.out b1).size) (low' (low' hw.out b1) b2))
      clear o1 b1 o2 b2 hv1
      go_wp2_with (at_builtin; refine wpList_append_run _ rfl _ _ 26 rfl _ _ _ _ rfl rfl hrun ?_)
      go_ret
      exact ⟨a2, c2, rfl, fin.out.1, fin.out.2⟩
    · have e0 : ((zz i : Nat) : Int) = i * 2 := by unfold zz; split <;> omega
      have hnum := hid (fun W => rnumber (zz i) W hzl)
      rw [e0] at hnum
      replace e0 := hid e0
      go_enter Try.func14, Try.ntmps14
      go_wp2_with fail
      refine (hnum.out _).mono ?_
      rintro e w1 ⟨a1, c1, rfl, o1, b1⟩
      obtain ⟨a2, c2, w2, hrun, o2, b2⟩ := grow_run o1.isB (by omega)
      have fin := hid (And.intro (o2.base (low' hw.out b1).size) (low' (low' hw.out b1) b2))
      clear o1 b1 o2 b2 hv1
      go_wp2_with (at_builtin; refine wpList_append_run _ rfl _ _ 26 rfl _ _ _ _ rfl rfl hrun ?_)
      go_ret
      exact ⟨a2, c2, rfl, fin.out.1, fin.out.2⟩
  · cases b
    · obtain ⟨a2, c2, w2, hrun, o2, b2⟩ := push_run (own_nil w.heap.size (w.alloc (.cells #[.int .u8 2, .int .u64 (u : Int), .int .i64 i, .bool false, .slice a l.length c, .string ⟨s.toArray⟩, .int .i64 n] 29))) 0 (by omega) (by simp) (by simp)
      rw [show (w.alloc (.cells #[.int .u8 2, .int .u64 (u : Int), .int .i64 i, .bool false, .slice a l.length c, .string ⟨s.toArray⟩, .int .i64 n] 29)).heap.size = w.heap.size + 1 by simp] at hrun
      simp only [List.length_nil, Nat.zero_add, List.nil_append] at hrun o2
      have fin := hid (And.intro o2 ((alloc_below w _).trans b2))
      clear o2 b2 hv1 hw
      go_enter Try.func14, Try.ntmps14
      go_wp2_with (at_builtin; refine wpList_append_run _ rfl _ _ 26 rfl _ _ _ _ rfl rfl hrun ?_)
      go_ret
      exact ⟨a2, c2, rfl, fin.out.1, fin.out.2⟩
    · obtain ⟨a2, c2, w2, hrun, o2, b2⟩ := push_run (own_nil w.heap.size (w.alloc (.cells #[.int .u8 2, .int .u64 (u : Int), .int .i64 i, .bool true, .slice a l.length c, .string ⟨s.toArray⟩, .int .i64 n] 29))) 1 (by omega) (by simp) (by simp)
      rw [show (w.alloc (.cells #[.int .u8 2, .int .u64 (u : Int), .int .i64 i, .bool true, .slice a l.length c, .string ⟨s.toArray⟩, .int .i64 n] 29)).heap.size = w.heap.size + 1 by simp] at hrun
      simp only [List.length_nil, Nat.zero_add, List.nil_append] at hrun o2
      have fin := hid (And.intro o2 ((alloc_below w _).trans b2))
      clear o2 b2 hv1 hw
      go_enter Try.func14, Try.ntmps14
      go_wp2_with (at_builtin; refine wpList_append_run _ rfl _ _ 26 rfl _ _ _ _ rfl rfl hrun ?_)
      go_ret
      exact ⟨a2, c2, rfl, fin.out.1, fin.out.2⟩
  · have h10 := vi_len10 (n := l.length) (by omega)
    go_enter Try.func14, Try.ntmps14
    go_wp2_with fail
    refine (rnumber l.length _ (by omega)).mono ?_
    rintro e w1 ⟨a1, c1, rfl, o1, b1⟩
    have B1 := low' hw.out b1
    obtain ⟨a2, c2, w2, hrun, o2, b2⟩ := grow_run o1.isB (by omega)
    have B2 := low' B1 b2
    have k2 : w2.cell? ⟨w.heap.size, 4, none⟩ = some (.slice a l.length c) := by
      have hc0 : (w.alloc (.cells #[.int .u8 3, .int .u64 (u : Int), .int .i64 i, .bool b, .slice a l.length c, .string ⟨s.toArray⟩, .int .i64 n] 29)).cell? ⟨w.heap.size, 4, none⟩ = some (.slice a l.length c) := by rw [cell_of (new_block w _)]; rfl
      exact ((b1.trans (b2.mono b1.size)).cell (p := ⟨w.heap.size, 4, none⟩) (World.block_lt_of_cell? _ _ hc0)).trans hc0
    obtain ⟨a3, c3, w3, hrun2, o3, g3, -⟩ := app_run (o2.base B1.size) ((hv1.out.below b1).below b2) (by omega) B2.size
    have fin := hid (And.intro o3 (B2.trans (app_low (o2.base B1.size) B2.size g3)))
    clear o1 b1 o2 b2 hv1 o3 g3 B1 B2
    go_wp2_with (first | (at_builtin; refine wpList_append_run _ rfl _ _ 26 rfl _ _ _ _ rfl rfl hrun ?_; clear hrun) | (at_builtin; refine wpList_append_run _ rfl _ _ 26 rfl _ _ _ _ rfl rfl hrun2 ?_; clear hrun2))
    go_ret
    have el : (form ⟨3, u, i, b, l, s, n⟩).length = (vi l.length).length + l.length := by simp [form]
    exact ⟨a3, c3, by rw [el]; rfl, by rw [el]; exact fin.out.1, fin.out.2⟩
  · have h10 := vi_len10 (n := s.length) (by omega)
    go_enter Try.func14, Try.ntmps14
    go_wp2_with fail
    refine (rnumber s.length _ (by omega)).mono ?_
    rintro e w1 ⟨a1, c1, rfl, o1, b1⟩
    have B1 := low' hw.out b1
    obtain ⟨a2, c2, w2, hrun, o2, b2⟩ := grow_run o1.isB (by omega)
    have B2 := low' B1 b2
    have k2 : w2.cell? ⟨w.heap.size, 5, none⟩ = some (.string ⟨s.toArray⟩) := by
      have hc0 : (w.alloc (.cells #[.int .u8 4, .int .u64 (u : Int), .int .i64 i, .bool b, .slice a l.length c, .string ⟨s.toArray⟩, .int .i64 n] 29)).cell? ⟨w.heap.size, 5, none⟩ = some (.string ⟨s.toArray⟩) := by rw [cell_of (new_block w _)]; rfl
      exact ((b1.trans (b2.mono b1.size)).cell (p := ⟨w.heap.size, 5, none⟩) (World.block_lt_of_cell? _ _ hc0)).trans hc0
    obtain ⟨a3, c3, w3, hrun2, o3, g3⟩ := appS_run s (o2.base B1.size) (by omega) B2.size
    have fin := hid (And.intro o3 (B2.trans (app_low (o2.base B1.size) B2.size g3)))
    clear o1 b1 o2 b2 hv1 o3 g3 B1 B2
    go_wp2_with (first | (at_builtin; refine wpList_append_run _ rfl _ _ 26 rfl _ _ _ _ rfl rfl hrun ?_; clear hrun) | (at_builtin; refine Lib.wpList_append_run _ rfl _ _ _ _ rfl _ _ rfl rfl _ _ hrun2 ?_; clear hrun2))
    go_ret
    have el : (form ⟨4, u, i, b, l, s, n⟩).length = (vi s.length).length + s.length := by simp [form, ints_len]
    exact ⟨a3, c3, by rw [el]; rfl, by rw [el]; exact fin.out.1, fin.out.2⟩
  · obtain ⟨hn0, hn1⟩ := hn
    have h10 := vi_len10 (n := n.toNat) (by omega)
    change Calls _ _ _ _ fun e w' => ∃ a' c', e = .returned (.slice a' (vi n.toNat).length c') ∧ Own w.heap.size w' (.slice a' (vi n.toNat).length c') (vi n.toNat) ∧ Below w.heap.size w w'
    have hnum := hid (fun W => rnumber n.toNat W (by omega))
    by_cases hz : n < 0
    · have e0 : n.toNat = 0 := by omega
      rw [e0] at hnum h10 ⊢
      go_enter Try.func14, Try.ntmps14
      go_wp2_with fail
      refine (hnum.out _).mono ?_
      rintro e w1 ⟨a1, c1, rfl, o1, b1⟩
      obtain ⟨a2, c2, w2, hrun, o2, b2⟩ := grow_run o1.isB (by omega)
      have fin := hid (And.intro (o2.base (low' hw.out b1).size) (low' (low' hw.out b1) b2))
      clear o1 b1 o2 b2 hv1
      go_wp2_with (at_builtin; refine wpList_append_run _ rfl _ _ 26 rfl _ _ _ _ rfl rfl hrun ?_)
      go_ret
      exact ⟨a2, c2, rfl, fin.out.1, fin.out.2⟩
    · obtain ⟨m, rfl⟩ : ∃ m : Nat, n = (m : Int) := ⟨n.toNat, by omega⟩
      rw [Int.toNat_natCast] at hnum h10 ⊢
      go_enter Try.func14, Try.ntmps14
      go_wp2_with fail
      refine (hnum.out _).mono ?_
      rintro e w1 ⟨a1, c1, rfl, o1, b1⟩
      obtain ⟨a2, c2, w2, hrun, o2, b2⟩ := grow_run o1.isB (by omega)
      have fin := hid (And.intro (o2.base (low' hw.out b1).size) (low' (low' hw.out b1) b2))
      clear o1 b1 o2 b2 hv1
      go_wp2_with (at_builtin; refine wpList_append_run _ rfl _ _ 26 rfl _ _ _ _ rfl rfl hrun ?_)
      go_ret
      exact ⟨a2, c2, rfl, fin.out.1, fin.out.2⟩
  · have e0 : (((j + 6 : Nat) : Int) == 0) = false := by simp; omega
    have e1 : (((j + 6 : Nat) : Int) == 1) = false := by simp; omega
    have e2 : (((j + 6 : Nat) : Int) == 2) = false := by simp; omega
    have e3 : (((j + 6 : Nat) : Int) == 3) = false := by simp; omega
    have e4 : (((j + 6 : Nat) : Int) == 4) = false := by simp; omega
    have e5 : (((j + 6 : Nat) : Int) == 5) = false := by simp; omega
    have hf : form ⟨j + 6, u, i, b, l, s, n⟩ = [] := rfl
    rw [hf]
    clear hf hv1
    generalize ((j + 6 : Nat) : Int) = kk at *
    go_enter Try.func14, Try.ntmps14
    go_wp2
    go_ret
    exact ⟨none, 0, rfl, own_nil _ _, hw.out⟩
end Go.Proofs.Ythhfahnlcoiblaa
