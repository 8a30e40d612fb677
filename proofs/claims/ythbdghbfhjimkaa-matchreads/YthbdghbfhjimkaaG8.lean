/- Labels and matchers as they lie in memory, and what the frame tells of them: slices of them; contract of the law's great. -/
import Derived.Test.YthbdghbfhjimkaaR1
import Derived.Test.YthbdghbfhjimkaaMM
import Derived.ProofKit
import Derived.OpenShut
import Derived.ShutString
import Derived.ChangeOld
import Derived.Deep.Slices
import Derived.Deep.Matrix
namespace Go.Proofs.Ythbdghbfhjimkaa
open Go.ChangeShapes Go.WideShapes Go.ChangeAt Go.RowKit

theorem cellsLb : Try.prog.cellsOf 44 = 2 := by kernel_rfl
theorem cellsMb : Try.prog.cellsOf 37 = 3 := by kernel_rfl
theorem k_u8 : Try.prog.cellsOf 5 = 1 := by kernel_rfl
theorem k_str : Try.prog.cellsOf 9 = 1 := by kernel_rfl
theorem str_of (s : ByteArray) : Value.string s = str s.data.toList := by
  unfold str
  cases s; simp
section
variable {H : Type} {enc : TypeId × Value → H} {w : World} {base : Nat} {held : Bool}
set_option maxRecDepth 100000 in
theorem cells_label {fuel : Nat} {cs : List Value} {x : DataW H × List MemPlace} (h : DataW.trod enc Try.prog w base (fun _ => true) held fuel 44 cs = some x) : ∃ y : Lb, cs = [str y.1, str y.2] ∧ y.1.length ≤ maxLen ∧ y.2.length ≤ maxLen := by
  obtain ⟨xs, n, _, _, hcl, hxl, hf⟩ := DataW.trod_struct Try.underlying44 h
  rw [cellsLb] at hcl
  match cs, hcl with
  | [c0, c1], _ =>
  have hx : ∀ i, i < 2 → ∃ y, xs[i]? = some y := fun i hi => ⟨_, List.getElem?_eq_getElem (by rw [hxl]; exact hi)⟩
  obtain ⟨y0, e0⟩ := hx 0 (by decide)
  obtain ⟨y1, e1⟩ := hx 1 (by decide)
  have f0 : DataW.trod enc Try.prog w base (fun _ => true) held n 9 [c0] = some y0 := by
    have h0 := hf 0 _ rfl
    rw [e0] at h0
    simpa [k_str] using h0
  have f1 : DataW.trod enc Try.prog w base (fun _ => true) held n 9 [c1] = some y1 := by
    have h0 := hf 1 _ rfl
    rw [e1] at h0
    simpa [k_str] using h0
  obtain ⟨s0, q0, _, l0⟩ := DataW.trod_string Try.underlying9 f0
  obtain ⟨s1, q1, _, l1⟩ := DataW.trod_string Try.underlying9 f1
  simp only [List.cons.injEq, and_true] at q0 q1
  subst q0 q1
  refine ⟨(s0.data.toList, s1.data.toList), ?_, by show s0.data.toList.length ≤ _; rw [Array.length_toList]; exact l0, by show s1.data.toList.length ≤ _; rw [Array.length_toList]; exact l1⟩
  rw [str_of s0, str_of s1]
set_option maxRecDepth 100000 in
theorem open_labs {r : Reach} {base0 : Nat} {v : Value} {d : DataW H} {p : List MemPlace} (hv : Value.okWide Try.prog w r base0 23 v) (h : DataW.Trod enc Try.prog w base (fun _ => true) held 23 v d p) : ∃ l, IsLs w v l := by
  obtain ⟨a, len, cap, rfl⟩ := okWide_slice Try.underlying23 hv
  obtain ⟨fuel, hf⟩ := h
  rcases Go.Deep.open_slice Try.underlying23 hf with ⟨hcs, _⟩ | ⟨x, l, c, m, n, D, Pl, hcs, _, hl, hm, hmm, _, hx⟩
  · simp [Value.cells] at hcs
    obtain ⟨rfl, rfl, rfl⟩ := hcs
    exact ⟨[], by simp, by intro z hz; simp at hz, none, 0, rfl, by simp, by simp, .inl rfl⟩
  · simp [Value.cells] at hcs
    obtain ⟨rfl, rfl, rfl⟩ := hcs
    have hm' : m = cap := by simpa using hmm
    rw [cellsLb] at hx
    have hall : ∀ i, i < len → ∃ y : Lb, w.cells? base (x.add (i * 2)) 2 = some [str y.1, str y.2] ∧ y.1.length ≤ maxLen ∧ y.2.length ≤ maxLen := fun i hi => by
      obtain ⟨cs', h1, h2⟩ := hx i (by omega)
      obtain ⟨y, hy, hy2⟩ := cells_label h2
      exact ⟨y, by rw [← hy]; exact h1, hy2⟩
    have hch : ∃ Y : Nat → Lb, ∀ i, i < len → w.cells? base (x.add (i * 2)) 2 = some [str (Y i).1, str (Y i).2] ∧ (Y i).1.length ≤ maxLen ∧ (Y i).2.length ≤ maxLen := by
      refine ⟨fun i => if hi : i < len then Classical.choose (hall i hi) else ([], []), fun i hi => ?_⟩
      simp only [hi, dif_pos]
      exact Classical.choose_spec (hall i hi)
    obtain ⟨Y, hY⟩ := hch
    have hlen : ((List.range len).map Y).length = len := by simp
    have hat : ∀ i y, ((List.range len).map Y)[i]? = some y → i < len ∧ y = Y i := fun i y hy => by
      rw [List.getElem?_map] at hy
      cases hr : (List.range len)[i]? with
      | none => rw [hr] at hy; cases hy
      | some k =>
        rw [hr] at hy
        have hk := List.getElem?_eq_some_iff.1 hr
        obtain ⟨hk1, hk2⟩ := hk
        simp at hk1 hk2
        subst hk2
        exact ⟨hk1, (Option.some.inj hy).symm⟩
    refine ⟨(List.range len).map Y, by omega, fun y hy => ?_, some x, cap, by rw [hlen], by omega, by omega, ?_⟩
    · obtain ⟨i, hi⟩ := List.mem_iff_getElem?.1 hy
      obtain ⟨h1, rfl⟩ := hat i y hi
      exact (hY i h1).2
    by_cases h0 : len = 0
    · left; simp [h0]
    · right
      obtain ⟨b, off, spot⟩ := x
      have hsp : spot = none := by
        obtain ⟨h1, _⟩ := hY 0 (by omega)
        have h2 := (World.cells?_some h1).2.2 0 (by decide)
        obtain ⟨u, hu⟩ : ∃ u, w.cell? ((Addr.add ⟨b, off, spot⟩ (0 * 2)).add 0) = some u := by
          rw [h2]
          exact ⟨_, rfl⟩
        simpa [Addr.add] using World.cell?_spot hu
      subst hsp
      refine ⟨b, off, rfl, fun i y hy => ?_⟩
      obtain ⟨hi, rfl⟩ := hat i y hy
      obtain ⟨h1, _⟩ := hY i hi
      have h2 := (World.cells?_some h1).2.2 0 (by decide)
      have h3 := (World.cells?_some h1).2.2 1 (by decide)
      rw [Addr.add_lit, Addr.add_lit] at h2 h3
      exact ⟨h2, h3⟩
set_option maxRecDepth 100000 in
theorem cells_mat {fuel : Nat} {cs : List Value} {x : DataW H × List MemPlace} (h : DataW.trod enc Try.prog w base (fun _ => true) held fuel 37 cs = some x) : ∃ y : Mt, cs = [str y.1, opv y.2.1, str y.2.2] ∧ y.1.length ≤ maxLen ∧ y.2.2.length ≤ maxLen := by
  obtain ⟨xs, n, _, _, hcl, hxl, hf⟩ := DataW.trod_struct Try.underlying37 h
  rw [cellsMb] at hcl
  match cs, hcl with
  | [c0, c1, c2], _ =>
  have hx : ∀ i, i < 3 → ∃ y, xs[i]? = some y := fun i hi => ⟨_, List.getElem?_eq_getElem (by rw [hxl]; exact hi)⟩
  obtain ⟨y0, e0⟩ := hx 0 (by decide)
  obtain ⟨y1, e1⟩ := hx 1 (by decide)
  obtain ⟨y2, e2⟩ := hx 2 (by decide)
  have f0 : DataW.trod enc Try.prog w base (fun _ => true) held n 9 [c0] = some y0 := by
    have h0 := hf 0 _ rfl
    rw [e0] at h0
    simpa [k_str] using h0
  have f1 : DataW.trod enc Try.prog w base (fun _ => true) held n 5 [c1] = some y1 := by
    have h0 := hf 1 _ rfl
    rw [e1] at h0
    simpa [k_u8] using h0
  have f2 : DataW.trod enc Try.prog w base (fun _ => true) held n 9 [c2] = some y2 := by
    have h0 := hf 2 _ rfl
    rw [e2] at h0
    simpa [k_str] using h0
  obtain ⟨s0, q0, _, l0⟩ := DataW.trod_string Try.underlying9 f0
  obtain ⟨z1, q1, _, l1⟩ := DataW.trod_int Try.underlying5 f1
  obtain ⟨s2, q2, _, l2⟩ := DataW.trod_string Try.underlying9 f2
  simp only [List.cons.injEq, and_true] at q0 q1 q2
  subst q0 q1 q2
  simp [Lit.wf, IntKind.min, IntKind.max, IntKind.bits, IntKind.signed] at l1
  refine ⟨(s0.data.toList, UInt8.ofNat z1.toNat, s2.data.toList), ?_, by show s0.data.toList.length ≤ _; rw [Array.length_toList]; exact l0, by show s2.data.toList.length ≤ _; rw [Array.length_toList]; exact l2⟩
  have e : opv (UInt8.ofNat z1.toNat) = .int .u8 z1 := by
    unfold opv
    congr 1
    rw [UInt8.toNat_ofNat']
    omega
  rw [str_of s0, str_of s2]
  simp only [e]
set_option maxRecDepth 100000 in
theorem open_mats {r : Reach} {base0 : Nat} {v : Value} {d : DataW H} {p : List MemPlace} (hv : Value.okWide Try.prog w r base0 22 v) (h : DataW.Trod enc Try.prog w base (fun _ => true) held 22 v d p) : ∃ l, IsMs w v l := by
  obtain ⟨a, len, cap, rfl⟩ := okWide_slice Try.underlying22 hv
  obtain ⟨fuel, hf⟩ := h
  rcases Go.Deep.open_slice Try.underlying22 hf with ⟨hcs, _⟩ | ⟨x, l, c, m, n, D, Pl, hcs, _, hl, hm, hmm, _, hx⟩
  · simp [Value.cells] at hcs
    obtain ⟨rfl, rfl, rfl⟩ := hcs
    exact ⟨[], by simp, by intro z hz; simp at hz, none, 0, rfl, by simp, by simp, .inl rfl⟩
  · simp [Value.cells] at hcs
    obtain ⟨rfl, rfl, rfl⟩ := hcs
    have hm' : m = cap := by simpa using hmm
    rw [cellsMb] at hx
    have hall : ∀ i, i < len → ∃ y : Mt, w.cells? base (x.add (i * 3)) 3 = some [str y.1, opv y.2.1, str y.2.2] ∧ y.1.length ≤ maxLen ∧ y.2.2.length ≤ maxLen := fun i hi => by
      obtain ⟨cs', h1, h2⟩ := hx i (by omega)
      obtain ⟨y, hy, hy2⟩ := cells_mat h2
      exact ⟨y, by rw [← hy]; exact h1, hy2⟩
    have hch : ∃ Y : Nat → Mt, ∀ i, i < len → w.cells? base (x.add (i * 3)) 3 = some [str (Y i).1, opv (Y i).2.1, str (Y i).2.2] ∧ (Y i).1.length ≤ maxLen ∧ (Y i).2.2.length ≤ maxLen := by
      refine ⟨fun i => if hi : i < len then Classical.choose (hall i hi) else ([], 0, []), fun i hi => ?_⟩
      simp only [hi, dif_pos]
      exact Classical.choose_spec (hall i hi)
    obtain ⟨Y, hY⟩ := hch
    have hlen : ((List.range len).map Y).length = len := by simp
    have hat : ∀ i y, ((List.range len).map Y)[i]? = some y → i < len ∧ y = Y i := fun i y hy => by
      rw [List.getElem?_map] at hy
      cases hr : (List.range len)[i]? with
      | none => rw [hr] at hy; cases hy
      | some k =>
        rw [hr] at hy
        have hk := List.getElem?_eq_some_iff.1 hr
        obtain ⟨hk1, hk2⟩ := hk
        simp at hk1 hk2
        subst hk2
        exact ⟨hk1, (Option.some.inj hy).symm⟩
    refine ⟨(List.range len).map Y, by omega, fun y hy => ?_, some x, cap, by rw [hlen], by omega, by omega, ?_⟩
    · obtain ⟨i, hi⟩ := List.mem_iff_getElem?.1 hy
      obtain ⟨h1, rfl⟩ := hat i y hi
      exact (hY i h1).2
    by_cases h0 : len = 0
    · left; simp [h0]
    · right
      obtain ⟨b, off, spot⟩ := x
      have hsp : spot = none := by
        obtain ⟨h1, _⟩ := hY 0 (by omega)
        have h2 := (World.cells?_some h1).2.2 0 (by decide)
        obtain ⟨u, hu⟩ : ∃ u, w.cell? ((Addr.add ⟨b, off, spot⟩ (0 * 3)).add 0) = some u := by
          rw [h2]
          exact ⟨_, rfl⟩
        simpa [Addr.add] using World.cell?_spot hu
      subst hsp
      refine ⟨b, off, rfl, fun i y hy => ?_⟩
      obtain ⟨hi, rfl⟩ := hat i y hy
      obtain ⟨h1, _⟩ := hY i hi
      have h2 := (World.cells?_some h1).2.2 0 (by decide)
      have h3 := (World.cells?_some h1).2.2 1 (by decide)
      have h4 := (World.cells?_some h1).2.2 2 (by decide)
      rw [Addr.add_lit, Addr.add_lit] at h2 h3 h4
      exact ⟨h2, h3, h4⟩
end
def wt (x : Lb) : Nat := x.1.length + x.2.length
def sumw (l : List Lb) (k : Nat) : Nat := ((l.take k).map wt).sum
theorem sumw_succ (l : List Lb) (k : Nat) (hk : k < l.length) : sumw l (k + 1) = sumw l k + wt l[k] := by
  unfold sumw
  rw [List.take_succ_eq_append_getElem hk, List.map_append, List.sum_append]
  congr 1
theorem sumw_le (l : List Lb) (k : Nat) : sumw l k ≤ sumw l l.length := by
  unfold sumw
  conv => rhs; rw [List.take_length, ← List.take_append_drop k l, List.map_append, List.sum_append]
  omega
def wtM (x : Mt) : Nat := x.1.length + x.2.2.length
def sumM (l : List Mt) (k : Nat) : Nat := ((l.take k).map wtM).sum
theorem sumM_succ (l : List Mt) (k : Nat) (hk : k < l.length) : sumM l (k + 1) = sumM l k + wtM l[k] := by
  unfold sumM
  rw [List.take_succ_eq_append_getElem hk, List.map_append, List.sum_append]
  congr 1
theorem sumM_le (l : List Mt) (k : Nat) : sumM l k ≤ sumM l l.length := by
  unfold sumM
  conv => rhs; rw [List.take_length, ← List.take_append_drop k l, List.map_append, List.sum_append]
  omega
/-- not too many of them, not too many bytes. -/
def Fit (m : List Mt) (l : List Lb) : Prop := m.length ≤ 100 ∧ l.length ≤ 100 ∧ sumM m m.length + sumw l l.length ≤ 5000
theorem Fit.atM {m : List Mt} {l : List Lb} (h : Fit m l) {x : Mt} (hx : x ∈ m) : x.1.length + x.2.2.length ≤ 5000 := by
  obtain ⟨k, hk⟩ := List.mem_iff_getElem?.1 hx
  obtain ⟨hk', rfl⟩ := List.getElem?_eq_some_iff.1 hk
  have h1 := sumM_succ m k hk'
  have h2 := sumM_le m (k + 1)
  have h3 := h.2.2
  unfold wtM at h1
  omega
theorem Fit.atL {m : List Mt} {l : List Lb} (h : Fit m l) {x : Lb} (hx : x ∈ l) : x.1.length + x.2.length ≤ 5000 := by
  obtain ⟨k, hk⟩ := List.mem_iff_getElem?.1 hx
  obtain ⟨hk', rfl⟩ := List.getElem?_eq_some_iff.1 hk
  have h1 := sumw_succ l k hk'
  have h2 := sumw_le l (k + 1)
  have h3 := h.2.2
  unfold wt at h1
  omega
theorem joinM_short : ∀ (l : List Mt), (Lib.join (l.map itemM) [44]).length ≤ 2 * (l.map wtM).sum + 5 * l.length
  | [] => by simp [Lib.join]
  | [x] => by
    rw [List.map_singleton, Lib.join_one]
    have := (itemM_len x).2
    simp [wtM]
    omega
  | x :: y :: r => by
    have ih := joinM_short (y :: r)
    have e1 : (x :: y :: r).map itemM = itemM x :: (y :: r).map itemM := rfl
    have e2 : ((x :: y :: r).map wtM).sum = wtM x + ((y :: r).map wtM).sum := by simp
    have e3 : (x :: y :: r).length = (y :: r).length + 1 := rfl
    rw [e1, join2 _ _ (by simp), List.length_append, List.length_cons, e2, e3]
    have := (itemM_len x).2
    have e4 : wtM x = x.1.length + x.2.2.length := rfl
    omega
theorem Fit.print {m : List Mt} {l : List Lb} (h : Fit m l) : (printM m).length ≤ 10502 := by
  have h1 := joinM_short m
  have h2 := h.2.2
  have h3 := h.1
  unfold sumM at h2
  rw [List.take_length] at h2
  unfold printM
  simp
  omega
def GreatPost (m : List Mt) (l : List Lb) (w : World) (e : Ending) (w' : World) : Prop := ∃ r : Bool, e = .returned (.bool r) ∧ (r = false → Fit m l) ∧ ∃ q, w' = w.drewN q
set_option maxRecDepth 100000 in
set_option maxHeartbeats 8000000 in
theorem great_any (v vl : Value) (m : List Mt) (l : List Lb) (w : World) (h : IsMs w v m) (hl : IsLs w vl l) :
    Calls Try.prog 9 #[v, vl] w (GreatPost m l w) := by
  obtain ⟨av, cv, rfl⟩ := h.slice
  obtain ⟨al, cl, rfl⟩ := hl.slice
  obtain ⟨-, hb⟩ := h.bound
  obtain ⟨-, hbl⟩ := hl.bound
  replace h := hid h
  replace hl := hid hl
  by_cases hm : 100 < m.length
  · have d1 : decide (100 < (m.length : Int)) = true := by simp; omega
    have d1' : decide (100 < m.length) = true := by simp; omega
    go_enter Try.func9, Try.ntmps9
    go_wp2
    go_ret
    exact ⟨true, rfl, (fun e => by cases e), 0, rfl⟩
  have d1 : decide (100 < (m.length : Int)) = false := by simp; omega
  have d1' : decide (100 < m.length) = false := by simp; omega
  by_cases hll : 100 < l.length
  · have d2 : decide (100 < (l.length : Int)) = true := by simp; omega
    have d2' : decide (100 < l.length) = true := by simp; omega
    go_enter Try.func9, Try.ntmps9
    go_wp2
    go_ret
    exact ⟨true, rfl, (fun e => by cases e), 0, rfl⟩
  have d2 : decide (100 < (l.length : Int)) = false := by simp; omega
  have d2' : decide (100 < l.length) = false := by simp; omega
  go_enter Try.func9, Try.ntmps9
  go_wp2
  clear d1 d1' d2 d2'
  go_loopw [5, 6] (fun nv iv wr => ∃ (k q : Nat), k ≤ m.length ∧ iv = .int .i64 k ∧ sumM m k ≤ 5000 ∧ nv = .int .i64 (5000 - (sumM m k : Int)) ∧ wr = w.drewN q) (fun _ iv _ => m.length - (intOf iv).toNat)
  case atStart => exact ⟨0, 0, by omega, rfl, by simp [sumM], rfl, rfl⟩
  case round =>
    obtain ⟨k, q, hk, rfl, hs, rfl, rfl⟩ := hrel
    by_cases hlt : k < m.length
    · have hlt' : (k : Int) < (m.length : Int) := by omega
      obtain ⟨b, off, rfl, hc⟩ := h.out.at hlt
      obtain ⟨c0, c1, c2⟩ := hc k _ (List.getElem?_eq_getElem hlt)
      obtain ⟨m0, m1⟩ := h.out.mid (List.getElem?_eq_getElem hlt)
      have hsu := hid (sumM_succ m k hlt)
      have hwt : Hid (wtM m[k] = m[k].1.length + m[k].2.2.length) := rfl
      clear hc
      generalize m[k] = x at *
      obtain ⟨xn, xo, xv⟩ := x
      simp only at c0 c1 c2 m0 m1 hwt
      unfold str at *
      generalize hsm : sumM m k = s at *
      replace hsm := hid hsm
      by_cases t1 : 5000 - (s : Int) < (xn.length : Int)
      · go_wp2
        go_quiet (fail)
        go_wp2
        go_ret
        exact ⟨true, rfl, (fun e => by cases e), _, World.drewN_drewN ..⟩
      · have d1 : decide (5000 - (s : Int) < (xn.length : Int)) = false := by simpa using t1
        have hwr : IntKind.i64.wrap (5000 - (s : Int) - (xn.length : Int)) = 5000 - (s : Int) - (xn.length : Int) := by rw [IntKind.wrap_i64]; omega
        by_cases t2 : 5000 - (s : Int) - (xn.length : Int) < (xv.length : Int)
        · have d2 : decide (5000 - (s : Int) - (xn.length : Int) < (xv.length : Int)) = true := by simpa using t2
          go_wp2
          go_quiet (fail)
          go_wp2
          go_ret
          exact ⟨true, rfl, (fun e => by cases e), _, World.drewN_drewN ..⟩
        · have d2 : decide (5000 - (s : Int) - (xn.length : Int) < (xv.length : Int)) = false := by simpa using t2
          have hwr2 : IntKind.i64.wrap (5000 - (s : Int) - (xn.length : Int) - (xv.length : Int)) = 5000 - (s : Int) - (xn.length : Int) - (xv.length : Int) := by rw [IntKind.wrap_i64]; omega
          go_wp2
          go_quiet (fail)
          go_wp2
          go_quiet (fail)
          go_wp2
          have hv1 : sumM m (k + 1) ≤ 5000 := by rw [hsu.out, hwt.out]; omega
          have hv2 : (5000 : Int) - (s : Int) - (xn.length : Int) - (xv.length : Int) = 5000 - ((sumM m (k + 1) : Nat) : Int) := by rw [hsu.out, hwt.out]; omega
          exact ⟨⟨k + 1, _, by omega, by go_num, hv1, congrArg (Value.int .i64) hv2, rfl⟩, by simp [intOf]; omega⟩
    · have hlt' : ¬ (k : Int) < (m.length : Int) := by omega
      obtain rfl : k = m.length := by omega
      generalize hS : sumM m m.length = S at *
      replace hS := hid hS
      go_wp2
      go_loopw [5, 7] (fun nv iv wr => ∃ (k q : Nat), k ≤ l.length ∧ iv = .int .i64 k ∧ S + sumw l k ≤ 5000 ∧ nv = .int .i64 (5000 - (S : Int) - (sumw l k : Int)) ∧ wr = w.drewN q) (fun _ iv _ => l.length - (intOf iv).toNat)
      case atStart => exact ⟨0, q, by omega, rfl, by simpa [sumw] using hs, by simp [sumw], rfl⟩
      case round =>
        obtain ⟨k, q, hk, rfl, hs, rfl, rfl⟩ := hrel
        by_cases hlt : k < l.length
        · have hlt' : (k : Int) < (l.length : Int) := by omega
          obtain ⟨b, off, rfl, hc⟩ := hl.out.at hlt
          obtain ⟨c0, c1⟩ := hc k _ (List.getElem?_eq_getElem hlt)
          obtain ⟨m0, m1⟩ := hl.out.mid (List.getElem?_eq_getElem hlt)
          have hsu := hid (sumw_succ l k hlt)
          have hwt : Hid (wt l[k] = l[k].1.length + l[k].2.length) := rfl
          clear hc
          generalize l[k] = x at *
          obtain ⟨xn, xv⟩ := x
          simp only at c0 c1 m0 m1 hwt
          unfold str at *
          generalize hsm : sumw l k = s at *
          replace hsm := hid hsm
          by_cases t1 : 5000 - (S : Int) - (s : Int) < (xn.length : Int)
          · go_wp2
            go_quiet (fail)
            go_wp2
            go_ret
            exact ⟨true, rfl, (fun e => by cases e), _, World.drewN_drewN ..⟩
          · have d1 : decide (5000 - (S : Int) - (s : Int) < (xn.length : Int)) = false := by simpa using t1
            have hwr : IntKind.i64.wrap (5000 - (S : Int) - (s : Int) - (xn.length : Int)) = 5000 - (S : Int) - (s : Int) - (xn.length : Int) := by rw [IntKind.wrap_i64]; omega
            by_cases t2 : 5000 - (S : Int) - (s : Int) - (xn.length : Int) < (xv.length : Int)
            · have d2 : decide (5000 - (S : Int) - (s : Int) - (xn.length : Int) < (xv.length : Int)) = true := by simpa using t2
              go_wp2
              go_quiet (fail)
              go_wp2
              go_ret
              exact ⟨true, rfl, (fun e => by cases e), _, World.drewN_drewN ..⟩
            · have d2 : decide (5000 - (S : Int) - (s : Int) - (xn.length : Int) < (xv.length : Int)) = false := by simpa using t2
              have hwr2 : IntKind.i64.wrap (5000 - (S : Int) - (s : Int) - (xn.length : Int) - (xv.length : Int)) = 5000 - (S : Int) - (s : Int) - (xn.length : Int) - (xv.length : Int) := by rw [IntKind.wrap_i64]; omega
              go_wp2
              go_quiet (fail)
              go_wp2
              go_quiet (fail)
              go_wp2
              have hv1 : S + sumw l (k + 1) ≤ 5000 := by rw [hsu.out, hwt.out]; omega
              have hv2 : (5000 : Int) - (S : Int) - (s : Int) - (xn.length : Int) - (xv.length : Int) = 5000 - (S : Int) - ((sumw l (k + 1) : Nat) : Int) := by rw [hsu.out, hwt.out]; omega
              exact ⟨⟨k + 1, _, by omega, by go_num, hv1, congrArg (Value.int .i64) hv2, rfl⟩, by simp [intOf]; omega⟩
        · have hlt' : ¬ (k : Int) < (l.length : Int) := by omega
          obtain rfl : k = l.length := by omega
          have hf : Hid (Fit m l) := ⟨by omega, by omega, by rw [hS.out]; omega⟩
          go_wp2
          go_ret
          exact ⟨false, rfl, fun _ => hf.out, q, rfl⟩
end Go.Proofs.Ythbdghbfhjimkaa
