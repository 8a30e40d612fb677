/- Joined: GN EV. -/
import Derived.Test.YtjhodmpgggaknaaGreatDoorZNM
import Derived.ProofKit
import Derived.OpenShut
import Derived.ShutString
import Derived.ChangeOld
import Derived.Deep.Slices
import Derived.Deep.Matrix
import Derived.Test.YtjhodmpgggaknaaGreatDoorZGP
import Derived.Test.YtjhodmpgggaknaaGreatDoorTie
import Derived.Test.YtjhodmpgggaknaaGreatDoorCards
import Derived.ChangeSame
import Derived.Lay
import Derived.SevenTiedAt
import Derived.Stop.LaidErr
import Derived.Lib.LaidTab
import Derived.Carry
/- What the frame tells of nodes that came in. -/
namespace Go.Proofs.YtjhodmpgggaknaaGreatDoor
open Go.ChangeShapes Go.WideShapes Go.ChangeAt Go.RowKit

theorem cellsMb : Tryz.prog.cellsOf 33 = 3 := by kernel_rfl
theorem cellsNd : Tryz.prog.cellsOf 31 = 8 := by kernel_rfl
theorem k_u8 : Tryz.prog.cellsOf 5 = 1 := by kernel_rfl
theorem k_str : Tryz.prog.cellsOf 9 = 1 := by kernel_rfl
theorem k_int : Tryz.prog.cellsOf 3 = 1 := by kernel_rfl
theorem k_i64 : Tryz.prog.cellsOf 2 = 1 := by kernel_rfl
theorem k_sel : Tryz.prog.cellsOf 29 = 1 := by kernel_rfl
theorem str_of (s : ByteArray) : Value.string s = str s.data.toList := by
  unfold str
  cases s; simp
theorem u8_of {z : Int} (h : (Lit.int .u8 z).wf = true) : Value.int .u8 ((UInt8.ofNat z.toNat).toNat : Int) = .int .u8 z := by
  simp [Lit.wf, IntKind.min, IntKind.max, IntKind.bits, IntKind.signed] at h
  congr 1
  rw [UInt8.toNat_ofNat']
  omega
section
variable {H : Type} {enc : TypeId × Value → H} {w : World} {base : Nat} {held : Bool}
set_option maxRecDepth 100000 in
theorem cells_mat {fuel : Nat} {cs : List Value} {x : DataW H × List MemPlace} (h : DataW.trod enc Tryz.prog w base (fun _ => true) held fuel 33 cs = some x) : ∃ y : Mat.Mt, cs = [str y.1, Mat.opv y.2.1, str y.2.2] ∧ y.1.length ≤ maxLen ∧ y.2.2.length ≤ maxLen := by
  obtain ⟨xs, n, _, _, hcl, hxl, hf⟩ := DataW.trod_struct Tryz.underlying33 h
  rw [cellsMb] at hcl
  match cs, hcl with
  | [c0, c1, c2], _ =>
  have hx : ∀ i, i < 3 → ∃ y, xs[i]? = some y := fun i hi => ⟨_, List.getElem?_eq_getElem (by rw [hxl]; exact hi)⟩
  obtain ⟨y0, e0⟩ := hx 0 (by decide)
  obtain ⟨y1, e1⟩ := hx 1 (by decide)
  obtain ⟨y2, e2⟩ := hx 2 (by decide)
  have f0 : DataW.trod enc Tryz.prog w base (fun _ => true) held n 9 [c0] = some y0 := by
    have h0 := hf 0 _ rfl
    rw [e0] at h0
    simpa [k_str] using h0
  have f1 : DataW.trod enc Tryz.prog w base (fun _ => true) held n 5 [c1] = some y1 := by
    have h0 := hf 1 _ rfl
    rw [e1] at h0
    simpa [k_u8] using h0
  have f2 : DataW.trod enc Tryz.prog w base (fun _ => true) held n 9 [c2] = some y2 := by
    have h0 := hf 2 _ rfl
    rw [e2] at h0
    simpa [k_str] using h0
  obtain ⟨s0, q0, _, l0⟩ := DataW.trod_string Tryz.underlying9 f0
  obtain ⟨z1, q1, _, l1⟩ := DataW.trod_int Tryz.underlying5 f1
  obtain ⟨s2, q2, _, l2⟩ := DataW.trod_string Tryz.underlying9 f2
  simp only [List.cons.injEq, and_true] at q0 q1 q2
  subst q0 q1 q2
  simp [Lit.wf, IntKind.min, IntKind.max, IntKind.bits, IntKind.signed] at l1
  refine ⟨(s0.data.toList, UInt8.ofNat z1.toNat, s2.data.toList), ?_, by show s0.data.toList.length ≤ _; rw [Array.length_toList]; exact l0, by show s2.data.toList.length ≤ _; rw [Array.length_toList]; exact l2⟩
  have e : Mat.opv (UInt8.ofNat z1.toNat) = .int .u8 z1 := by
    unfold Mat.opv
    congr 1
    rw [UInt8.toNat_ofNat']
    omega
  rw [str_of s0, str_of s2]
  simp only [e]
set_option maxRecDepth 100000 in
theorem mats_in {fuel : Nat} {v : Value} {xx : DataW H × List MemPlace} (h : DataW.trod enc Tryz.prog w base (fun _ => true) held fuel 29 [v] = some xx) : ∃ l, Mat.IsMs w v l := by
  rcases Go.Deep.open_slice Tryz.underlying29 h with ⟨hcs, _⟩ | ⟨x, len, cap, m, n, D, Pl, hcs, _, hl, hm, hmm, _, hx⟩
  · simp at hcs
    subst hcs
    exact ⟨[], by simp, by intro z hz; simp at hz, none, 0, rfl, by simp, by simp, .inl rfl⟩
  · simp at hcs
    subst hcs
    have hm' : m = cap := by simpa using hmm
    rw [cellsMb] at hx
    have hall : ∀ i, i < len → ∃ y : Mat.Mt, w.cells? base (x.add (i * 3)) 3 = some [str y.1, Mat.opv y.2.1, str y.2.2] ∧ y.1.length ≤ maxLen ∧ y.2.2.length ≤ maxLen := fun i hi => by
      obtain ⟨cs', h1, h2⟩ := hx i (by omega)
      obtain ⟨y, hy, hy2⟩ := cells_mat h2
      exact ⟨y, by rw [← hy]; exact h1, hy2⟩
    have hch : ∃ Y : Nat → Mat.Mt, ∀ i, i < len → w.cells? base (x.add (i * 3)) 3 = some [str (Y i).1, Mat.opv (Y i).2.1, str (Y i).2.2] ∧ (Y i).1.length ≤ maxLen ∧ (Y i).2.2.length ≤ maxLen := by
      refine ⟨fun i => if hi : i < len then Classical.choose (hall i hi) else ([], 0, []), fun i hi => ?_⟩
      simp only [hi, dif_pos]
      exact Classical.choose_spec (hall i hi)
    obtain ⟨Y, hY⟩ := hch
    have hlen : ((List.range len).map Y).length = len := by simp
    have hat : ∀ i y, ((List.range len).map Y)[i]? = some y → i < len ∧ y = Y i := fun i y hy => by
      rw [List.getElem?_map] at hy
      cases hr : (List.range len)[i]? with
      | none => rw [hr] at hy; cases hy
      | some k =>
        rw [hr] at hy
        have hk := List.getElem?_eq_some_iff.1 hr
        obtain ⟨hk1, hk2⟩ := hk
        simp at hk1 hk2
        subst hk2
        exact ⟨hk1, (Option.some.inj hy).symm⟩
    refine ⟨(List.range len).map Y, by omega, fun y hy => ?_, some x, cap, by rw [hlen], by omega, by omega, ?_⟩
    · obtain ⟨i, hi⟩ := List.mem_iff_getElem?.1 hy
      obtain ⟨h1, rfl⟩ := hat i y hi
      exact (hY i h1).2
    by_cases h0 : len = 0
    · left; simp [h0]
    · right
      obtain ⟨b, off, spot⟩ := x
      have hsp : spot = none := by
        obtain ⟨h1, _⟩ := hY 0 (by omega)
        have h2 := (World.cells?_some h1).2.2 0 (by decide)
        obtain ⟨u, hu⟩ : ∃ u, w.cell? ((Addr.add ⟨b, off, spot⟩ (0 * 3)).add 0) = some u := by
          rw [h2]
          exact ⟨_, rfl⟩
        simpa [Addr.add] using World.cell?_spot hu
      subst hsp
      refine ⟨b, off, rfl, fun i y hy => ?_⟩
      obtain ⟨hi, rfl⟩ := hat i y hy
      obtain ⟨h1, _⟩ := hY i hi
      have h2 := (World.cells?_some h1).2.2 0 (by decide)
      have h3 := (World.cells?_some h1).2.2 1 (by decide)
      have h4 := (World.cells?_some h1).2.2 2 (by decide)
      rw [Addr.add_lit, Addr.add_lit] at h2 h3 h4
      exact ⟨h2, h3, h4⟩
end
end Go.Proofs.YtjhodmpgggaknaaGreatDoor
/- From what the rows list of the library's variables, and of expr's own table, to what the contracts ask. -/
namespace Go.Proofs.YtjhodmpgggaknaaGreatDoor
open Go.RowKit

theorem pow10_is : (Rows.laid_internal_strconv_uint64pow10 : DataW Unit) = Lib.tabData .u64 Lib.pow10Tab := by kernel_rfl
theorem pow_of {r : List (String × DataW Unit)} {W : World} (h : laidMet Tryz.prog (("internal/strconv.uint64pow10", Rows.laid_internal_strconv_uint64pow10) :: r) W) : Num.Tab W := by
  rw [pow10_is] at h
  exact Lib.tabIs_of_head (g := 1) (t := 176) (e := 157) (n := 20) (by kernel_rfl) (by kernel_rfl) Tryz.underlying176 Tryz.underlying157 (by kernel_rfl) (by kernel_rfl) h
/-- the table of operators. -/
theorem ops_of {r : List (String × DataW Unit)} {W : World} (h : laidMet Tryz.prog (("tocsin/expr.operators", Rows.laid_tocsin_expr_operators) :: r) W) : EnvO W := by
  obtain ⟨ps, ⟨g', t', cs, fuel, p, q, hg', ht', hvar, hd, _, _⟩, _⟩ := h
  obtain rfl := Option.some.inj ((show Tryz.prog.globalNamed "tocsin/expr.operators" = some 0 by kernel_rfl).symm.trans hg')
  obtain rfl := Option.some.inj ((show (Tryz.prog.globals[0]?).map (·.type) = some 83 by kernel_rfl).symm.trans ht')
  obtain ⟨xs, m, -, hx, hl, hn, hf⟩ := DataW.trod_array Tryz.underlying83 hd
  have hc1 : Tryz.prog.cellsOf 82 = 2 := by kernel_rfl
  have hc2 : Tryz.prog.cellsOf 83 = 4 := by kernel_rfl
  have hcs : Tryz.prog.cellsOf 9 = 1 := by kernel_rfl
  have hcu : Tryz.prog.cellsOf 5 = 1 := by kernel_rfl
  rw [hc1] at hf
  rw [hc2] at hl
  have hsz : cs.toList.length = 4 := by simpa using hl
  obtain ⟨v0, v1, v2, v3, hcs4⟩ : ∃ v0 v1 v2 v3, cs = #[v0, v1, v2, v3] := by
    obtain ⟨l⟩ := cs
    match l, hsz with
    | [a, b, c, d], _ => exact ⟨a, b, c, d, rfl⟩
  subst hcs4
  match xs, hn with
  | [y0, y1], _ =>
    have e0 := hf 0 (by decide)
    have e1 := hf 1 (by decide)
    simp at e0 e1
    obtain ⟨a0, b0, n0, q0, -, ha0, hb0⟩ := ChangeShapes.trod_struct2 Tryz.underlying82 e0
    obtain ⟨a1, b1, n1, q1, -, ha1, hb1⟩ := ChangeShapes.trod_struct2 Tryz.underlying82 e1
    rw [hcs] at ha0 ha1
    rw [hcu] at hb0 hb1
    obtain ⟨s0, i0, j0, -⟩ := DataW.trod_string Tryz.underlying9 ha0
    obtain ⟨s1, i1, j1, -⟩ := DataW.trod_string Tryz.underlying9 ha1
    obtain ⟨z0, k0, l0, -⟩ := DataW.trod_int Tryz.underlying5 hb0
    obtain ⟨z1, k1, l1, -⟩ := DataW.trod_int Tryz.underlying5 hb1
    simp at i0 i1 k0 k1
    subst i0 i1 k0 k1 j0 j1 l0 l1 q0 q1
    simp [Rows.laid_tocsin_expr_operators] at hx
    obtain ⟨⟨⟨f1, f2⟩, f3, f4⟩, -⟩ := hx
    have w0 := World.var?_cell hg' hvar 0
    have w1 := World.var?_cell hg' hvar 1
    have w2 := World.var?_cell hg' hvar 2
    have w3 := World.var?_cell hg' hvar 3
    have t0 : s0 = ⟨#[111, 114]⟩ := by
      obtain ⟨⟨l⟩⟩ := s0
      simp at f1
      subst f1
      rfl
    have t1 : s1 = ⟨#[97, 110, 100]⟩ := by
      obtain ⟨⟨l⟩⟩ := s1
      simp at f3
      subst f3
      rfl
    subst t0 t1 f2 f4
    exact ⟨w0, w1, w2, w3⟩
/-- what every contract asks of memory. -/
structure Env (w : World) : Prop where
  e : EnvE w
  o : EnvO w
  t : Num.Tab w
theorem Env.below {w w' : World} (h : Env w) (hb : Below w.heap.size w w') : Env w' := ⟨h.e.below hb, h.o.below hb, h.t.later hb⟩
end Go.Proofs.YtjhodmpgggaknaaGreatDoor
