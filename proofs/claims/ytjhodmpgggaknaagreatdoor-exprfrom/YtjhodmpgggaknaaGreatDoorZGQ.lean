/- Joined: AX EV AW GN. -/
import Derived.Test.YtjhodmpgggaknaaGreatDoorZGP
import Derived.Test.YtjhodmpgggaknaaGreatDoorTie
import Derived.Test.YtjhodmpgggaknaaGreatDoorCards
import Derived.ProofKit
import Derived.OpenShut
import Derived.ShutString
import Derived.ChangeOld
import Derived.ChangeSame
import Derived.Lay
import Derived.SevenTiedAt
import Derived.Stop.LaidErr
import Derived.Lib.LaidTab
import Derived.Carry
import Derived.Test.YtjhodmpgggaknaaGreatDoorZNM
import Derived.Deep.Slices
import Derived.Deep.Matrix
/- The chapter's examples, reckoned. -/
namespace Go.Proofs.YtjhodmpgggaknaaGreatDoor

def exA : Tx := [99, 111, 117, 110, 116, 40, 123, 125, 91, 53, 93, 41, 32, 62, 32, 51]
def exS : Tx := [110, 111, 116, 32, 40, 99, 111, 117, 110, 116, 40, 123, 125, 91, 53, 93, 41, 32, 62, 32, 51, 32, 111, 114, 32, 99, 111, 117, 110, 116, 40, 123, 125, 91, 53, 93, 41, 32, 62, 32, 51, 41, 32, 97, 110, 100, 32, 99, 111, 117, 110, 116, 40, 123, 125, 91, 53, 93, 41, 32, 62, 32, 51]
def exAnd : Tx := [99, 111, 117, 110, 116, 40, 123, 125, 91, 53, 93, 41, 32, 62, 32, 51, 32, 97, 110, 100]
def ex0 : Tx := [99, 111, 117, 110, 116, 40, 123, 125, 91, 48, 93, 41, 32, 62, 32, 49]
def cmA : Cm := ⟨0, [], 5, 2, 3000⟩
def tS : Tree := .bin false (.neg (.bin true (.leaf cmA) (.leaf cmA))) (.leaf cmA)
theorem par_A : parseR exA = (flat 0 (.leaf cmA), 0) := by kernel_rfl
theorem par_S : parseR exS = (flat 0 tS, 0) := by kernel_rfl
theorem par_And : parseR exAnd = ([], 100) := by kernel_rfl
theorem par_0 : parseR ex0 = ([], 100) := by kernel_rfl
theorem txt_S : ptx 0 tS = exS := by kernel_rfl
theorem ok_S : okT tS := by
  have h : okC cmA := ⟨by decide, by decide, by decide +kernel, by decide, by decide, by decide +kernel⟩
  exact ⟨⟨h, h⟩, h⟩
theorem not_2 : rightB ((flat 0 tS).take 2) = false := by kernel_rfl
end Go.Proofs.YtjhodmpgggaknaaGreatDoor
/- From what the rows list of the library's variables, and of expr's own table, to what the contracts ask. -/
namespace Go.Proofs.YtjhodmpgggaknaaGreatDoor
open Go.RowKit

theorem pow10_is : (Rows.laid_internal_strconv_uint64pow10 : DataW Unit) = Lib.tabData .u64 Lib.pow10Tab := by kernel_rfl
theorem pow_of {r : List (String × DataW Unit)} {W : World} (h : laidMet Tryz.prog (("internal/strconv.uint64pow10", Rows.laid_internal_strconv_uint64pow10) :: r) W) : Num.Tab W := by
  rw [pow10_is] at h
  exact Lib.tabIs_of_head (g := 1) (t := 176) (e := 157) (n := 20) (by kernel_rfl) (by kernel_rfl) Tryz.underlying176 Tryz.underlying157 (by kernel_rfl) (by kernel_rfl) h
theorem u8_lit {a b : Int} (h : (DataW.lit (H := Unit) (.int .u8 a)) = .lit (.int .u8 b)) : a = b := by cases h; rfl
/-- the table of operators. -/
theorem ops_of {r : List (String × DataW Unit)} {W : World} (h : laidMet Tryz.prog (("tocsin/expr.operators", Rows.laid_tocsin_expr_operators) :: r) W) : EnvO W := by
  obtain ⟨ps, ⟨g', t', cs, fuel, p, q, hg', ht', hvar, hd, _, _⟩, _⟩ := h
  obtain rfl := Option.some.inj ((show Tryz.prog.globalNamed "tocsin/expr.operators" = some 0 by kernel_rfl).symm.trans hg')
  obtain rfl := Option.some.inj ((show (Tryz.prog.globals[0]?).map (·.type) = some 83 by kernel_rfl).symm.trans ht')
  obtain ⟨xs, m, -, hx, hl, hn, hf⟩ := DataW.trod_array Tryz.underlying83 hd
  have hc1 : Tryz.prog.cellsOf 82 = 2 := by kernel_rfl
  have hc2 : Tryz.prog.cellsOf 83 = 4 := by kernel_rfl
  have hcs : Tryz.prog.cellsOf 9 = 1 := by kernel_rfl
  have hcu : Tryz.prog.cellsOf 5 = 1 := by kernel_rfl
  rw [hc1] at hf
  rw [hc2] at hl
  have hsz : cs.toList.length = 4 := by simpa using hl
  obtain ⟨v0, v1, v2, v3, hcs4⟩ : ∃ v0 v1 v2 v3, cs = #[v0, v1, v2, v3] := by
    obtain ⟨l⟩ := cs
    match l, hsz with
    | [a, b, c, d], _ => exact ⟨a, b, c, d, rfl⟩
  subst hcs4
  match xs, hn with
  | [y0, y1], _ =>
    have e0 := hf 0 (by decide)
    have e1 := hf 1 (by decide)
    simp at e0 e1
    obtain ⟨a0, b0, n0, q0, -, ha0, hb0⟩ := ChangeShapes.trod_struct2 Tryz.underlying82 e0
    obtain ⟨a1, b1, n1, q1, -, ha1, hb1⟩ := ChangeShapes.trod_struct2 Tryz.underlying82 e1
    rw [hcs] at ha0 ha1
    rw [hcu] at hb0 hb1
    obtain ⟨s0, i0, j0, -⟩ := DataW.trod_string Tryz.underlying9 ha0
    obtain ⟨s1, i1, j1, -⟩ := DataW.trod_string Tryz.underlying9 ha1
    obtain ⟨z0, k0, l0, -⟩ := DataW.trod_int Tryz.underlying5 hb0
    obtain ⟨z1, k1, l1, -⟩ := DataW.trod_int Tryz.underlying5 hb1
    simp at i0 i1 k0 k1
    subst i0 i1 k0 k1 j0 j1 l0 l1 q0 q1
    simp [Rows.laid_tocsin_expr_operators] at hx
    obtain ⟨⟨⟨f1, f2⟩, f3, f4⟩, -⟩ := hx
    have w0 := World.var?_cell hg' hvar 0
    have w1 := World.var?_cell hg' hvar 1
    have w2 := World.var?_cell hg' hvar 2
    have w3 := World.var?_cell hg' hvar 3
    have t0 : s0 = ⟨#[111, 114]⟩ := by
      obtain ⟨⟨l⟩⟩ := s0
      simp at f1
      subst f1
      rfl
    have t1 : s1 = ⟨#[97, 110, 100]⟩ := by
      obtain ⟨⟨l⟩⟩ := s1
      simp at f3
      subst f3
      rfl
    subst t0 t1 f2 f4
    exact ⟨w0, w1, w2, w3⟩
theorem iface_cell {H : Type} {enc : TypeId × Value → H} {P : Program} {w : World} {base : Nat} {sp : Nat → Bool} {held : Bool} {fuel : Nat} {t : TypeId} {ms : Array (String × TypeId)} {cs : List Value} {nm : String} {d : DataW H} {p : List MemPlace}
    (ht : P.underlying t = some (.interface ms)) (h : DataW.trod enc P w base sp held fuel t cs = some (.iface nm d, p)) : ∃ u v, cs = [.iface u v] := by
  cases fuel with
  | zero => simp [DataW.trod] at h
  | succ fuel =>
    simp only [DataW.trod, ht] at h
    split at h
    all_goals first | exact ⟨_, _, rfl⟩ | (rename_i heq; cases heq; done) | (exfalso; simp at h; done) | (simp_all; done)
theorem err_of {n nm : String} {d : DataW Unit} {r : List (String × DataW Unit)} {W : World} {g : Nat} {ti : TypeId} {ms : Array (String × TypeId)} (h : laidMet Tryz.prog ((n, .iface nm d) :: r) W)
    (hg : Tryz.prog.globalNamed n = some g) (ht : (Tryz.prog.globals[g]?).map (·.type) = some ti) (hi : Tryz.prog.underlying ti = some (.interface ms)) : ∃ tp p, W.cell? ⟨g, 0, none⟩ = some (.iface tp p) := by
  obtain ⟨ps, ⟨g0, t0, cs0, f0, p0, q0, hg0, ht0, hv0, hd0, _, e0⟩, _, hrows⟩ := h
  obtain rfl := Option.some.inj (hg.symm.trans hg0)
  obtain rfl := Option.some.inj (ht.symm.trans ht0)
  obtain ⟨u, v, e⟩ := iface_cell hi hd0
  refine ⟨u, v, ?_⟩
  have := World.var?_cell hg0 hv0 0
  obtain ⟨l0⟩ := cs0
  simp at e
  subst e
  simpa using this
/-- what every contract asks of memory. -/
structure Env (w : World) : Prop where
  e : EnvE w
  o : EnvO w
  t : Num.Tab w
theorem Env.below {w w' : World} (h : Env w) (hb : Below w.heap.size w w') : Env w' := ⟨h.e.below hb, h.o.below hb, h.t.later hb⟩
theorem env_of {x0 x1 x3 : String × DataW Unit} {r : List (String × DataW Unit)} {W : World}
    (h : laidMet Tryz.prog (x0 :: x1 :: ("internal/strconv.uint64pow10", Rows.laid_internal_strconv_uint64pow10) :: x3 :: ("strconv.ErrRange", Rows.laid_strconv_ErrRange) :: ("strconv.ErrSyntax", Rows.laid_strconv_ErrSyntax) :: ("tocsin/expr.operators", Rows.laid_tocsin_expr_operators) :: r) W) : Env W :=
  ⟨⟨err_of (g := 4) h.tail.tail.tail.tail (by kernel_rfl) (by kernel_rfl) Tryz.underlying137, err_of (g := 3) h.tail.tail.tail.tail.tail (by kernel_rfl) (by kernel_rfl) Tryz.underlying137⟩, ops_of h.tail.tail.tail.tail.tail.tail, pow_of h.tail.tail⟩
end Go.Proofs.YtjhodmpgggaknaaGreatDoor
/- Contract of awake. -/
namespace Go.Proofs.YtjhodmpgggaknaaGreatDoor
open Go.RowKit Go.Shelf Go.Maps

set_option maxRecDepth 100000 in
set_option maxHeartbeats 4000000 in
theorem awake_any (w : World) (hE : Env w) : Calls Tryz.prog 22 #[] w fun e w' => e = .returned (.bool true) ∧ Below w.heap.size w w' := by
  have pA := hid (fun W (hb : Below w.heap.size w W) => Parse_any exA (hE.below hb).e (hE.below hb).o (by decide))
  have pS := hid (fun W (hb : Below w.heap.size w W) => Parse_any exS (hE.below hb).e (hE.below hb).o (by decide))
  have pN := hid (fun W (hb : Below w.heap.size w W) => Parse_any exAnd (hE.below hb).e (hE.below hb).o (by decide))
  have p0 := hid (fun W (hb : Below w.heap.size w W) => Parse_any ex0 (hE.below hb).e (hE.below hb).o (by decide))
  rw [par_A] at pA
  rw [par_S] at pS
  rw [par_And] at pN
  rw [par_0] at p0
  have hS : (⟨#[110, 111, 116, 32, 40]⟩ : ByteArray) ++ ⟨#[99, 111, 117, 110, 116, 40, 123, 125, 91, 53, 93, 41, 32, 62, 32, 51]⟩ ++ ⟨#[32, 111, 114, 32]⟩ ++ ⟨#[99, 111, 117, 110, 116, 40, 123, 125, 91, 53, 93, 41, 32, 62, 32, 51]⟩ ++ ⟨#[41, 32, 97, 110, 100, 32]⟩ ++ ⟨#[99, 111, 117, 110, 116, 40, 123, 125, 91, 53, 93, 41, 32, 62, 32, 51]⟩ = ⟨exS.toArray⟩ := by kernel_rfl
  have hN : (⟨#[99, 111, 117, 110, 116, 40, 123, 125, 91, 53, 93, 41, 32, 62, 32, 51]⟩ : ByteArray) ++ ⟨#[32, 97, 110, 100]⟩ = ⟨exAnd.toArray⟩ := by kernel_rfl
  unfold str at *
  go_enter Tryz.func22, Tryz.ntmps22
  go_wp2_with fail
  refine (pA.out w (Below.refl _ _)).mono ?_
  rintro e w1 ⟨v1, rfl, o1, b1⟩
  obtain ⟨a1, c1, rfl⟩ := o1.slice
  replace b1 := hid b1
  replace o1 := hid o1
  rw [show (flat 0 (.leaf cmA)).length = 1 from rfl]
  go_wp2_with fail
  refine (pS.out w1 b1.out).mono ?_
  rintro e w2 ⟨v2, rfl, o2, b2⟩
  obtain ⟨a2, c2, rfl⟩ := o2.slice
  rw [show (flat 0 tS).length = 6 from rfl]
  have B2 := hid (low2 b1.out b2)
  replace b2 := hid b2
  replace o2 := hid o2
  clear pS
  go_wp2_with fail
  refine (pN.out w2 B2.out).mono ?_
  rintro e w3 ⟨v3, rfl, o3, b3⟩
  obtain ⟨a3, c3, rfl⟩ := o3.slice
  have B3 := hid (low2 B2.out b3)
  replace b3 := hid b3
  clear pN o3
  go_wp2_with fail
  refine (p0.out w3 B3.out).mono ?_
  rintro e w4 ⟨v4, rfl, o4, b4⟩
  obtain ⟨a4, c4, rfl⟩ := o4.slice
  have B4 := hid (low2 B3.out b4)
  have hA4 := hid (o1.out.isN.below (low2 b2.out (low2 b3.out b4)))
  have hS4 := hid (o2.out.isN.below (low2 b3.out b4))
  clear p0 o4 b4 b3 b2 b1 o1 o2 B2 B3
  obtain ⟨p1, q1, rfl, hc1⟩ := hA4.out.at (k := 0) (by decide)
  obtain ⟨p2, q2, rfl, hc2⟩ := hS4.out.at (k := 0) (by decide)
  obtain ⟨s0, ⟨-, -, -, x3, x4, x5, -, -⟩, -⟩ := hc1 0 (cmpNd cmA) rfl
  obtain ⟨s2, ⟨y0, -, -, -, -, -, -, y7⟩, -⟩ := hc2 2 (binNd true 0 1) rfl
  obtain ⟨s3, ⟨z0, -, -, -, -, -, z6, -⟩, -⟩ := hc2 3 (negNd 2) rfl
  obtain ⟨s5, ⟨u0, -, -, -, -, -, u6, u7⟩, -⟩ := hc2 5 (binNd false 3 4) rfl
  simp [cmpNd, cmA, binNd, negNd, opK] at x3 x4 x5 y0 y7 z0 z6 u0 u6 u7
  clear hc1 hc2
  have cP := hid (Print_yes hS4.out (hE.below B4.out).o (hE.below B4.out).t ok_S (by decide))
  rw [txt_S] at cP
  have cR := hid (fun W (hb : Below w4.heap.size w4 W) => Right_any (hS4.out.below hb))
  rw [right_flat ok_S (by decide)] at cR
  have cQ : Hid (∀ W, Below w4.heap.size w4 W → Calls Tryz.prog 16 #[.slice (some ⟨p2, q2, none⟩) 2 c2] W fun e w' => e = .returned (.bool false) ∧ Below W.heap.size W w') := fun W hb => by
    have hle := (hS4.out.bound).2
    have h6 : (flat 0 tS).length = 6 := rfl
    have := (hS4.out.below hb).part 0 2 (by decide) (by decide) 2 c2 rfl (by omega) (by unfold maxLen; omega)
    have := Right_any this
    rw [Nat.zero_mul, Nat.add_zero, List.drop_zero, not_2] at this
    exact this
  have hle6 := (hS4.out.bound).2.1
  have hq2 : decide (c2 < 2) = false := decide_eq_false (by have : (flat 0 tS).length = 6 := rfl; omega)
  have hq3 : (2 : Nat) ≤ c2 := by have : (flat 0 tS).length = 6 := rfl; omega
  unfold str at cP
  clear hle6
  go_wp2_with fail
  refine cP.out.mono ?_
  rintro e w5 ⟨rfl, b5⟩
  have B5 := hid b5
  clear b5 cP x3 x4 x5 y0 y7 z0 z6 u0 u6 u7
  go_wp2_with fail
  refine (cR.out w5 B5.out).mono ?_
  rintro e w6 ⟨rfl, b6⟩
  have B6 := hid (low2 B5.out b6)
  clear b6 cR B5
  go_wp2_with fail
  refine (cQ.out w6 B6.out).mono ?_
  rintro e w7 ⟨rfl, b7⟩
  have B7 := hid (low2 B4.out (low2 B6.out b7))
  clear b7 cQ B6
  go_wp2
  go_ret
  exact ⟨rfl, B7.out⟩
end Go.Proofs.YtjhodmpgggaknaaGreatDoor
/- What the frame tells of nodes that came in. -/
namespace Go.Proofs.YtjhodmpgggaknaaGreatDoor
open Go.ChangeShapes Go.WideShapes Go.ChangeAt Go.RowKit

theorem cellsMb : Tryz.prog.cellsOf 33 = 3 := by kernel_rfl
theorem cellsNd : Tryz.prog.cellsOf 31 = 8 := by kernel_rfl
theorem k_u8 : Tryz.prog.cellsOf 5 = 1 := by kernel_rfl
theorem k_str : Tryz.prog.cellsOf 9 = 1 := by kernel_rfl
theorem k_int : Tryz.prog.cellsOf 3 = 1 := by kernel_rfl
theorem k_i64 : Tryz.prog.cellsOf 2 = 1 := by kernel_rfl
theorem k_sel : Tryz.prog.cellsOf 29 = 1 := by kernel_rfl
theorem str_of (s : ByteArray) : Value.string s = str s.data.toList := by
  unfold str
  cases s; simp
theorem u8_of {z : Int} (h : (Lit.int .u8 z).wf = true) : Value.int .u8 ((UInt8.ofNat z.toNat).toNat : Int) = .int .u8 z := by
  simp [Lit.wf, IntKind.min, IntKind.max, IntKind.bits, IntKind.signed] at h
  congr 1
  rw [UInt8.toNat_ofNat']
  omega
section
variable {H : Type} {enc : TypeId × Value → H} {w : World} {base : Nat} {held : Bool}
set_option maxRecDepth 100000 in
theorem cells_mat {fuel : Nat} {cs : List Value} {x : DataW H × List MemPlace} (h : DataW.trod enc Tryz.prog w base (fun _ => true) held fuel 33 cs = some x) : ∃ y : Mat.Mt, cs = [str y.1, Mat.opv y.2.1, str y.2.2] ∧ y.1.length ≤ maxLen ∧ y.2.2.length ≤ maxLen := by
  obtain ⟨xs, n, _, _, hcl, hxl, hf⟩ := DataW.trod_struct Tryz.underlying33 h
  rw [cellsMb] at hcl
  match cs, hcl with
  | [c0, c1, c2], _ =>
  have hx : ∀ i, i < 3 → ∃ y, xs[i]? = some y := fun i hi => ⟨_, List.getElem?_eq_getElem (by rw [hxl]; exact hi)⟩
  obtain ⟨y0, e0⟩ := hx 0 (by decide)
  obtain ⟨y1, e1⟩ := hx 1 (by decide)
  obtain ⟨y2, e2⟩ := hx 2 (by decide)
  have f0 : DataW.trod enc Tryz.prog w base (fun _ => true) held n 9 [c0] = some y0 := by
    have h0 := hf 0 _ rfl
    rw [e0] at h0
    simpa [k_str] using h0
  have f1 : DataW.trod enc Tryz.prog w base (fun _ => true) held n 5 [c1] = some y1 := by
    have h0 := hf 1 _ rfl
    rw [e1] at h0
    simpa [k_u8] using h0
  have f2 : DataW.trod enc Tryz.prog w base (fun _ => true) held n 9 [c2] = some y2 := by
    have h0 := hf 2 _ rfl
    rw [e2] at h0
    simpa [k_str] using h0
  obtain ⟨s0, q0, _, l0⟩ := DataW.trod_string Tryz.underlying9 f0
  obtain ⟨z1, q1, _, l1⟩ := DataW.trod_int Tryz.underlying5 f1
  obtain ⟨s2, q2, _, l2⟩ := DataW.trod_string Tryz.underlying9 f2
  simp only [List.cons.injEq, and_true] at q0 q1 q2
  subst q0 q1 q2
  simp [Lit.wf, IntKind.min, IntKind.max, IntKind.bits, IntKind.signed] at l1
  refine ⟨(s0.data.toList, UInt8.ofNat z1.toNat, s2.data.toList), ?_, by show s0.data.toList.length ≤ _; rw [Array.length_toList]; exact l0, by show s2.data.toList.length ≤ _; rw [Array.length_toList]; exact l2⟩
  have e : Mat.opv (UInt8.ofNat z1.toNat) = .int .u8 z1 := by
    unfold Mat.opv
    congr 1
    rw [UInt8.toNat_ofNat']
    omega
  rw [str_of s0, str_of s2]
  simp only [e]
set_option maxRecDepth 100000 in
theorem mats_in {fuel : Nat} {v : Value} {xx : DataW H × List MemPlace} (h : DataW.trod enc Tryz.prog w base (fun _ => true) held fuel 29 [v] = some xx) : ∃ l, Mat.IsMs w v l := by
  rcases Go.Deep.open_slice Tryz.underlying29 h with ⟨hcs, _⟩ | ⟨x, len, cap, m, n, D, Pl, hcs, _, hl, hm, hmm, _, hx⟩
  · simp at hcs
    subst hcs
    exact ⟨[], by simp, by intro z hz; simp at hz, none, 0, rfl, by simp, by simp, .inl rfl⟩
  · simp at hcs
    subst hcs
    have hm' : m = cap := by simpa using hmm
    rw [cellsMb] at hx
    have hall : ∀ i, i < len → ∃ y : Mat.Mt, w.cells? base (x.add (i * 3)) 3 = some [str y.1, Mat.opv y.2.1, str y.2.2] ∧ y.1.length ≤ maxLen ∧ y.2.2.length ≤ maxLen := fun i hi => by
      obtain ⟨cs', h1, h2⟩ := hx i (by omega)
      obtain ⟨y, hy, hy2⟩ := cells_mat h2
      exact ⟨y, by rw [← hy]; exact h1, hy2⟩
    have hch : ∃ Y : Nat → Mat.Mt, ∀ i, i < len → w.cells? base (x.add (i * 3)) 3 = some [str (Y i).1, Mat.opv (Y i).2.1, str (Y i).2.2] ∧ (Y i).1.length ≤ maxLen ∧ (Y i).2.2.length ≤ maxLen := by
      refine ⟨fun i => if hi : i < len then Classical.choose (hall i hi) else ([], 0, []), fun i hi => ?_⟩
      simp only [hi, dif_pos]
      exact Classical.choose_spec (hall i hi)
    obtain ⟨Y, hY⟩ := hch
    have hlen : ((List.range len).map Y).length = len := by simp
    have hat : ∀ i y, ((List.range len).map Y)[i]? = some y → i < len ∧ y = Y i := fun i y hy => by
      rw [List.getElem?_map] at hy
      cases hr : (List.range len)[i]? with
      | none => rw [hr] at hy; cases hy
      | some k =>
        rw [hr] at hy
        have hk := List.getElem?_eq_some_iff.1 hr
        obtain ⟨hk1, hk2⟩ := hk
        simp at hk1 hk2
        subst hk2
        exact ⟨hk1, (Option.some.inj hy).symm⟩
    refine ⟨(List.range len).map Y, by omega, fun y hy => ?_, some x, cap, by rw [hlen], by omega, by omega, ?_⟩
    · obtain ⟨i, hi⟩ := List.mem_iff_getElem?.1 hy
      obtain ⟨h1, rfl⟩ := hat i y hi
      exact (hY i h1).2
    by_cases h0 : len = 0
    · left; simp [h0]
    · right
      obtain ⟨b, off, spot⟩ := x
      have hsp : spot = none := by
        obtain ⟨h1, _⟩ := hY 0 (by omega)
        have h2 := (World.cells?_some h1).2.2 0 (by decide)
        obtain ⟨u, hu⟩ : ∃ u, w.cell? ((Addr.add ⟨b, off, spot⟩ (0 * 3)).add 0) = some u := by
          rw [h2]
          exact ⟨_, rfl⟩
        simpa [Addr.add] using World.cell?_spot hu
      subst hsp
      refine ⟨b, off, rfl, fun i y hy => ?_⟩
      obtain ⟨hi, rfl⟩ := hat i y hy
      obtain ⟨h1, _⟩ := hY i hi
      have h2 := (World.cells?_some h1).2.2 0 (by decide)
      have h3 := (World.cells?_some h1).2.2 1 (by decide)
      have h4 := (World.cells?_some h1).2.2 2 (by decide)
      rw [Addr.add_lit, Addr.add_lit] at h2 h3 h4
      exact ⟨h2, h3, h4⟩
set_option maxRecDepth 100000 in
theorem cells_node {fuel : Nat} {cs : List Value} {x : DataW H × List MemPlace} (h : DataW.trod enc Tryz.prog w base (fun _ => true) held fuel 31 cs = some x) : ∃ y : Nd × Value, cs = ndv y ∧ Mat.IsMs w y.2 y.1.sel := by
  obtain ⟨xs, n, _, _, hcl, hxl, hf⟩ := DataW.trod_struct Tryz.underlying31 h
  rw [cellsNd] at hcl
  match cs, hcl with
  | [c0, c1, c2, c3, c4, c5, c6, c7], _ =>
  have hx : ∀ i, i < 8 → ∃ y, xs[i]? = some y := fun i hi => ⟨_, List.getElem?_eq_getElem (by rw [hxl]; exact hi)⟩
  obtain ⟨y0, e0⟩ := hx 0 (by decide)
  obtain ⟨y1, e1⟩ := hx 1 (by decide)
  obtain ⟨y2, e2⟩ := hx 2 (by decide)
  obtain ⟨y3, e3⟩ := hx 3 (by decide)
  obtain ⟨y4, e4⟩ := hx 4 (by decide)
  obtain ⟨y5, e5⟩ := hx 5 (by decide)
  obtain ⟨y6, e6⟩ := hx 6 (by decide)
  obtain ⟨y7, e7⟩ := hx 7 (by decide)
  have f0 : DataW.trod enc Tryz.prog w base (fun _ => true) held n 5 [c0] = some y0 := by
    have h0 := hf 0 _ rfl
    rw [e0] at h0
    simpa [k_u8] using h0
  have f1 : DataW.trod enc Tryz.prog w base (fun _ => true) held n 5 [c1] = some y1 := by
    have h0 := hf 1 _ rfl
    rw [e1] at h0
    simpa [k_u8] using h0
  have f2 : DataW.trod enc Tryz.prog w base (fun _ => true) held n 29 [c2] = some y2 := by
    have h0 := hf 2 _ rfl
    rw [e2] at h0
    simpa [k_sel] using h0
  have f3 : DataW.trod enc Tryz.prog w base (fun _ => true) held n 3 [c3] = some y3 := by
    have h0 := hf 3 _ rfl
    rw [e3] at h0
    simpa [k_int] using h0
  have f4 : DataW.trod enc Tryz.prog w base (fun _ => true) held n 5 [c4] = some y4 := by
    have h0 := hf 4 _ rfl
    rw [e4] at h0
    simpa [k_u8] using h0
  have f5 : DataW.trod enc Tryz.prog w base (fun _ => true) held n 2 [c5] = some y5 := by
    have h0 := hf 5 _ rfl
    rw [e5] at h0
    simpa [k_i64] using h0
  have f6 : DataW.trod enc Tryz.prog w base (fun _ => true) held n 3 [c6] = some y6 := by
    have h0 := hf 6 _ rfl
    rw [e6] at h0
    simpa [k_int] using h0
  have f7 : DataW.trod enc Tryz.prog w base (fun _ => true) held n 3 [c7] = some y7 := by
    have h0 := hf 7 _ rfl
    rw [e7] at h0
    simpa [k_int] using h0
  obtain ⟨z0, q0, _, l0⟩ := DataW.trod_int Tryz.underlying5 f0
  obtain ⟨z1, q1, _, l1⟩ := DataW.trod_int Tryz.underlying5 f1
  obtain ⟨sel, hsel⟩ := mats_in f2
  obtain ⟨z3, q3, _, l3⟩ := DataW.trod_int Tryz.underlying3 f3
  obtain ⟨z4, q4, _, l4⟩ := DataW.trod_int Tryz.underlying5 f4
  obtain ⟨z5, q5, _, l5⟩ := DataW.trod_int Tryz.underlying2 f5
  obtain ⟨z6, q6, _, l6⟩ := DataW.trod_int Tryz.underlying3 f6
  obtain ⟨z7, q7, _, l7⟩ := DataW.trod_int Tryz.underlying3 f7
  simp only [List.cons.injEq, and_true] at q0 q1 q3 q4 q5 q6 q7
  subst q0 q1 q3 q4 q5 q6 q7
  refine ⟨(⟨UInt8.ofNat z0.toNat, UInt8.ofNat z1.toNat, sel, z3, UInt8.ofNat z4.toNat, z5, z6, z7⟩, c2), ?_, hsel⟩
  unfold ndv uv iv
  simp only [u8_of l0, u8_of l1, u8_of l4]
set_option maxRecDepth 100000 in
theorem open_nodes {r : Reach} {base0 : Nat} {v : Value} {d : DataW H} {p : List MemPlace} (hv : Value.okWide Tryz.prog w r base0 22 v) (h : DataW.Trod enc Tryz.prog w base (fun _ => true) held 22 v d p) : ∃ l, IsN w v l := by
  obtain ⟨a, len, cap, rfl⟩ := okWide_slice Tryz.underlying22 hv
  obtain ⟨fuel, hf⟩ := h
  rcases Go.Deep.open_slice Tryz.underlying22 hf with ⟨hcs, _⟩ | ⟨x, l, c, m, n, D, Pl, hcs, _, hl, hm, hmm, _, hx⟩
  · simp [Value.cells] at hcs
    obtain ⟨rfl, rfl, rfl⟩ := hcs
    exact ⟨[], [], rfl, ⟨by simp, none, 0, rfl, by simp, by simp, .inl rfl⟩, fun p hp => by cases hp⟩
  · simp [Value.cells] at hcs
    obtain ⟨rfl, rfl, rfl⟩ := hcs
    have hm' : m = cap := by simpa using hmm
    rw [cellsNd] at hx
    have hall : ∀ i, i < len → ∃ y : Nd × Value, w.cells? base (x.add (i * 8)) 8 = some (ndv y) ∧ Mat.IsMs w y.2 y.1.sel := fun i hi => by
      obtain ⟨cs', h1, h2⟩ := hx i (by omega)
      obtain ⟨y, hy, hy2⟩ := cells_node h2
      exact ⟨y, by rw [← hy]; exact h1, hy2⟩
    have hch : ∃ Y : Nat → Nd × Value, ∀ i, i < len → w.cells? base (x.add (i * 8)) 8 = some (ndv (Y i)) ∧ Mat.IsMs w (Y i).2 (Y i).1.sel := by
      refine ⟨fun i => if hi : i < len then Classical.choose (hall i hi) else (⟨0, 0, [], 0, 0, 0, 0, 0⟩, .slice none 0 0), fun i hi => ?_⟩
      simp only [hi, dif_pos]
      exact Classical.choose_spec (hall i hi)
    obtain ⟨Y, hY⟩ := hch
    have hlen : ((List.range len).map Y).length = len := by simp
    have hat : ∀ i y, ((List.range len).map Y)[i]? = some y → i < len ∧ y = Y i := fun i y hy => by
      rw [List.getElem?_map] at hy
      cases hr : (List.range len)[i]? with
      | none => rw [hr] at hy; cases hy
      | some k =>
        rw [hr] at hy
        have hk := List.getElem?_eq_some_iff.1 hr
        obtain ⟨hk1, hk2⟩ := hk
        simp at hk1 hk2
        subst hk2
        exact ⟨hk1, (Option.some.inj hy).symm⟩
    refine ⟨_, (List.range len).map Y, rfl, ⟨by omega, some x, cap, by rw [hlen], by omega, by omega, ?_⟩, fun y hy => ?_⟩
    · by_cases h0 : len = 0
      · left; simp [h0]
      · right
        obtain ⟨b, off, spot⟩ := x
        have hsp : spot = none := by
          obtain ⟨h1, _⟩ := hY 0 (by omega)
          have h2 := (World.cells?_some h1).2.2 0 (by decide)
          obtain ⟨u, hu⟩ : ∃ u, w.cell? ((Addr.add ⟨b, off, spot⟩ (0 * 8)).add 0) = some u := by
            rw [h2]
            exact ⟨_, rfl⟩
          simpa [Addr.add] using World.cell?_spot hu
        subst hsp
        refine ⟨b, off, rfl, fun i y hy q u hu => ?_⟩
        obtain ⟨hi, rfl⟩ := hat i y hy
        obtain ⟨h1, _⟩ := hY i hi
        have hq : q < 8 := by have := (List.getElem?_eq_some_iff.1 hu).1; rw [ndv_len] at this; exact this
        have h2 := (World.cells?_some h1).2.2 q hq
        rw [Addr.add_lit, Addr.add_lit, hu] at h2
        exact h2
    · obtain ⟨i, hi⟩ := List.mem_iff_getElem?.1 hy
      obtain ⟨h1, rfl⟩ := hat i y hi
      exact (hY i h1).2
end
end Go.Proofs.YtjhodmpgggaknaaGreatDoor
