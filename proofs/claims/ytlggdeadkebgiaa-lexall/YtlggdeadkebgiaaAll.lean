/- For any text the law LexAll of the program returns true: a text has just the tokens that the chapter says, or is refused, and where; what is told is the caller's own. No condition. -/
import Derived.Test.YtlggdeadkebgiaaG9
import Derived.Test.YtlggdeadkebgiaaD5
namespace Go.Proofs.Ytlggdeadkebgiaa.lexAll
open Go.ChangeShapes Go.WideShapes Go.ChangeAt Go.RowKit
open Go.ChangeMaps (open_string shut_string)
set_option linter.unusedVariables false

set_option maxHeartbeats 1000000 in
theorem one_any (k p q : Nat) (x : Tx) (w : World) : Calls Try.prog 11 #[.agg #[.int .u8 (k : Int), .string ⟨x.toArray⟩, .int .i64 (p : Int)], .agg #[.int .u8 (k : Int), .string ⟨x.toArray⟩, .int .i64 (p : Int), .int .i64 (q : Int)]] w fun e w' => e = .returned (.bool true) ∧ Below w.heap.size w w' := by
  have hbl : Hid (Below w.heap.size w ((w.alloc (.cells #[.int .u8 (k : Int), .string ⟨x.toArray⟩, .int .i64 (p : Int)] 31)).alloc (.cells #[.int .u8 (k : Int), .string ⟨x.toArray⟩, .int .i64 (p : Int), .int .i64 (q : Int)] 33))) := ((Below.refl _ w).alloc (Nat.le_refl _) _).alloc (by simp) _
  go_enter Try.func11, Try.ntmps11
  go_wp2
  go_ret
  exact ⟨rfl, hbl.out⟩
theorem refAll_long (s : Tx) (h : 4096 < s.length) (w : World) : Calls Try.prog 9 #[.string ⟨s.toArray⟩] w fun e w' => e = .returned (.tuple #[.slice none 0 0, .int .i64 0, .int .i64 3]) ∧ w' = w := by
  have h' : (4096 : Int) < (s.length : Int) := by omega
  go_enter Try.func9, Try.ntmps9
  go_wp2
  go_ret3
  exact ⟨rfl, rfl⟩
theorem OwnD_cells {B : Nat} {w : World} {a : Option Addr} {n c : Nat} {l : List Tk} (h : OwnD B w (.slice a n c) l) (hn : l ≠ []) : ∃ b, a = some ⟨b, 0, none⟩ ∧ b < w.heap.size ∧ ∀ i x, l[i]? = some x → w.cell? ⟨b, i * 4, none⟩ = some (.int .u8 (x.kind : Int)) ∧ w.cell? ⟨b, i * 4 + 1, none⟩ = some (.string ⟨x.text.toArray⟩) ∧ w.cell? ⟨b, i * 4 + 2, none⟩ = some (.int .i64 (x.at_ : Int)) ∧ w.cell? ⟨b, i * 4 + 3, none⟩ = some (.int .i64 (x.end_ : Int)) := by
  rcases h.form with ⟨_, e⟩ | ⟨g, c', cur, e, _, _, _, h3, _, h4⟩
  · exact absurd e hn
  · cases e
    refine ⟨g, rfl, lt_of_block h3, fun i x hx => ?_⟩
    obtain ⟨e1, e2, e3, e4⟩ := cellsD_at l i x hx
    rw [cell_of h3, cell_of h3, cell_of h3, cell_of h3]
    exact ⟨h4 _ _ e1, h4 _ _ e2, h4 _ _ e3, h4 _ _ e4⟩
/-- the program's row, whose first so many texts are spoilt. -/
def SpAt (B : Nat) (W : World) (a : Option Addr) (l : List Tk) (i : Nat) : Prop :=
  l ≠ [] → ∃ g cur, a = some ⟨g, 0, none⟩ ∧ B ≤ g ∧ W.heap[g]? = some (.cells cur 31) ∧ ∀ j x, i ≤ j → l[j]? = some x → cur[j * 3]? = some (.int .u8 (x.kind : Int)) ∧ cur[j * 3 + 1]? = some (.string ⟨x.text.toArray⟩) ∧ cur[j * 3 + 2]? = some (.int .i64 (x.at_ : Int))
theorem spAt_start {B : Nat} {w : World} {a : Option Addr} {n c : Nat} {l : List Tk} (h : OwnT B w (.slice a n c) l) : SpAt B w a l 0 := by
  intro hn
  rcases h.form with ⟨_, e⟩ | ⟨g, c', cur, e, _, _, h2, h3, _, h4⟩
  · exact absurd e hn
  · cases e
    refine ⟨g, cur, rfl, h2, h3, fun j x _ hx => ?_⟩
    obtain ⟨e1, e2, e3⟩ := cellsT_at l j x hx
    exact ⟨h4 _ _ e1, h4 _ _ e2, h4 _ _ e3⟩
theorem SpAt.set {B : Nat} {W : World} {g : Nat} {cur : Array Value} {l : List Tk} {i : Nat} (hB : B ≤ g) (hg : W.heap[g]? = some (.cells cur 31))
    (h : ∀ j x, i ≤ j → l[j]? = some x → cur[j * 3]? = some (.int .u8 (x.kind : Int)) ∧ cur[j * 3 + 1]? = some (.string ⟨x.text.toArray⟩) ∧ cur[j * 3 + 2]? = some (.int .i64 (x.at_ : Int))) (v : Value) :
    SpAt B (W.setCell ⟨g, i * 3 + 1, none⟩ v) (some ⟨g, 0, none⟩) l (i + 1) := by
  intro _
  refine ⟨g, _, rfl, hB, heap_set_at hg v, fun j x hj hx => ?_⟩
  obtain ⟨h1, h2, h3⟩ := h j x (by omega) hx
  refine ⟨?_, ?_, ?_⟩
  · rw [Array.getElem?_setIfInBounds_ne (by omega)]; exact h1
  · rw [Array.getElem?_setIfInBounds_ne (by omega)]; exact h2
  · rw [Array.getElem?_setIfInBounds_ne (by omega)]; exact h3
set_option maxRecDepth 100000 in
set_option maxHeartbeats 8000000 in
theorem walk1 (s : Tx) (w : World) (hs : s.length ≤ maxLen) :
    Calls Try.prog 3 #[str s] w fun e w' => e = .returned (.bool true) ∧ Below w.heap.size w w' := by
  unfold maxLen at hs
  unfold str
  by_cases h8 : 8000 < s.length
  · have h8' : (8000 : Int) < (s.length : Int) := by omega
    go_enter Try.func3, Try.ntmps3
    go_wp2
    go_ret
    exact ⟨rfl, Below.refl _ _⟩
  have h8' : ¬ (8000 : Int) < (s.length : Int) := by omega
  by_cases h4 : 4096 < s.length
  · have hra := hid (refAll_long s h4 w)
    have hal := hid (fun w => all_long s w h4 (by omega))
    unfold str at hal
    clear h4
    go_enter Try.func3, Try.ntmps3
    go_wp2_with fail
    refine hra.out.mono ?_
    rintro e w1 ⟨rfl, hw1⟩
    have hw2 := hw1.symm
    subst hw2
    clear hra
    go_wp2
    go_loopw [6] (fun tv wr => ∃ j : Nat, j ≤ 2 ∧ tv = .int .i64 (j : Int) ∧ Hid (Below w.heap.size w wr)) (fun tv _ => 2 - (intOf tv).toNat)
    case atStart => exact ⟨0, by omega, rfl, Below.refl _ _⟩
    case round =>
      obtain ⟨j, hj, rfl, hB⟩ := hrel
      obtain ⟨V, rfl⟩ : ∃ V : World, V = wr := ⟨_, rfl⟩
      by_cases hlt : j < 2
      · have hlt' : (j : Int) < 2 := by omega
        go_wp2_with fail
        refine (hal.out V).mono ?_
        rintro e w2 ⟨rfl, b2⟩
        have B2 := hid (low' hB.out b2)
        clear b2 hB
        go_wp2
        go_loopw [10] (fun kv wr => ∃ k : Nat, k ≤ 0 ∧ kv = .int .i64 (k : Int) ∧ Hid (Below w.heap.size w wr)) (fun kv _ => 0 - (intOf kv).toNat)
        case atStart => exact ⟨0, by omega, rfl, B2.out⟩
        case round =>
          obtain ⟨k, hk, rfl, hB⟩ := hrel
          obtain rfl : k = 0 := by omega
          clear B2
          go_wp2
          exact ⟨⟨j + 1, by omega, by go_num, hB⟩, by simp [intOf]; omega⟩
      · have hlt' : ¬ (j : Int) < 2 := by omega
        obtain rfl : j = 2 := by omega
        go_wp2
        go_ret
        exact ⟨rfl, hB.out⟩
  obtain ⟨l, b, hsc⟩ := scan_ex s.length s 0 (Nat.le_refl _)
  have hra := hid (refAll_any s l b hsc (by omega) w)
  cases b with
  | some p =>
    have hal := hid (fun w => all_bad s w hsc (by omega))
    unfold str at hal
    clear hsc h4
    go_enter Try.func3, Try.ntmps3
    go_wp2_with fail
    refine hra.out.mono ?_
    rintro e w1 ⟨b1, ⟨p', hp', rfl⟩ | ⟨h, _⟩⟩
    · cases hp'
      have B1 := hid b1
      clear hra b1
      go_wp2
      go_loopw [6] (fun tv wr => ∃ j : Nat, j ≤ 2 ∧ tv = .int .i64 (j : Int) ∧ Hid (Below w.heap.size w wr)) (fun tv _ => 2 - (intOf tv).toNat)
      case atStart => exact ⟨0, by omega, rfl, B1.out⟩
      case round =>
        obtain ⟨j, hj, rfl, hB⟩ := hrel
        obtain ⟨V, rfl⟩ : ∃ V : World, V = wr := ⟨_, rfl⟩
        by_cases hlt : j < 2
        · have hlt' : (j : Int) < 2 := by omega
          go_wp2_with fail
          refine (hal.out V).mono ?_
          rintro e w2 ⟨rfl, b2⟩
          have B2 := hid (low' hB.out b2)
          clear b2 hB
          go_wp2
          go_loopw [10] (fun kv wr => ∃ k : Nat, k ≤ 0 ∧ kv = .int .i64 (k : Int) ∧ Hid (Below w.heap.size w wr)) (fun kv _ => 0 - (intOf kv).toNat)
          case atStart => exact ⟨0, by omega, rfl, B2.out⟩
          case round =>
            obtain ⟨k, hk, rfl, hB⟩ := hrel
            obtain rfl : k = 0 := by omega
            clear B2
            go_wp2
            exact ⟨⟨j + 1, by omega, by go_num, hB⟩, by simp [intOf]; omega⟩
        · have hlt' : ¬ (j : Int) < 2 := by omega
          obtain rfl : j = 2 := by omega
          go_wp2
          go_ret
          exact ⟨rfl, hB.out⟩
    · cases h
  | none =>
    have hal := hid (fun w => all_ok s w hsc (by omega))
    unfold str at hal
    have hln := (scan_mem hsc).1
    clear hsc
    go_enter Try.func3, Try.ntmps3
    go_wp2_with fail
    refine hra.out.mono ?_
    rintro e w1 ⟨b1, ⟨p', hp', _⟩ | ⟨_, a1, c1, rfl, o1⟩⟩
    · cases hp'
    have B1 := hid b1
    have O1 := hid o1
    clear hra b1 o1
    generalize hn : l.length = n at *
    replace hn := hid hn
    go_wp2
    go_loopw [6] (fun tv wr => ∃ j : Nat, j ≤ 2 ∧ tv = .int .i64 (j : Int) ∧ Hid (Below w1.heap.size w1 wr)) (fun tv _ => 2 - (intOf tv).toNat)
    case atStart => exact ⟨0, by omega, rfl, Below.refl _ _⟩
    case round =>
      obtain ⟨j, hj, rfl, hB⟩ := hrel
      obtain ⟨V, rfl⟩ : ∃ V : World, V = wr := ⟨_, rfl⟩
      by_cases hlt : j < 2
      · have hlt' : (j : Int) < 2 := by omega
        go_wp2_with fail
        refine (hal.out V).mono ?_
        rintro e w2 ⟨a2, c2, rfl, o2, b2⟩
        have S2 := hid (spAt_start o2)
        have B2 := hid b2
        clear b2 o2
        go_wp2
        go_loopw [10] (fun kv wr => ∃ k : Nat, k ≤ n ∧ kv = .int .i64 (k : Int) ∧ Hid (SpAt V.heap.size wr a2 l k) ∧ Hid (Below V.heap.size V wr)) (fun kv _ => n - (intOf kv).toNat)
        case atStart => exact ⟨0, by omega, rfl, S2.out, B2.out⟩
        case round =>
          obtain ⟨k, hk, rfl, hS, hC⟩ := hrel
          obtain ⟨X, rfl⟩ : ∃ X : World, X = wr := ⟨_, rfl⟩
          by_cases hlk : k < n
          · have hlk' : (k : Int) < (n : Int) := by omega
            obtain ⟨⟨kq, x, q⟩, hx⟩ : ∃ x, l[k]? = some x := ⟨_, List.getElem?_eq_getElem (by rw [hn.out]; exact hlk)⟩
            have hne : l ≠ [] := fun e => by subst e; simp at hx
            obtain ⟨g, cur, rfl, hg1, hg2, hcur⟩ := hS.out hne
            obtain ⟨gd, rfl, hgd, hdc⟩ := OwnD_cells ((O1.out.below hB.out).below (hC.out.mono (Nat.le_refl _))) hne
            obtain ⟨d0, d1, d2, d3⟩ := hdc k _ hx
            obtain ⟨r0, r1, r2⟩ := hcur k _ (Nat.le_refl _) hx
            have x0 := cell_of hg2 (k * 3)
            have x1 := cell_of hg2 (k * 3 + 1)
            have x2 := cell_of hg2 (k * 3 + 2)
            rw [r0] at x0
            rw [r1] at x1
            rw [r2] at x2
            simp only [] at d0 d1 d2 d3 x0 x1 x2
            have hgl := lt_of_block hg2
            have hU : Hid (∀ W, Below X.heap.size X W → W.cell? ⟨g, k * 3, none⟩ = some (.int .u8 (kq : Int)) ∧ W.cell? ⟨g, k * 3 + 1, none⟩ = some (.string ⟨x.toArray⟩) ∧ W.cell? ⟨g, k * 3 + 2, none⟩ = some (.int .i64 (q : Int)) ∧ W.frozen? ⟨g, k * 3 + 1, none⟩ = false ∧
                Hid (SpAt V.heap.size (W.setCell ⟨g, k * 3 + 1, none⟩ (.string ⟨#[115, 112, 111, 105, 108, 116]⟩)) (some ⟨g, 0, none⟩) l (k + 1) ∧ Below V.heap.size V (W.setCell ⟨g, k * 3 + 1, none⟩ (.string ⟨#[115, 112, 111, 105, 108, 116]⟩)))) := fun W hW => by
              have hg3 := (hW.block g hgl).trans hg2
              refine ⟨?_, ?_, ?_, frozen_of hg3 _, SpAt.set hg1 hg3 hcur _, ?_⟩
              · rw [cell_of hg3]; exact r0
              · rw [cell_of hg3]; exact r1
              · rw [cell_of hg3]; exact r2
              · exact (hC.out.trans (hW.mono hC.out.size)).setCell (p := ⟨g, k * 3 + 1, none⟩) (by exact hg1) _
            have hX : Hid (Below X.heap.size X X) := Below.refl _ _
            have hone := hid (one_any kq q (Tk.end_ ⟨kq, x, q⟩) x)
            generalize (Tk.end_ ⟨kq, x, q⟩) = en at *
            clear hS hcur hdc r0 r1 r2 hg2 hx S2
            go_wp2_with fail
            go_region_held3 (fun W => W.cell? ⟨g, k * 3, none⟩ = some (.int .u8 (kq : Int)) ∧ W.cell? ⟨g, k * 3 + 1, none⟩ = some (.string ⟨x.toArray⟩) ∧ W.cell? ⟨g, k * 3 + 2, none⟩ = some (.int .i64 (q : Int)) ∧ W.cell? ⟨gd, k * 4, none⟩ = some (.int .u8 (kq : Int)) ∧ W.cell? ⟨gd, k * 4 + 1, none⟩ = some (.string ⟨x.toArray⟩) ∧ W.cell? ⟨gd, k * 4 + 2, none⟩ = some (.int .i64 (q : Int)) ∧ W.cell? ⟨gd, k * 4 + 3, none⟩ = some (.int .i64 (en : Int))) (go_keep) (first | (go_at_call 11; refine (hone.out _).mono ?_; rintro e w5 ⟨rfl, b5⟩; have B5 := hid (low' (below_drewN (n := 1) hX.out) b5); obtain ⟨u0, u1, u2', uf, uu⟩ := hU.out w5 B5.out; have v0 := (B5.out.cell (p := ⟨gd, k * 4, none⟩) hgd).trans d0; have v1 := (B5.out.cell (p := ⟨gd, k * 4 + 1, none⟩) hgd).trans d1; have v2 := (B5.out.cell (p := ⟨gd, k * 4 + 2, none⟩) hgd).trans d2; have v3 := (B5.out.cell (p := ⟨gd, k * 4 + 3, none⟩) hgd).trans d3; clear b5))
            go_wp2
            exact ⟨⟨k + 1, by omega, by go_num, uu.out.1, uu.out.2⟩, by simp [intOf]; omega⟩
          · have hlk' : ¬ (k : Int) < (n : Int) := by omega
            have hB3 := hid (hB.out.trans (hC.out.mono hB.out.size))
            clear hS hC S2
            go_wp2
            exact ⟨⟨j + 1, by omega, by go_num, hB3.out⟩, by simp [intOf]; omega⟩
      · have hlt' : ¬ (j : Int) < 2 := by omega
        obtain rfl : j = 2 := by omega
        have hB3 := hid (B1.out.trans (hB.out.mono B1.out.size))
        go_wp2
        go_ret
        exact ⟨rfl, hB3.out⟩
theorem walk (s : ByteArray) (w : World) (hs : s.size ≤ maxLen) :
    Calls Try.prog 3 #[.string s] w fun e w' => e = .returned (.bool true) ∧ Below w.heap.size w w' := by
  rw [str_of s]
  exact walk1 _ w hs

theorem own : ownKnob Try.prog.godebug = none := by kernel_rfl
theorem laidOut : laidOutB Try.prog = true := by kernel_rfl

set_option maxRecDepth 100000 in
theorem lifted (os : Os) (started : os.Started) (H : Type) (enc : TypeId × Value → H) :
    ReturnsInHanded {} Try.checked os 3 .any (Rows.lexAllSpec.pre6 enc Try.prog Try.f3 Rows.lexAllRow.domain false) (Rows.lexAllSpec.post enc Try.prog Try.f3 false true false false) := by
  refine returnsInHanded_of_change (C := Try.checked) own started (by kernel_rfl) Try.func3
    (ChangeSpec.witness6 (enc := enc) (C := Try.checked) false ⟨#[], #[.string ⟨#[]⟩], []⟩ 8 (by kernel_rfl) (by kernel_rfl) (by kernel_rfl) (by kernel_rfl)) ?_
  intro W base args ds gs before hval0 hW hcnd _
  have hval : ∀ (j : Nat) t v, Try.f3.params[j]? = some t → args[j]? = some v → Value.okWide Try.prog W .any base t v := hval0
  have hW' := hW
  obtain ⟨p, q, hA0, hV, rfl, hfz, hnd⟩ := hW
  have hA : DataW.TrodAll enc Try.prog W 0 (fun _ => true) true Try.f3.params.toList args.toList ds p := hA0
  rw [Try.params3] at hA hval
  obtain ⟨v0, vs0, d0, ds0, p0, q0, hargs, rfl, rfl, h0, r0⟩ := trodAll_cons hA
  obtain ⟨rfl, rfl, rfl⟩ := trodAll_nil r0
  obtain rfl : args = #[v0] := by cases args; simp_all
  obtain ⟨rfl, rfl⟩ := trodVars_none hV
  obtain ⟨a0, rfl, rfl, rfl, w0⟩ := open_string Try.underlying9 (hval 0 9 v0 rfl rfl) h0
  clear hA0 hval0
  refine (walk a0 W w0).mono fun e W' ⟨he, bel⟩ => ?_
  subst he
  exact ⟨_, rfl, _, _, _, [], _, [], hW', trodAll_mk1 (shut_bool Try.underlying4 _), (trodAll_cons_mk (shut_string Try.underlying9 w0) trodAll_mk0), rfl, bel.frame _, fun h => by cases h⟩

theorem over : Rows.lexAllRow.holds Try.pinned (OpenSpec.ofChange Rows.lexAllSpec) :=
  OpenClaim.holds_of_wide 3 Try.f3 rfl rfl rfl rfl rfl rfl rfl ⟨rfl, rfl, rfl, rfl, rfl⟩ rfl rfl rfl rfl rfl (by kernel_rfl) Try.func3 (by kernel_rfl)
    (of_decide_eq_true (by kernel_rfl)) (by unfold Func.isWrapper; first | (rw [if_pos (by decide +kernel)]; kernel_rfl) | (rw [if_neg (by decide +kernel)]; exact ⟨rfl, rfl⟩))
    (fun os started H enc _ => lifted os started H enc)

theorem proved : Rows.LexAllSaid := over
#print axioms proved

end Go.Proofs.Ytlggdeadkebgiaa.lexAll
