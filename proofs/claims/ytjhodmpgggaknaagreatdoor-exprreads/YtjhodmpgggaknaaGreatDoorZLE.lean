/- For any text the law ExprReads of the program returns true: any text is read as a condition as the chapter says, or refused; what is told is the caller's own. The card ties the library's tables and variables that the row lists; no other condition. -/
import Derived.Test.YtjhodmpgggaknaaGreatDoorZF8
import Derived.Test.YtjhodmpgggaknaaGreatDoorZGQ
import Derived.Test.YtjhodmpgggaknaaGreatDoorZSM
namespace Go.Proofs.YtjhodmpgggaknaaGreatDoor
open Go.ChangeShapes Go.WideShapes Go.ChangeAt Go.RowKit Go.Shelf Go.Maps
open Go.ChangeMaps (open_string shut_string)
namespace Reads

/-- matchers of one's own, whatever they say. -/
def SpM (B : Nat) (W : World) (u : Value) : Prop := ∃ a n c, u = .slice a n c ∧ n ≤ 9223372036854775807 ∧ (n = 0 ∨ ∃ gs cs, a = some ⟨gs, 0, none⟩ ∧ B ≤ gs ∧ W.heap[gs]? = some (.cells cs 33) ∧ n * 3 ≤ cs.size)
theorem spM_of {B : Nat} {W : World} {u : Value} {l : List Mat.Mt} (h : Mat.OwnM B W u l) : SpM B W u := by
  rcases h.form with ⟨rfl, _⟩ | ⟨g, c, cur, rfl, h1, h2, h3, h4, h5, _⟩
  · exact ⟨none, 0, 0, rfl, by omega, .inl rfl⟩
  · exact ⟨_, _, c, rfl, by unfold maxLen at h2; omega, .inr ⟨g, cur, rfl, h3, h4, by omega⟩⟩
theorem SpM.set {B : Nat} {W : World} {u : Value} {gs o : Nat} {cs : Array Value} {T : TypeId} {v : Value} (h : SpM B W u) (hg : W.heap[gs]? = some (.cells cs T)) : SpM B (W.setCell ⟨gs, o, none⟩ v) u := by
  obtain ⟨a, n, c, rfl, h0, h | ⟨g2, c2, rfl, h1, h2, h3⟩⟩ := h
  · exact ⟨a, n, c, rfl, h0, .inl h⟩
  · by_cases e : g2 = gs
    · subst e
      refine ⟨_, n, c, rfl, h0, .inr ⟨g2, c2.setIfInBounds o v, rfl, h1, heap_set_at h2 v, by simpa using h3⟩⟩
    · exact ⟨_, n, c, rfl, h0, .inr ⟨g2, c2, rfl, h1, (heap_set _ _ _ _ _ e).trans h2, h3⟩⟩
/-- nodes of one's own, whatever they say. -/
structure SpG (B : Nat) (W : World) (g : Nat) (z : List (Nd × Value)) : Prop where
  lo : B ≤ g
  at_ : ∃ cur, W.heap[g]? = some (.cells cur 31) ∧ ∀ i p, z[i]? = some p → cur[i * 8 + 2]? = some p.2 ∧ ∃ y, cur[i * 8 + 6]? = some y
  sel : ∀ p ∈ z, SpM B W p.2
def SpN (B : Nat) (W : World) (a : Option Addr) (z : List (Nd × Value)) : Prop := z ≠ [] → ∃ g, a = some ⟨g, 0, none⟩ ∧ SpG B W g z
theorem spN_of {B : Nat} {W : World} {a : Option Addr} {n c : Nat} {z : List (Nd × Value)} (h : OwnZ B W (.slice a n c) z) (hs : SelO B W z) : SpN B W a z := fun hz => by
  rcases h.form with ⟨_, e⟩ | ⟨g, c', cur, e, h1, _, h3, h4, _, h6⟩
  · exact absurd e hz
  · cases e
    exact ⟨g, rfl, h3, ⟨cur, h4, fun i p hp => ⟨h6 (i * 8 + 2) p.2 (by rw [cellsZ_at z i p hp 2 (by decide)]; rfl), iv p.1.left, h6 (i * 8 + 6) (iv p.1.left) (by rw [cellsZ_at z i p hp 6 (by decide)]; rfl)⟩⟩, fun p hp => spM_of (hs p hp)⟩
theorem SpG.set6 {B : Nat} {W : World} {g : Nat} {z : List (Nd × Value)} (h : SpG B W g z) (i : Nat) (v : Value) : SpG B (W.setCell ⟨g, i * 8 + 6, none⟩ v) g z := by
  obtain ⟨cur, h1, h2⟩ := h.at_
  refine ⟨h.lo, ⟨_, heap_set_at h1 v, fun j p hp => ?_⟩, fun p hp => (h.sel p hp).set h1⟩
  obtain ⟨e1, y, e2⟩ := h2 j p hp
  refine ⟨?_, ?_⟩
  · rw [Array.getElem?_setIfInBounds_ne (by omega)]; exact e1
  · by_cases hij : i = j
    · subst hij
      have hlt := (Array.getElem?_eq_some_iff.1 e2).1
      exact ⟨v, by rw [Array.getElem?_setIfInBounds_self_of_lt hlt]⟩
    · exact ⟨y, by rw [Array.getElem?_setIfInBounds_ne (by omega)]; exact e2⟩
theorem SpG.setM {B : Nat} {W : World} {g gs o : Nat} {cs : Array Value} {z : List (Nd × Value)} {v : Value} (h : SpG B W g z) (hg : W.heap[gs]? = some (.cells cs 33)) : SpG B (W.setCell ⟨gs, o, none⟩ v) g z := by
  obtain ⟨cur, h1, h2⟩ := h.at_
  have hne : g ≠ gs := fun e => by
    rw [← e, h1] at hg
    simp at hg
  exact ⟨h.lo, ⟨cur, (heap_set _ _ _ _ _ hne).trans h1, h2⟩, fun p hp => (h.sel p hp).set hg⟩
set_option maxRecDepth 100000 in
set_option maxHeartbeats 4000000 in
theorem walk1 (s : Tx) (w : World) (hE : Env w) : Calls Tryz.prog 3 #[str s] w fun e w' => e = .returned (.bool true) ∧ Below w.heap.size w w' := by
  by_cases h1 : 5000 < s.length
  · have q1 : decide ((5000 : Int) < (s.length : Int)) = true := decide_eq_true (by omega)
    clear hE h1
    unfold str
    go_enter Tryz.func3, Tryz.ntmps3
    go_wp2
    go_ret
    exact ⟨rfl, Below.refl _ _⟩
  have q1 : decide ((5000 : Int) < (s.length : Int)) = false := decide_eq_false (by omega)
  have hR := hid (rParse_any (w := w) s)
  have hP := hid (fun W (hb : Below w.heap.size w W) => Parse_any s (hE.below hb).e (hE.below hb).o (by omega))
  clear hE h1
  generalize parseR s = p at *
  obtain ⟨pn, pc⟩ := p
  simp only at hR hP
  unfold str at *
  go_enter Tryz.func3, Tryz.ntmps3
  go_wp2_with fail
  refine hR.out.mono ?_
  rintro e w1 ⟨vw, rfl, o1, b1⟩
  obtain ⟨wa, wc, rfl⟩ := o1.slice
  have B1 := hid b1
  have hW := hid o1.isN
  clear hR b1 o1
  go_wp2_with fail
  go_loopw [5] (fun tv wr => ∃ t : Nat, tv = .int .i64 (t : Int) ∧ t ≤ 2 ∧ Hid (Below w1.heap.size w1 wr)) (fun tv _ => 2 - (intOf tv).toNat)
  case atStart => exact ⟨0, rfl, by omega, Below.refl _ _⟩
  case round =>
    obtain ⟨t, rfl, ht, hT⟩ := hrel
    obtain ⟨V, rfl⟩ : ∃ V : World, V = wr := ⟨_, rfl⟩
    by_cases ht2 : (t : Int) < 2
    · have cP := hid (hP.out V (low2 B1.out hT.out))
      go_wp2_with fail
      refine cP.out.mono ?_
      rintro e w2 ⟨vl, rfl, o2, b2⟩
      obtain ⟨z, hz, hOz, hSz⟩ := o2
      have hIs : IsN w2 vl pn := OwnN.isN ⟨z, hz, hOz, hSz⟩
      have cS := hid (rsame_any hIs (hW.out.below (low2 hT.out b2)))
      rw [sameN_refl] at cS
      obtain ⟨la, lc, rfl⟩ := hOz.slice
      have hzl : z.length = pn.length := by rw [← hz]; simp
      have hSp := hid (spN_of hOz hSz)
      have hB2 := hid b2
      have hpn : Hid (z.length = pn.length) := hzl
      have hz63 : z.length ≤ 9223372036854775807 := by have := hOz.isZ.bound; omega
      clear cP hz hOz hSz hIs b2 hzl
      go_wp2_with fail
      refine cS.out.mono ?_
      rintro e w3 ⟨rfl, b3⟩
      have hB3 := hid (low2 hB2.out b3)
      have hSp3 : Hid (SpN V.heap.size w3 la z) := fun hz => by
        obtain ⟨g, e, h⟩ := hSp.out hz
        obtain ⟨cur, h2, h3⟩ := h.at_
        exact ⟨g, e, h.lo, ⟨cur, (b3.block _ (lt_of_block h2)).trans h2, h3⟩, fun p hp => by
          obtain ⟨a, n, c, e, k0, k | ⟨gs, cs, k1, k2, k3, k4⟩⟩ := h.sel p hp
          · exact ⟨a, n, c, e, k0, .inl k⟩
          · exact ⟨a, n, c, e, k0, .inr ⟨gs, cs, k1, k2, (b3.block _ (lt_of_block k3)).trans k3, k4⟩⟩⟩
      clear cS b3 hSp hB2
      go_wp2_with fail
      go_loopw [8] (fun iv wi => ∃ i : Nat, iv = .int .i64 (i : Int) ∧ i ≤ z.length ∧ Hid (SpN V.heap.size wi la z) ∧ Hid (Below V.heap.size V wi)) (fun iv _ => z.length - (intOf iv).toNat)
      case atStart => exact ⟨0, rfl, by omega, hSp3, hB3⟩
      case round =>
        clear hSp3 hB3
        obtain ⟨i, rfl, hi, hSp, hB⟩ := hrel
        obtain ⟨X0, rfl⟩ : ∃ X0 : World, X0 = wr := ⟨_, rfl⟩
        by_cases hin : (i : Int) < (z.length : Int)
        · have hin' : i < z.length := by omega
          have i0 : (0 : Int) ≤ (i : Int) := by omega
          obtain ⟨p, hp⟩ : ∃ p, z[i]? = some p := ⟨_, List.getElem?_eq_getElem hin'⟩
          obtain ⟨g, rfl, hG⟩ := hSp.out (fun e => by rw [e] at hin'; simp at hin')
          obtain ⟨cur, hg, hc⟩ := hG.at_
          obtain ⟨-, y, e6⟩ := hc i p hp
          have x6 : X0.cell? ⟨g, i * 8 + 6, none⟩ = some y := by rw [cell_of hg]; exact e6
          have f6 := frozen_of hg (i * 8 + 6)
          have hG1 := hid (hG.set6 i (.int .i64 (-5)))
          have hB1 := hid (hB.out.setCell (p := ⟨g, i * 8 + 6, none⟩) hG.lo (.int .i64 (-5)))
          obtain ⟨X, hX⟩ : ∃ X, X0.setCell ⟨g, i * 8 + 6, none⟩ (.int .i64 (-5)) = X := ⟨_, rfl⟩
          rw [hX] at hG1 hB1
          have hpm := hid (List.mem_of_getElem? hp)
          have hpz := hid hp
          obtain ⟨sa, m, sc, hu, m63, -⟩ := hG1.out.sel p hpm.out
          obtain ⟨pn1, pu⟩ := p
          simp only at hu
          subst hu
          clear hc e6 hg hG hSp hB hp
          go_wp2_with fail
          go_loopw [9] (fun kv wk => ∃ k : Nat, kv = .int .i64 (k : Int) ∧ k ≤ m ∧ Hid (SpG V.heap.size wk g z) ∧ Hid (Below V.heap.size V wk)) (fun kv _ => m - (intOf kv).toNat)
          case atStart => exact ⟨0, rfl, by omega, hG1, hB1⟩
          case round =>
            clear hG1 hB1 hX x6 f6
            obtain ⟨k, rfl, hk, hG, hB⟩ := hrel
            obtain ⟨Y0, rfl⟩ : ∃ Y0 : World, Y0 = wr := ⟨_, rfl⟩
            obtain ⟨cur, hg, hc⟩ := hG.out.at_
            obtain ⟨e2, -⟩ := hc i _ hpz.out
            have x2 : Y0.cell? ⟨g, i * 8 + 2, none⟩ = some (.slice sa m sc) := by rw [cell_of hg]; exact e2
            obtain ⟨sa', m', sc', hu', -, hm⟩ := hG.out.sel _ hpm.out
            cases hu'
            clear hc e2 hg
            by_cases hkm : (k : Int) < (m : Int)
            · have k0 : (0 : Int) ≤ (k : Int) := by omega
              rcases hm with hm | ⟨gs, cs, rfl, k1, k2, k3⟩
              · omega
              obtain ⟨y, hy⟩ : ∃ y, cs[k * 3]? = some y := ⟨_, Array.getElem?_eq_getElem (by omega)⟩
              have x0 : Y0.cell? ⟨gs, k * 3, none⟩ = some y := by rw [cell_of k2]; exact hy
              have f0 := frozen_of k2 (k * 3)
              have hG2 := hid (fun v => hG.out.setM (o := k * 3) (v := v) k2)
              have hB2 := hid (fun v => hB.out.setCell (p := ⟨gs, k * 3, none⟩) k1 v)
              clear hy k2 k3 hG hB k1
              go_wp2
              exact ⟨⟨k + 1, by simp, by omega, hG2.out _, hB2.out _⟩, by simp [intOf]; omega⟩
            · have hfin : Hid (SpN V.heap.size Y0 (some ⟨g, 0, none⟩) z) := fun _ => ⟨g, rfl, hG.out⟩
              clear hm hG
              go_wp2
              exact ⟨⟨i + 1, by simp, by omega, hfin, hB⟩, by simp [intOf]; omega⟩
        · have hB4 := hid (low2 hT.out hB.out)
          clear hSp hB
          go_wp2
          exact ⟨⟨t + 1, by simp, by omega, hB4⟩, by simp [intOf]; omega⟩
    · go_wp2
      go_ret
      exact ⟨rfl, low2 B1.out hT.out⟩
theorem walk (s : ByteArray) (w : World) (hE : Env w) (_ : s.size ≤ maxLen) :
    Calls Tryz.prog 3 #[.string s] w fun e w' => e = .returned (.bool true) ∧ Below w.heap.size w w' := by
  rw [str_of s]
  exact walk1 _ w hE
theorem own : ownKnob Tryz.prog.godebug = none := by kernel_rfl
theorem laidOut : laidOutB Tryz.prog = true := by kernel_rfl

set_option maxRecDepth 100000 in
theorem lifted (os : Os) (started : os.Started) (H : Type) (enc : TypeId × Value → H) :
    ReturnsInHanded {} Tryz.checked os 3 .any (fun w args => (Rows.exprReadsSpec.pre enc Tryz.prog Tryz.f3 [] false w args ∧ laidMetH Tryz.prog Rows.exprReadsRow.laid w) ∧ sizedMet enc Tryz.prog Tryz.f3 (OpenSpec.ofChange Rows.exprReadsSpec) false w args)
      (Rows.exprReadsSpec.post enc Tryz.prog Tryz.f3 false true false false) := by
  refine returnsInHanded_of_change_and (C := Tryz.checked) (X := fun w _ => laidMetH Tryz.prog Rows.exprReadsRow.laid w) (fun _ _ _ hh h => h.of_heap hh) own started (by kernel_rfl) Tryz.func3
    (ChangeSpec.witness_shaped (enc := enc) (C := Tryz.checked) (os := os) (X := fun w _ => laidMetH Tryz.prog Rows.exprReadsRow.laid w) false (World.laidAll Tryz.prog os Rows.exprReadsRow.laid) #[.string ⟨#[]⟩] 8 (World.laidAll_os _ _ _)
      (World.shaped_of_ZipB (by kernel_rfl) (by kernel_rfl)) (by kernel_rfl) (by kernel_rfl) (by kernel_rfl)
      (by rw [MakeChecks.laidMetH_plain _ _ _ (by kernel_rfl)]; exact laidMet_laidAll _ (by kernel_rfl) (by kernel_rfl))) ?_
  intro W base args ds gs before hval0 hW _ hsz0 hL _
  have hval : ∀ (j : Nat) t v, Tryz.f3.params[j]? = some t → args[j]? = some v → Value.okWide Tryz.prog W .any base t v := hval0
  have hW' := hW
  obtain ⟨p, q, hA0, hV, rfl, hfz, hnd⟩ := hW
  have hA : DataW.TrodAll enc Tryz.prog W 0 (fun _ => true) true Tryz.f3.params.toList args.toList ds p := hA0
  rw [Tryz.params3] at hA hval
  obtain ⟨v0, vs0, d0, ds0, p0, q0, hargs, rfl, rfl, h0, r0⟩ := trodAll_cons hA
  obtain ⟨rfl, rfl, rfl⟩ := trodAll_nil r0
  obtain rfl : args = #[v0] := by cases args; simp_all
  obtain ⟨rfl, rfl⟩ := trodVars_none hV
  obtain ⟨a0, rfl, rfl, rfl, w0⟩ := open_string Tryz.underlying9 (hval 0 9 v0 rfl rfl) h0
  clear hA0 hval0
  have hEnv : Env W := env_of (by
    have h2 := hL
    rw [MakeChecks.laidMetH_plain _ _ _ (by kernel_rfl)] at h2
    exact h2)
  refine (walk a0 W hEnv w0).mono fun e W' ⟨he, bel⟩ => ?_
  subst he
  exact ⟨_, rfl, _, _, _, [], _, [], hW', trodAll_mk1 (shut_bool Tryz.underlying4 _), (trodAll_cons_mk (shut_string Tryz.underlying9 w0) trodAll_mk0), rfl, bel.frame _, fun h => by cases h⟩

theorem over : Rows.ExprReadsSaid :=
  OpenClaim.holds_of_wide 3 Tryz.f3 rfl rfl rfl rfl rfl rfl rfl ⟨rfl, rfl, rfl, rfl, rfl⟩ rfl rfl rfl rfl rfl (by kernel_rfl) Tryz.func3 (by kernel_rfl)
    (of_decide_eq_true (by kernel_rfl)) (by unfold Func.isWrapper; first | (rw [if_pos (by decide +kernel)]; kernel_rfl) | (rw [if_neg (by decide +kernel)]; exact ⟨rfl, rfl⟩))
    (fun os started H enc _ => lifted os started H enc)

theorem proved : Rows.ExprReadsCardSaid :=
  Claim7.holds_tied_plain_at .later [] [.data, .data, .data, .data, .sentinel, .sentinel, .data, .pinned] true (true, "0de5c6bda23e0a8c6fc41c4f9c256532d3b8c8c7ac968135fcbd1891ac288ff9") true
    over (fun _ h => by cases h) (by kernel_rfl) (fun _ h => by cases h) exprReads_row_tie rfl ⟨rfl, rfl⟩ (by kernel_rfl) rfl
    (fun f fn hf hfn => by
      obtain rfl : f = 3 := Option.some.inj ((show Tryz.prog.funcNamed "tocsin/tocsinlaw10.ExprReads" = some 3 by kernel_rfl).symm.trans hf) |>.symm
      obtain rfl : fn = Tryz.f3 := (Option.some.inj (Tryz.func3.symm.trans hfn)).symm
      exact ⟨by kernel_rfl, fun j t ht => by
        rw [Tryz.params3] at ht
        have hm : t ∈ [9] := by simpa using Array.mem_of_getElem? ht
        have hall : ([9].all fun u => !Tryz.prog.wantsStandIn u) = true := by kernel_rfl
        exact (show Tryz.prog.wantsStandIn t = false by simpa using List.all_eq_true.1 hall t hm)⟩)
    (by kernel_rfl)
#print axioms proved

end Reads
end Go.Proofs.YtjhodmpgggaknaaGreatDoor
