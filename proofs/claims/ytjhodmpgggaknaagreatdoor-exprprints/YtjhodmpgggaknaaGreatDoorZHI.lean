/- Joined: GR2 CP GN2. -/
import Derived.Test.YtjhodmpgggaknaaGreatDoorZGP
import Derived.Test.YtjhodmpgggaknaaGreatDoorZHB
import Derived.Test.YtjhodmpgggaknaaGreatDoorZX1
import Derived.Deep.RegionHeld3
import Derived.BigQuiet
import Derived.Test.YtjhodmpgggaknaaGreatDoorZGQ
/- Contract of the law's great, with what it says of the texts' lengths. -/
namespace Go.Proofs.YtjhodmpgggaknaaGreatDoor
open Go.RowKit Go.Shelf Go.Maps

def SmallN (x : Nd) : Prop := x.sel.length ≤ 100 ∧ ∀ m ∈ x.sel, m.1.length ≤ 5000 ∧ m.2.2.length ≤ 5000
def Great2 (ns : List Nd) (w : World) (e : Ending) (w' : World) : Prop := ∃ g, e = .returned (.bool g) ∧ Below w.heap.size w w' ∧ (g = false → ns.length ≤ 100 ∧ ∀ x ∈ ns, SmallN x)
def SmallTo (ns : List Nd) (k : Nat) : Prop := ∀ i x, i < k → ns[i]? = some x → SmallN x
def SmallM (l : List Mat.Mt) (j : Nat) : Prop := ∀ i m, i < j → l[i]? = some m → m.1.length ≤ 5000 ∧ m.2.2.length ≤ 5000
theorem smallTo_all {ns : List Nd} (h : SmallTo ns ns.length) : ∀ x ∈ ns, SmallN x := fun x hx => by
  obtain ⟨i, hi, e⟩ := List.mem_iff_getElem.1 hx
  exact h i x hi (by rw [List.getElem?_eq_getElem hi, e])
theorem smallM_all {l : List Mat.Mt} (h : SmallM l l.length) : ∀ m ∈ l, m.1.length ≤ 5000 ∧ m.2.2.length ≤ 5000 := fun x hx => by
  obtain ⟨i, hi, e⟩ := List.mem_iff_getElem.1 hx
  exact h i x hi (by rw [List.getElem?_eq_getElem hi, e])
set_option maxRecDepth 100000 in
set_option maxHeartbeats 4000000 in
theorem great2_any {w : World} {v : Value} {ns : List Nd} (h : IsN w v ns) : Calls Tryz.prog 12 #[v] w (Great2 ns w) := by
  obtain ⟨a, c, rfl⟩ := h.slice
  obtain ⟨-, hb1, hb2⟩ := h.bound
  by_cases h1 : 100 < ns.length
  · have q : decide ((100 : Int) < (ns.length : Int)) = true := decide_eq_true (by omega)
    clear h
    go_enter Tryz.func12, Tryz.ntmps12
    go_wp2
    go_ret
    exact ⟨true, rfl, Below.refl _ _, fun e => by cases e⟩
  · have q : decide ((100 : Int) < (ns.length : Int)) = false := decide_eq_false (by omega)
    have hN := hid h
    clear h
    go_enter Tryz.func12, Tryz.ntmps12
    go_wp2_with fail
    go_loopw [3, 4] (fun lf iv wr => ∃ (k : Nat) (L : Int), iv = .int .i64 (k : Int) ∧ lf = .int .i64 L ∧ k ≤ ns.length ∧ 0 ≤ L ∧ L ≤ 5000 ∧ Below w.heap.size w wr ∧ Hid (SmallTo ns k)) (fun _ iv _ => ns.length - (intOf iv).toNat)
    case atStart => exact ⟨0, 5000, rfl, rfl, by omega, by decide, by decide, Below.refl _ _, fun i x hi => by omega⟩
    case round =>
      obtain ⟨k, L, rfl, rfl, hk, hL0, hL1, hlow, hsm⟩ := hrel
      obtain ⟨W0, rfl⟩ : ∃ W0 : World, W0 = wr := ⟨_, rfl⟩
      by_cases hkn : (k : Int) < (ns.length : Int)
      · have hkn' : k < ns.length := by omega
        obtain ⟨b, off, rfl, hcs⟩ := (hN.out.below hlow).at hkn'
        obtain ⟨x, hx⟩ : ∃ x, ns[k]? = some x := ⟨_, List.getElem?_eq_getElem hkn'⟩
        obtain ⟨s, ⟨-, -, x2, -, -, -, -, -⟩, hms⟩ := hcs k x hx
        obtain ⟨sa, sc, rfl⟩ := hms.slice
        have hmb := hid hms.bound
        replace hms := hid hms
        replace hlow := hid hlow
        replace hx := hid hx
        clear hcs
        by_cases h2 : 100 < x.sel.length
        · have q2 : decide ((100 : Int) < (x.sel.length : Int)) = true := decide_eq_true (by omega)
          go_wp2
          go_ret
          exact ⟨true, rfl, hlow.out, fun e => by cases e⟩
        · have q2 : decide ((100 : Int) < (x.sel.length : Int)) = false := decide_eq_false (by omega)
          go_wp2_with fail
          go_loopw [3, 5] (fun lf jv w2 => ∃ (j : Nat) (M : Int), jv = .int .i64 (j : Int) ∧ lf = .int .i64 M ∧ j ≤ x.sel.length ∧ 0 ≤ M ∧ M ≤ 5000 ∧ Below W0.heap.size W0 w2 ∧ Hid (SmallM x.sel j)) (fun _ jv _ => x.sel.length - (intOf jv).toNat)
          case atStart => exact ⟨0, L, rfl, rfl, by omega, hL0, hL1, Below.refl _ _, fun i m hi => by omega⟩
          case round =>
            obtain ⟨j, M, rfl, rfl, hj, hM0, hM1, hb, hsM⟩ := hrel
            have x2' := (hb.cell (p := ⟨b, off + k * 8 + 2, none⟩) (World.block_lt_of_cell? W0 _ x2)).trans x2
            have hMs := hms.out.below hb
            have hb3 := hid (fun (W' : World) (hb' : Below wr.heap.size wr W') => low2 hlow.out (low2 hb hb'))
            have hb4 := hid (fun (W' : World) (hb' : Below wr.heap.size wr W') => low2 hb hb')
            clear x2 hb
            by_cases hjn : (j : Int) < (x.sel.length : Int)
            · have hjn' : j < x.sel.length := by omega
              obtain ⟨b2, off2, rfl, hc2⟩ := hMs.at hjn'
              obtain ⟨⟨mn, mo, mv⟩, hm⟩ : ∃ m, x.sel[j]? = some m := ⟨_, List.getElem?_eq_getElem hjn'⟩
              obtain ⟨y0, y1, y2⟩ := hc2 j _ hm
              obtain ⟨lm, lv⟩ := hMs.mid hm
              have hal := hid (hb3.out _ (alloc_below wr (.cells #[.string ⟨mn.toArray⟩, .int .u8 (mo.toNat : Int), .string ⟨mv.toArray⟩] 33)))
              have hal2 := hid (hb4.out _ (alloc_below wr (.cells #[.string ⟨mn.toArray⟩, .int .u8 (mo.toNat : Int), .string ⟨mv.toArray⟩] 33)))
              simp only [] at y0 y1 y2 lm lv
              unfold str Mat.opv at *
              replace hm := hid hm
              clear hc2 hMs hb3 hb4
              by_cases g1 : M < (mn.length : Int)
              · have r1 : decide (M < (mn.length : Int)) = true := decide_eq_true g1
                go_wp2
                go_ret
                exact ⟨true, rfl, hal.out, fun e => by cases e⟩
              · have r1 : decide (M < (mn.length : Int)) = false := decide_eq_false g1
                have w1 : IntKind.i64.wrap (M - (mn.length : Int)) = M - (mn.length : Int) := by rw [IntKind.wrap_i64]; omega
                by_cases g2 : M - (mn.length : Int) < (mv.length : Int)
                · have r2 : decide (M - (mn.length : Int) < (mv.length : Int)) = true := decide_eq_true g2
                  go_wp2
                  go_ret
                  exact ⟨true, rfl, hal.out, fun e => by cases e⟩
                · have r2 : decide (M - (mn.length : Int) < (mv.length : Int)) = false := decide_eq_false g2
                  have w2 : IntKind.i64.wrap (M - (mn.length : Int) - (mv.length : Int)) = M - (mn.length : Int) - (mv.length : Int) := by rw [IntKind.wrap_i64]; omega
                  have hsM2 : Hid (SmallM x.sel (j + 1)) := fun i m hi hmi => by
                    by_cases hij : i = j
                    · subst hij
                      rw [hm.out] at hmi
                      cases hmi
                      exact ⟨by simp only; omega, by simp only; omega⟩
                    · exact hsM.out i m (by omega) hmi
                  go_wp2
                  exact ⟨⟨j + 1, M - (mn.length : Int) - (mv.length : Int), by simp, rfl, by omega, by omega, by omega, hal2.out, hsM2⟩, by simp [intOf]; omega⟩
            · have hal := hid (hb3.out _ (Below.refl _ _))
              have hsm2 : Hid (SmallTo ns (k + 1)) := fun i y hi hyi => by
                by_cases hik : i = k
                · subst hik
                  rw [hx.out] at hyi
                  cases hyi
                  have hjl : j = x.sel.length := by omega
                  exact ⟨by omega, smallM_all (hjl ▸ hsM.out)⟩
                · exact hsm.out i y (by omega) hyi
              go_wp2
              exact ⟨⟨k + 1, M, by simp, rfl, by omega, hM0, hM1, hal.out, hsm2⟩, by simp [intOf]; omega⟩
      · replace hlow := hid hlow
        go_wp2
        go_ret
        have hkl : k = ns.length := by omega
        exact ⟨false, rfl, hlow.out, fun _ => ⟨by omega, smallTo_all (hkl ▸ hsm.out)⟩⟩
end Go.Proofs.YtjhodmpgggaknaaGreatDoor
/- The document's Copy. -/
namespace Go.Proofs.YtjhodmpgggaknaaGreatDoor
open Go.RowKit Go.Shelf Go.Maps

theorem pushS_run {w : World} {base B : Nat} {v : Value} {ns : List Nd} (hr : OwnN base w v ns) (x : Nd) (s : Value) (hm : Mat.OwnM B w s x.sel) (hB : base ≤ B) (hl : ns.length + 1 ≤ 1000000000) (hb : base ≤ w.heap.size) :
    ∃ a' c' w', (∀ ty, (Builtin.append_ #[22, 22] ty #[v, .slice (some ⟨w.heap.size, 0, none⟩) 1 1]).run Tryz.prog (w.alloc (.cells #[.int .u8 (x.kind.toNat : Int), .int .u8 (x.agg.toNat : Int), s, .int .i64 x.win, .int .u8 (x.cmp.toNat : Int), .int .i64 x.val, .int .i64 x.left, .int .i64 x.right] 31)) = .ok (.slice a' (ns.length + 1) c') w') ∧ OwnN base w' (.slice a' (ns.length + 1) c') (ns ++ [x]) ∧ Below base w w' := by
  obtain ⟨z, rfl, hz, hs⟩ := hr
  rw [List.length_map] at hl ⊢
  have hone : s.oneCell' = true := by
    obtain ⟨a, c, e⟩ := hm.isM.slice
    rw [e]; rfl
  obtain ⟨a', c', w', g1, g2, g3, _⟩ := pushZ_run hz x s hone hl hb
  have hab := alloc_below w (.cells #[.int .u8 (x.kind.toNat : Int), .int .u8 (x.agg.toNat : Int), s, .int .i64 x.win, .int .u8 (x.cmp.toNat : Int), .int .i64 x.val, .int .i64 x.left, .int .i64 x.right] 31)
  have hz' := hz.below hab
  have hs' := hs.below hab
  have h1 : SelO base (w.alloc (.cells #[.int .u8 (x.kind.toNat : Int), .int .u8 (x.agg.toNat : Int), s, .int .i64 x.win, .int .u8 (x.cmp.toNat : Int), .int .i64 x.val, .int .i64 x.left, .int .i64 x.right] 31)) [(x, s)] := fun p hp => by
    simp at hp
    subst hp
    exact (hm.below hab).base hB
  exact ⟨a', c', w', g1, ⟨z ++ [(x, s)], by simp, g2, (selO_grown hz' hs' g3).app (selO_grown hz' h1 g3)⟩, ((Below.refl base w).alloc hb _).trans (ownZ_low hz' (by simp; omega) g3)⟩
set_option maxRecDepth 100000 in
set_option maxHeartbeats 4000000 in
theorem copyN_any {w : World} {v : Value} {ns : List Nd} (h : IsN w v ns) (hn : ns.length ≤ 100) (hsm : ∀ x ∈ ns, SmallN x) : Calls Tryz.prog 13 #[v] w fun e w' => ∃ a c, e = .returned (.slice a ns.length c) ∧ OwnN w.heap.size w' (.slice a ns.length c) ns ∧ Below w.heap.size w w' := by
  obtain ⟨a, c, rfl⟩ := h.slice
  have hN := hid h
  have hs := hid hsm
  clear h hsm
  go_enter Tryz.func13, Tryz.ntmps13
  go_wp2_with fail
  go_loopw [3, 4] (fun ov iv wr => ∃ (k : Nat) (a' : Option Addr) (c' : Nat), ov = .slice a' k c' ∧ iv = .int .i64 (k : Int) ∧ k ≤ ns.length ∧ Hid (Below w.heap.size w wr) ∧ Hid (OwnN w.heap.size wr (.slice a' k c') (ns.take k))) (fun _ iv _ => ns.length - (intOf iv).toNat)
  case atStart => exact ⟨0, none, 0, rfl, rfl, by omega, Below.refl _ _, ownN_nil _ _⟩
  case round =>
    obtain ⟨k, a', c', rfl, rfl, hk, hB, hO⟩ := hrel
    obtain ⟨V, rfl⟩ : ∃ V : World, V = wr := ⟨_, rfl⟩
    by_cases hkn : (k : Int) < (ns.length : Int)
    · have hkn' : k < ns.length := by omega
      obtain ⟨x, hx⟩ : ∃ x, ns[k]? = some x := ⟨_, List.getElem?_eq_getElem (by omega)⟩
      have k0 : (0 : Int) ≤ (k : Int) := by omega
      have hxs := hs.out x (List.mem_of_getElem? hx)
      have htk : ns.take (k + 1) = ns.take k ++ [x] := by rw [List.take_add_one, hx]; rfl
      have hlk : (ns.take k).length = k := by simp; omega
      obtain ⟨b, off, rfl, hcs⟩ := (hN.out.below hB.out).at (k := k) (by omega)
      obtain ⟨s, ⟨x0, x1, x2, x3, x4, x5, x6, x7⟩, hms⟩ := hcs k x hx
      obtain ⟨sa, sc, rfl⟩ := hms.slice
      have hbV := World.block_lt_of_cell? V _ x2
      have hne : ¬ V.heap.size = b := fun e => by subst e; exact absurd hbV (by simp)
      have hne2 : ¬ b = V.heap.size := fun e => hne e.symm
      have hnb := new_block V (.cells #[.int .u8 (x.kind.toNat : Int), .int .u8 (x.agg.toNat : Int), .slice sa x.sel.length sc, .int .i64 x.win, .int .u8 (x.cmp.toNat : Int), .int .i64 x.val, .int .i64 x.left, .int .i64 x.right] 31)
      have hab := alloc_below V (.cells #[.int .u8 (x.kind.toNat : Int), .int .u8 (x.agg.toNat : Int), .slice sa x.sel.length sc, .int .i64 x.win, .int .u8 (x.cmp.toNat : Int), .int .i64 x.val, .int .i64 x.left, .int .i64 x.right] 31)
      have hsz : (V.alloc (.cells #[.int .u8 (x.kind.toNat : Int), .int .u8 (x.agg.toNat : Int), .slice sa x.sel.length sc, .int .i64 x.win, .int .u8 (x.cmp.toNat : Int), .int .i64 x.val, .int .i64 x.left, .int .i64 x.right] 31)).heap.size = V.heap.size + 1 := by simp
      obtain ⟨V1, hV1⟩ : ∃ V1, V.alloc (.cells #[.int .u8 (x.kind.toNat : Int), .int .u8 (x.agg.toNat : Int), .slice sa x.sel.length sc, .int .i64 x.win, .int .u8 (x.cmp.toNat : Int), .int .i64 x.val, .int .i64 x.left, .int .i64 x.right] 31) = V1 := ⟨_, rfl⟩
      rw [hV1] at hnb hab hsz
      have hnbH := hid hnb
      have hselC := hid (fun W (hb : Below V1.heap.size V1 W) => ((low' hab hb).cell (p := ⟨b, off + k * 8 + 2, none⟩) hbV).trans x2)
      have cY := hid (fun W (hb : Below V1.heap.size V1 W) => Mat.copyM_any _ _ W (hms.below (low' hab hb)) (by have := hxs.1; omega))
      have d0 := hid (below_drew (Below.refl V1.heap.size V1))
      have y2 := cell_of hnb 2
      have f2 := frozen_of hnb 2
      simp at y2
      have habH := hid hab
      have hszH := hid hsz
      have hlV := hid hB.out.size
      replace htk := hid htk
      replace hlk := hid hlk
      replace hx := hid hx
      replace hxs := hid hxs
      have hbx := hid (fun W (hb : Below V1.heap.size V1 W) => show W.cell? ⟨V.heap.size, 2, none⟩ = some (.slice sa x.sel.length sc) ∧ W.frozen? ⟨V.heap.size, 2, none⟩ = false from by
        have e := (hb.block _ (lt_of_block hnbH.out)).trans hnbH.out
        exact ⟨by rw [cell_of e]; rfl, frozen_of e 2⟩)
      have z2 := hselC.out V1 (Below.refl _ _)
      clear hcs hms hnb hab hsz
      go_wp2_with fail
      refine (cY.out _ (Below.refl _ _)).mono ?_
      rintro e X1 ⟨a2, c2, rfl, o2, b2⟩
      obtain ⟨ub, fb⟩ := hbx.out _ b2
      have hX1 := (b2.block _ (lt_of_block hnbH.out)).trans hnbH.out
      obtain ⟨V2, hV2⟩ : ∃ V2, X1.setCell ⟨V.heap.size, 2, none⟩ (.slice a2 x.sel.length c2) = V2 := ⟨_, rfl⟩
      have hX2 := heap_set_at (o := 2) hX1 (.slice a2 x.sel.length c2)
      have hbs : Below V.heap.size V V2 := by
        rw [← hV2]
        exact (low' habH.out b2).setCell (Nat.le_refl _) _
      have o3 : Mat.OwnM (V.heap.size + 1) V2 (.slice a2 x.sel.length c2) x.sel := by
        rw [← hV2]
        rw [hszH.out] at o2
        exact ownM_set o2 2 _
      rw [hV2] at hX2
      have v0 := cell_of hX2 0
      have v1 := cell_of hX2 1
      have v2 := cell_of hX2 2
      have v3 := cell_of hX2 3
      have v4 := cell_of hX2 4
      have v5 := cell_of hX2 5
      have v6 := cell_of hX2 6
      have v7 := cell_of hX2 7
      simp at v0 v1 v2 v3 v4 v5 v6 v7
      have B2 := low' hB.out hbs
      obtain ⟨qa, qc, P5, RUN, hO5, hB5⟩ := pushS_run (hO.out.below hbs) x (.slice a2 x.sel.length c2) o3 (by have := hlV.out; omega) (by rw [hlk.out]; omega) B2.size
      rw [hlk.out] at RUN hO5
      rw [← htk.out] at hO5
      replace hO5 := hid hO5
      replace hB5 := hid (B2.trans (hB5.mono (Nat.le_refl _)))
      replace RUN := hid RUN
      clear b2 o2 cY hX1 hX2 hbs o3 B2 hO hB
      go_wp2_with (first | rw [hV2] | (at_builtin; refine wpList_append_run _ rfl _ _ 22 rfl _ _ _ _ rfl rfl RUN.out ?_))
      exact ⟨⟨k + 1, qa, qc, rfl, by go_num, by omega, hB5, hO5⟩, by simp [intOf]; omega⟩
    · obtain rfl : k = ns.length := by omega
      have hO2 := hid (show OwnN w.heap.size V (.slice a' ns.length c') ns from by have := hO.out; rw [List.take_length] at this; exact this)
      clear hO
      go_wp2
      go_ret
      exact ⟨_, _, rfl, hO2.out, hB.out⟩
end Go.Proofs.YtjhodmpgggaknaaGreatDoor
/- Opening of nodes, with the windows' bound. -/
namespace Go.Proofs.YtjhodmpgggaknaaGreatDoor
open Go.ChangeShapes Go.WideShapes Go.ChangeAt Go.RowKit

theorem i64_le {z : Int} (h : (Lit.int .i64 z).wf = true) : z ≤ 9223372036854775807 := by
  simp [Lit.wf, IntKind.min, IntKind.max, IntKind.bits, IntKind.signed] at h
  omega
section
variable {H : Type} {enc : TypeId × Value → H} {w : World} {base : Nat} {held : Bool}
set_option maxRecDepth 100000 in
theorem cells_node2 {fuel : Nat} {cs : List Value} {x : DataW H × List MemPlace} (h : DataW.trod enc Tryz.prog w base (fun _ => true) held fuel 31 cs = some x) : ∃ y : Nd × Value, cs = ndv y ∧ Mat.IsMs w y.2 y.1.sel ∧ y.1.win ≤ 9223372036854775807 := by
  obtain ⟨xs, n, _, _, hcl, hxl, hf⟩ := DataW.trod_struct Tryz.underlying31 h
  rw [cellsNd] at hcl
  match cs, hcl with
  | [c0, c1, c2, c3, c4, c5, c6, c7], _ =>
  have hx : ∀ i, i < 8 → ∃ y, xs[i]? = some y := fun i hi => ⟨_, List.getElem?_eq_getElem (by rw [hxl]; exact hi)⟩
  obtain ⟨y0, e0⟩ := hx 0 (by decide)
  obtain ⟨y1, e1⟩ := hx 1 (by decide)
  obtain ⟨y2, e2⟩ := hx 2 (by decide)
  obtain ⟨y3, e3⟩ := hx 3 (by decide)
  obtain ⟨y4, e4⟩ := hx 4 (by decide)
  obtain ⟨y5, e5⟩ := hx 5 (by decide)
  obtain ⟨y6, e6⟩ := hx 6 (by decide)
  obtain ⟨y7, e7⟩ := hx 7 (by decide)
  have f0 : DataW.trod enc Tryz.prog w base (fun _ => true) held n 5 [c0] = some y0 := by
    have h0 := hf 0 _ rfl
    rw [e0] at h0
    simpa [k_u8] using h0
  have f1 : DataW.trod enc Tryz.prog w base (fun _ => true) held n 5 [c1] = some y1 := by
    have h0 := hf 1 _ rfl
    rw [e1] at h0
    simpa [k_u8] using h0
  have f2 : DataW.trod enc Tryz.prog w base (fun _ => true) held n 29 [c2] = some y2 := by
    have h0 := hf 2 _ rfl
    rw [e2] at h0
    simpa [k_sel] using h0
  have f3 : DataW.trod enc Tryz.prog w base (fun _ => true) held n 3 [c3] = some y3 := by
    have h0 := hf 3 _ rfl
    rw [e3] at h0
    simpa [k_int] using h0
  have f4 : DataW.trod enc Tryz.prog w base (fun _ => true) held n 5 [c4] = some y4 := by
    have h0 := hf 4 _ rfl
    rw [e4] at h0
    simpa [k_u8] using h0
  have f5 : DataW.trod enc Tryz.prog w base (fun _ => true) held n 2 [c5] = some y5 := by
    have h0 := hf 5 _ rfl
    rw [e5] at h0
    simpa [k_i64] using h0
  have f6 : DataW.trod enc Tryz.prog w base (fun _ => true) held n 3 [c6] = some y6 := by
    have h0 := hf 6 _ rfl
    rw [e6] at h0
    simpa [k_int] using h0
  have f7 : DataW.trod enc Tryz.prog w base (fun _ => true) held n 3 [c7] = some y7 := by
    have h0 := hf 7 _ rfl
    rw [e7] at h0
    simpa [k_int] using h0
  obtain ⟨z0, q0, _, l0⟩ := DataW.trod_int Tryz.underlying5 f0
  obtain ⟨z1, q1, _, l1⟩ := DataW.trod_int Tryz.underlying5 f1
  obtain ⟨sel, hsel⟩ := mats_in f2
  obtain ⟨z3, q3, _, l3⟩ := DataW.trod_int Tryz.underlying3 f3
  obtain ⟨z4, q4, _, l4⟩ := DataW.trod_int Tryz.underlying5 f4
  obtain ⟨z5, q5, _, l5⟩ := DataW.trod_int Tryz.underlying2 f5
  obtain ⟨z6, q6, _, l6⟩ := DataW.trod_int Tryz.underlying3 f6
  obtain ⟨z7, q7, _, l7⟩ := DataW.trod_int Tryz.underlying3 f7
  simp only [List.cons.injEq, and_true] at q0 q1 q3 q4 q5 q6 q7
  subst q0 q1 q3 q4 q5 q6 q7
  refine ⟨(⟨UInt8.ofNat z0.toNat, UInt8.ofNat z1.toNat, sel, z3, UInt8.ofNat z4.toNat, z5, z6, z7⟩, c2), ?_, hsel, i64_le l3⟩
  unfold ndv uv iv
  simp only [u8_of l0, u8_of l1, u8_of l4]
set_option maxRecDepth 100000 in
theorem open_nodes2 {r : Reach} {base0 : Nat} {v : Value} {d : DataW H} {p : List MemPlace} (hv : Value.okWide Tryz.prog w r base0 22 v) (h : DataW.Trod enc Tryz.prog w base (fun _ => true) held 22 v d p) : ∃ l, IsN w v l ∧ ∀ x ∈ l, x.win ≤ 9223372036854775807 := by
  obtain ⟨a, len, cap, rfl⟩ := okWide_slice Tryz.underlying22 hv
  obtain ⟨fuel, hf⟩ := h
  rcases Go.Deep.open_slice Tryz.underlying22 hf with ⟨hcs, _⟩ | ⟨x, l, c, m, n, D, Pl, hcs, _, hl, hm, hmm, _, hx⟩
  · simp [Value.cells] at hcs
    obtain ⟨rfl, rfl, rfl⟩ := hcs
    exact ⟨[], ⟨[], rfl, ⟨by simp, none, 0, rfl, by simp, by simp, .inl rfl⟩, fun p hp => by cases hp⟩, fun x hx => by cases hx⟩
  · simp [Value.cells] at hcs
    obtain ⟨rfl, rfl, rfl⟩ := hcs
    have hm' : m = cap := by simpa using hmm
    rw [cellsNd] at hx
    have hall : ∀ i, i < len → ∃ y : Nd × Value, w.cells? base (x.add (i * 8)) 8 = some (ndv y) ∧ Mat.IsMs w y.2 y.1.sel ∧ y.1.win ≤ 9223372036854775807 := fun i hi => by
      obtain ⟨cs', h1, h2⟩ := hx i (by omega)
      obtain ⟨y, hy, hy2⟩ := cells_node2 h2
      exact ⟨y, by rw [← hy]; exact h1, hy2⟩
    have hch : ∃ Y : Nat → Nd × Value, ∀ i, i < len → w.cells? base (x.add (i * 8)) 8 = some (ndv (Y i)) ∧ Mat.IsMs w (Y i).2 (Y i).1.sel ∧ (Y i).1.win ≤ 9223372036854775807 := by
      refine ⟨fun i => if hi : i < len then Classical.choose (hall i hi) else (⟨0, 0, [], 0, 0, 0, 0, 0⟩, .slice none 0 0), fun i hi => ?_⟩
      simp only [hi, dif_pos]
      exact Classical.choose_spec (hall i hi)
    obtain ⟨Y, hY⟩ := hch
    have hlen : ((List.range len).map Y).length = len := by simp
    have hat : ∀ i y, ((List.range len).map Y)[i]? = some y → i < len ∧ y = Y i := fun i y hy => by
      rw [List.getElem?_map] at hy
      cases hr : (List.range len)[i]? with
      | none => rw [hr] at hy; cases hy
      | some k =>
        rw [hr] at hy
        have hk := List.getElem?_eq_some_iff.1 hr
        obtain ⟨hk1, hk2⟩ := hk
        simp at hk1 hk2
        subst hk2
        exact ⟨hk1, (Option.some.inj hy).symm⟩
    refine ⟨_, ⟨(List.range len).map Y, rfl, ⟨by omega, some x, cap, by rw [hlen], by omega, by omega, ?_⟩, fun y hy => ?_⟩, fun y hy => ?_⟩
    · by_cases h0 : len = 0
      · left; simp [h0]
      · right
        obtain ⟨b, off, spot⟩ := x
        have hsp : spot = none := by
          obtain ⟨h1, _⟩ := hY 0 (by omega)
          have h2 := (World.cells?_some h1).2.2 0 (by decide)
          obtain ⟨u, hu⟩ : ∃ u, w.cell? ((Addr.add ⟨b, off, spot⟩ (0 * 8)).add 0) = some u := by
            rw [h2]
            exact ⟨_, rfl⟩
          simpa [Addr.add] using World.cell?_spot hu
        subst hsp
        refine ⟨b, off, rfl, fun i y hy q u hu => ?_⟩
        obtain ⟨hi, rfl⟩ := hat i y hy
        obtain ⟨h1, _⟩ := hY i hi
        have hq : q < 8 := by have := (List.getElem?_eq_some_iff.1 hu).1; rw [ndv_len] at this; exact this
        have h2 := (World.cells?_some h1).2.2 q hq
        rw [Addr.add_lit, Addr.add_lit, hu] at h2
        exact h2
    · obtain ⟨i, hi⟩ := List.mem_iff_getElem?.1 hy
      obtain ⟨h1, rfl⟩ := hat i y hi
      exact (hY i h1).2.1
    · obtain ⟨q, hq, rfl⟩ := List.mem_map.1 hy
      obtain ⟨i, hi⟩ := List.mem_iff_getElem?.1 hq
      obtain ⟨h1, rfl⟩ := hat i q hi
      exact (hY i h1).2.2
end
end Go.Proofs.YtjhodmpgggaknaaGreatDoor
