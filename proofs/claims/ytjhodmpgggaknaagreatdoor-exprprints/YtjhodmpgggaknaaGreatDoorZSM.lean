import Derived.Test.YtjhodmpgggaknaaGreatDoorZGQ
import Derived.Test.YtjhodmpgggaknaaGreatDoorZGP
import Derived.Test.YtjhodmpgggaknaaGreatDoorZX1
import Derived.Deep.RegionWith
import Derived.Deep.RegionHeld3
/- The document's own Same. -/
namespace Go.Proofs.YtjhodmpgggaknaaGreatDoor
open Go.RowKit Go.Shelf Go.Maps
theorem bne_no {a b : UInt8} (h : a = b) : ((a.toNat : Int) != (b.toNat : Int)) = false := by subst h; simp
theorem bne_yes {a b : UInt8} (h : ¬ a = b) : ((a.toNat : Int) != (b.toNat : Int)) = true := by
  have h2 : a.toNat ≠ b.toNat := fun e => h (UInt8.toNat_inj.1 e)
  rw [bne_iff_ne]
  omega
set_option maxRecDepth 100000 in
set_option maxHeartbeats 4000000 in
theorem rsame_any {w : World} {v u : Value} {ns ms : List Nd} (h : IsN w v ns) (k : IsN w u ms) : Calls Tryz.prog 11 #[v, u] w fun e w' => e = .returned (.bool (sameN ns ms)) ∧ Below w.heap.size w w' := by
  obtain ⟨a, c, rfl⟩ := h.slice
  obtain ⟨a2, c2, rfl⟩ := k.slice
  by_cases hl : ns.length = ms.length
  · have q : ((ns.length : Int) != (ms.length : Int)) = false := by simp [hl]
    obtain ⟨-, hb1, hb2⟩ := h.bound
    obtain ⟨-, kb1, kb2⟩ := k.bound
    have hN := hid h
    have hM := hid k
    have hl' := hid hl
    clear h k hl
    go_enter Tryz.func11, Tryz.ntmps11
    go_wp2_with fail
    clear q
    go_loopw [5] (fun iv wr => ∃ k : Nat, iv = .int .i64 (k : Int) ∧ k ≤ ns.length ∧ Below w.heap.size w wr ∧ ∀ i, i < k → ns[i]? = ms[i]?) (fun iv _ => ns.length - (intOf iv).toNat)
    case atStart => exact ⟨0, rfl, by omega, Below.refl _ _, fun i hi => by omega⟩
    case round =>
      obtain ⟨k, rfl, hk, hlow, heq⟩ := hrel
      replace heq := hid heq
      by_cases hkn : (k : Int) < (ns.length : Int)
      · have hkn' : k < ns.length := by omega
        have hkm' : k < ms.length := by have := hl'.out; omega
        obtain ⟨b, off, rfl, hcs⟩ := (hN.out.below hlow).at hkn'
        obtain ⟨b2, off2, rfl, hcs2⟩ := (hM.out.below hlow).at hkm'
        obtain ⟨x, hx⟩ : ∃ x, ns[k]? = some x := ⟨_, List.getElem?_eq_getElem hkn'⟩
        obtain ⟨y, hy⟩ : ∃ y, ms[k]? = some y := ⟨_, List.getElem?_eq_getElem hkm'⟩
        obtain ⟨s, ⟨x0, x1, x2, x3, x4, x5, x6, x7⟩, hms⟩ := hcs k x hx
        obtain ⟨s2, ⟨y0, y1, y2, y3, y4, y5, y6, y7⟩, hms2⟩ := hcs2 k y hy
        obtain ⟨sa, sc, rfl⟩ := hms.slice
        obtain ⟨sb, sd, rfl⟩ := hms2.slice
        replace hms := hid hms
        replace hms2 := hid hms2
        replace hlow := hid hlow
        replace hx := hid hx
        replace hy := hid hy
        have hkm : (k : Int) < (ms.length : Int) := by omega
        have hsm : Hid (∀ W, Below wr.heap.size wr W → Calls Tryz.prog 24 #[.slice sa x.sel.length sc, .slice sb y.sel.length sd] W fun e w' => e = .returned (.bool (x.sel == y.sel)) ∧ ∃ n, w' = W.drewN n ∧ Below wr.heap.size wr (W.drewN n)) := fun W hb => (Mat.sameM_any _ _ _ _ W (hms.out.below hb) (hms2.out.below hb)).mono (by
          rintro e w' ⟨rfl, n, rfl⟩
          exact ⟨rfl, n, rfl, low2 hb (below_drewN (Below.refl _ _))⟩)
        have hno : Hid (x ≠ y → sameN ns ms = false) := fun h => sameN_ne fun e => by
          have e1 := hx.out
          rw [e, hy.out] at e1
          exact h (Option.some.inj e1.symm)
        have hyes : Hid (x = y → ∀ i, i < k + 1 → ns[i]? = ms[i]?) := fun h i hi => by
          by_cases hik : i = k
          · subst hik; rw [hx.out, hy.out, h]
          · exact heq.out i (by omega)
        have hal := hid (fun (A B : Obj) => low2 (low2 (alloc_below wr A) (alloc_below (wr.alloc A) B)) (below_drew (Below.refl _ ((wr.alloc A).alloc B))))
        have hal3 := hid (fun (A B : Obj) (n : Nat) => low2 (low2 (alloc_below wr A) (alloc_below (wr.alloc A) B)) (below_drewN (n := n) (Below.refl _ ((wr.alloc A).alloc B))))
        have hlow2 := hid (fun W (hb : Below wr.heap.size wr W) => low2 hlow.out hb)
        clear hcs hcs2
        go_wp2_with fail
        go_region_held3 (fun w' => w'.cell? ⟨b, off + k * 8, none⟩ = some (.int .u8 (x.kind.toNat : Int)) ∧ w'.cell? ⟨b, off + k * 8 + 1, none⟩ = some (.int .u8 (x.agg.toNat : Int)) ∧ w'.cell? ⟨b, off + k * 8 + 2, none⟩ = some (.slice sa x.sel.length sc) ∧ w'.cell? ⟨b, off + k * 8 + 3, none⟩ = some (.int .i64 x.win) ∧ w'.cell? ⟨b, off + k * 8 + 4, none⟩ = some (.int .u8 (x.cmp.toNat : Int)) ∧ w'.cell? ⟨b, off + k * 8 + 5, none⟩ = some (.int .i64 x.val) ∧ w'.cell? ⟨b, off + k * 8 + 6, none⟩ = some (.int .i64 x.left) ∧ w'.cell? ⟨b, off + k * 8 + 7, none⟩ = some (.int .i64 x.right) ∧ w'.cell? ⟨b2, off2 + k * 8, none⟩ = some (.int .u8 (y.kind.toNat : Int)) ∧ w'.cell? ⟨b2, off2 + k * 8 + 1, none⟩ = some (.int .u8 (y.agg.toNat : Int)) ∧ w'.cell? ⟨b2, off2 + k * 8 + 2, none⟩ = some (.slice sb y.sel.length sd) ∧ w'.cell? ⟨b2, off2 + k * 8 + 3, none⟩ = some (.int .i64 y.win) ∧ w'.cell? ⟨b2, off2 + k * 8 + 4, none⟩ = some (.int .u8 (y.cmp.toNat : Int)) ∧ w'.cell? ⟨b2, off2 + k * 8 + 5, none⟩ = some (.int .i64 y.val) ∧ w'.cell? ⟨b2, off2 + k * 8 + 6, none⟩ = some (.int .i64 y.left) ∧ w'.cell? ⟨b2, off2 + k * 8 + 7, none⟩ = some (.int .i64 y.right)) (go_keep) (fail)
        all_goals
          by_cases hkind : x.kind = y.kind
          · have qkind : ((x.kind.toNat : Int) != (y.kind.toNat : Int)) = false := bne_no hkind
            replace hkind := hid hkind
            by_cases hagg : x.agg = y.agg
            · have qagg : ((x.agg.toNat : Int) != (y.agg.toNat : Int)) = false := bne_no hagg
              replace hagg := hid hagg
              go_wp2_with fail
              refine (hsm.out _ (hal.out _ _)).mono ?_
              rintro e w2 ⟨rfl, nn, rfl, -⟩
              by_cases hsel : x.sel = y.sel
              · have qsel : (x.sel == y.sel) = true := by simp [hsel]
                rw [qsel]
                replace hsel := hid hsel
                by_cases hwin : x.win = y.win
                · have qwin : (x.win != y.win) = false := by simp [hwin]
                  replace hwin := hid hwin
                  by_cases hcmp : x.cmp = y.cmp
                  · have qcmp : ((x.cmp.toNat : Int) != (y.cmp.toNat : Int)) = false := bne_no hcmp
                    replace hcmp := hid hcmp
                    by_cases hval : x.val = y.val
                    · have qval : (x.val != y.val) = false := by simp [hval]
                      replace hval := hid hval
                      by_cases hleft : x.left = y.left
                      · have qleft : (x.left != y.left) = false := by simp [hleft]
                        replace hleft := hid hleft
                        by_cases hright : x.right = y.right
                        · have qright : (x.right != y.right) = false := by simp [hright]
                          replace hright := hid hright
                          have hxy : x = y := by
                            obtain ⟨a0, a1, a2, a3, a4, a5, a6, a7⟩ := x
                            obtain ⟨b0, b1, b2, b3, b4, b5, b6, b7⟩ := y
                            exact Nd.mk.injEq .. ▸ ⟨hkind.out, hagg.out, hsel.out, hwin.out, hcmp.out, hval.out, hleft.out, hright.out⟩
                          have hfin := hid (hyes.out hxy)
                          clear hxy hno hyes
                          go_wp2
                          exact ⟨⟨k + 1, by simp, by omega, hlow2.out _ (hal3.out _ _ _), hfin.out⟩, by simp [intOf]; omega⟩
                        · have qright : (x.right != y.right) = true := by simp [hright]
                          have hfin := hid (hno.out (fun e => hright (by rw [e])))
                          clear hno hyes hright
                          go_wp2
                          go_ret
                          exact ⟨congrArg (fun b => Ending.returned (.bool b)) hfin.out.symm, hlow2.out _ (hal3.out _ _ _)⟩
                      · have qleft : (x.left != y.left) = true := by simp [hleft]
                        have hfin := hid (hno.out (fun e => hleft (by rw [e])))
                        clear hno hyes hleft
                        go_wp2
                        go_ret
                        exact ⟨congrArg (fun b => Ending.returned (.bool b)) hfin.out.symm, hlow2.out _ (hal3.out _ _ _)⟩
                    · have qval : (x.val != y.val) = true := by simp [hval]
                      have hfin := hid (hno.out (fun e => hval (by rw [e])))
                      clear hno hyes hval
                      go_wp2
                      go_ret
                      exact ⟨congrArg (fun b => Ending.returned (.bool b)) hfin.out.symm, hlow2.out _ (hal3.out _ _ _)⟩
                  · have qcmp : ((x.cmp.toNat : Int) != (y.cmp.toNat : Int)) = true := bne_yes hcmp
                    have hfin := hid (hno.out (fun e => hcmp (by rw [e])))
                    clear hno hyes hcmp
                    go_wp2
                    go_ret
                    exact ⟨congrArg (fun b => Ending.returned (.bool b)) hfin.out.symm, hlow2.out _ (hal3.out _ _ _)⟩
                · have qwin : (x.win != y.win) = true := by simp [hwin]
                  have hfin := hid (hno.out (fun e => hwin (by rw [e])))
                  clear hno hyes hwin
                  go_wp2
                  go_ret
                  exact ⟨congrArg (fun b => Ending.returned (.bool b)) hfin.out.symm, hlow2.out _ (hal3.out _ _ _)⟩
              · have qsel : (x.sel == y.sel) = false := by simpa using hsel
                rw [qsel]
                have hfin := hid (hno.out (fun e => hsel (by rw [e])))
                clear hno hyes hsel
                go_wp2
                go_ret
                exact ⟨congrArg (fun b => Ending.returned (.bool b)) hfin.out.symm, hlow2.out _ (hal3.out _ _ _)⟩
            · have qagg : ((x.agg.toNat : Int) != (y.agg.toNat : Int)) = true := bne_yes hagg
              have hfin := hid (hno.out (fun e => hagg (by rw [e])))
              clear hno hyes hagg
              go_wp2
              go_ret
              exact ⟨congrArg (fun b => Ending.returned (.bool b)) hfin.out.symm, hlow2.out _ (hal.out _ _)⟩
          · have qkind : ((x.kind.toNat : Int) != (y.kind.toNat : Int)) = true := bne_yes hkind
            have hfin := hid (hno.out (fun e => hkind (by rw [e])))
            clear hno hyes hkind
            go_wp2
            go_ret
            exact ⟨congrArg (fun b => Ending.returned (.bool b)) hfin.out.symm, hlow2.out _ (hal.out _ _)⟩
      · obtain rfl : k = ns.length := by omega
        have hfin : Hid (sameN ns ms = true) := by
          show _ = _
          rw [sameN_iff]
          apply List.ext_getElem?
          intro i
          by_cases hi : i < ns.length
          · exact heq.out i hi
          · rw [List.getElem?_eq_none (by omega), List.getElem?_eq_none (by have := hl'.out; omega)]
        replace hlow := hid hlow
        go_wp2
        go_ret
        exact ⟨congrArg (fun b => Ending.returned (.bool b)) hfin.out.symm, hlow.out⟩
  · have q : ((ns.length : Int) != (ms.length : Int)) = true := by simp; omega
    have hs : Hid (sameN ns ms = false) := sameN_ne fun e => hl (by rw [e])
    clear h k hl
    go_enter Tryz.func11, Tryz.ntmps11
    go_wp2
    go_ret
    exact ⟨congrArg (fun b => Ending.returned (.bool b)) hs.out.symm, Below.refl _ _⟩
end Go.Proofs.YtjhodmpgggaknaaGreatDoor
