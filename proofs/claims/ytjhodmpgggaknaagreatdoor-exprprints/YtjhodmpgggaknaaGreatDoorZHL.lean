/- Joined: ZX3 ZSM ZHI ZHJ. -/
import Derived.Test.YtjhodmpgggaknaaGreatDoorZX1
import Derived.Test.YtjhodmpgggaknaaGreatDoorZGK
import Derived.Deep.RegionHeld3
import Derived.Test.YtjhodmpgggaknaaGreatDoorZGQ
import Derived.Test.YtjhodmpgggaknaaGreatDoorZGP
import Derived.Deep.RegionWith
import Derived.Test.YtjhodmpgggaknaaGreatDoorZHB
import Derived.BigQuiet
import Derived.Test.YtjhodmpgggaknaaGreatDoorZG2
/- Contract of the document's Print. -/
namespace Go.Proofs.YtjhodmpgggaknaaGreatDoor.Mat
open Go.RowKit Go.Shelf

theorem joinM_take (l : List Mt) {j : Nat} {x : Mt} (hx : l[j]? = some x) : Lib.join ((l.take (j + 1)).map itemM) [44] = (if 0 < j then Lib.join ((l.take j).map itemM) [44] ++ [44] else []) ++ itemM x := by
  obtain ⟨hj, rfl⟩ := List.getElem?_eq_some_iff.1 hx
  cases l with
  | nil => simp at hj
  | cons y r =>
    cases j with
    | zero => simp [Lib.join_one]
    | succ j =>
      rw [if_pos (by omega), List.take_succ_cons, List.take_succ_cons, List.map_cons, List.map_cons, Lib.join_cons, Lib.join_cons]
      rw [List.take_succ_eq_append_getElem (by simpa using hj), List.map_append, Lib.joinTail, Lib.joinTail, List.map_append, List.flatten_append]
      simp
theorem joinM_le (l : List Mt) (j : Nat) : (Lib.join ((l.take j).map itemM) [44]).length ≤ (Lib.join (l.map itemM) [44]).length := by
  cases l with
  | nil => simp
  | cons y r =>
    cases j with
    | zero => simp [Lib.join]
    | succ j =>
      rw [List.take_succ_cons, List.map_cons, List.map_cons, Lib.join_cons, Lib.join_cons, List.length_append, List.length_append, List.map_take]
      have := Lib.joinTail_take_le [44] (r.map itemM) j
      omega
set_option maxRecDepth 100000 in
set_option maxHeartbeats 4000000 in
theorem rprint_any (v : Value) (m : List Mt) (w : World) (h : IsMs w v m) (hp : (printM m).length ≤ 35184372088832) : Calls Tryz.prog 28 #[v] w fun e w' => e = .returned (str (printM m)) ∧ ∃ n, w' = w.drewN n := by
  obtain ⟨a, c, rfl⟩ := h.slice
  obtain ⟨-, hb⟩ := h.bound
  replace h := hid h
  rw [printM_len] at hp
  go_enter Tryz.func28, Tryz.ntmps28
  go_wp2
  go_loopw [3, 4] (fun sv iv wr => ∃ (j q : Nat) (z : Tx), j ≤ m.length ∧ iv = .int .i64 (j : Int) ∧ sv = .string ⟨z.toArray⟩ ∧ Hid (z = 123 :: Lib.join ((m.take j).map itemM) [44]) ∧ wr = w.drewN q) (fun _ iv _ => m.length - (intOf iv).toNat)
  case atStart => exact ⟨0, 0, [123], by omega, rfl, rfl, rfl, rfl⟩
  case round =>
    obtain ⟨j, q, z, hj, rfl, rfl, hz, rfl⟩ := hrel
    have hzl : z.length ≤ 35184372088833 := by
      have := joinM_le m j
      rw [hz.out, List.length_cons]
      omega
    by_cases hlt : j < m.length
    · have hlt' : (j : Int) < (m.length : Int) := by omega
      obtain ⟨b, off, rfl, hc⟩ := h.out.at hlt
      obtain ⟨⟨xn, xo, xv⟩, hx⟩ : ∃ x, m[j]? = some x := ⟨_, List.getElem?_eq_getElem hlt⟩
      obtain ⟨c0, c1, c2⟩ := hc j _ hx
      have hit := itemM_in m (List.mem_of_getElem? hx)
      have hil := (itemM_len (xn, xo, xv)).1
      have hjt := joinM_take m hx
      simp only at c0 c1 c2 hil
      have hq := hid (fun w => rquote_any xv w (by omega))
      have hsg := hid (rsign_any xo)
      have hxnl : xn.length ≤ 35184372088832 := by omega
      have hql : (quote xv).length ≤ 70368744177666 := by have := quote_len xv; omega
      have hsl := (opS_len xo).2
      unfold str opv at *
      generalize hso : opS xo = so at *
      by_cases hj0 : 0 < j
      · have d1 : decide (0 < (j : Int)) = true := by simp; omega
        have d2 : decide (0 < j) = true := by simp; omega
        have hz' : Hid (z ++ [44] ++ xn ++ so ++ quote xv = 123 :: Lib.join ((m.take (j + 1)).map itemM) [44]) := by
          unfold Hid
          rw [hjt, if_pos hj0, hz.out]
          simp [itemM, hso]
        have hs : Hid ((⟨z.toArray⟩ : ByteArray) ++ ⟨#[44]⟩ ++ ⟨xn.toArray⟩ ++ ⟨so.toArray⟩ ++ ⟨(quote xv).toArray⟩ = ⟨(z ++ [44] ++ xn ++ so ++ quote xv).toArray⟩) := by
          unfold Hid
          rw [show (⟨#[44]⟩ : ByteArray) = ⟨([44] : Tx).toArray⟩ from rfl, app_str, app_str, app_str, app_str]
        have k1 : (9223372036854775807 < z.length + 1 + xn.length) = False := eq_false (by omega)
        have k2 : (9223372036854775807 < z.length + 1 + xn.length + so.length) = False := eq_false (by omega)
        have k3 : (9223372036854775807 < z.length + 1 + xn.length + so.length + (quote xv).length) = False := eq_false (by omega)
        clear hz hjt hit hil hc hx hj0 hso
        go_wp2_with fail
        go_region_held3 (fun w' => w'.cell? ⟨b, off + j * 3, none⟩ = some (.string ⟨xn.toArray⟩) ∧ w'.cell? ⟨b, off + j * 3 + 1, none⟩ = some (.int .u8 (xo.toNat : Int)) ∧ w'.cell? ⟨b, off + j * 3 + 2, none⟩ = some (.string ⟨xv.toArray⟩)) (go_keep) (first | (go_at_call 47; refine (hsg.out _).mono ?_; rintro e w' ⟨rfl, rfl⟩) | (go_at_call 48; refine (hq.out _).mono ?_; rintro e w' ⟨rfl, rfl⟩))
        all_goals go_wp2
        all_goals exact ⟨⟨j + 1, q + 1, _, by omega, by go_num, congrArg Value.string hs.out, hz', rfl⟩, by simp [intOf]; omega⟩
      · have d1 : decide (0 < (j : Int)) = false := by simp; omega
        have d2 : decide (0 < j) = false := by simp; omega
        have hz' : Hid (z ++ xn ++ so ++ quote xv = 123 :: Lib.join ((m.take (j + 1)).map itemM) [44]) := by
          unfold Hid
          rw [hjt, if_neg hj0, hz.out, show j = 0 by omega]
          simp [itemM, Lib.join, hso]
        have hs : Hid ((⟨z.toArray⟩ : ByteArray) ++ ⟨xn.toArray⟩ ++ ⟨so.toArray⟩ ++ ⟨(quote xv).toArray⟩ = ⟨(z ++ xn ++ so ++ quote xv).toArray⟩) := by
          unfold Hid
          rw [app_str, app_str, app_str]
        have k1 : (9223372036854775807 < z.length + xn.length) = False := eq_false (by omega)
        have k2 : (9223372036854775807 < z.length + xn.length + so.length) = False := eq_false (by omega)
        have k3 : (9223372036854775807 < z.length + xn.length + so.length + (quote xv).length) = False := eq_false (by omega)
        clear hz hjt hit hil hc hx hj0 hso
        go_wp2_with fail
        go_region_held3 (fun w' => w'.cell? ⟨b, off + j * 3, none⟩ = some (.string ⟨xn.toArray⟩) ∧ w'.cell? ⟨b, off + j * 3 + 1, none⟩ = some (.int .u8 (xo.toNat : Int)) ∧ w'.cell? ⟨b, off + j * 3 + 2, none⟩ = some (.string ⟨xv.toArray⟩)) (go_keep) (first | (go_at_call 47; refine (hsg.out _).mono ?_; rintro e w' ⟨rfl, rfl⟩) | (go_at_call 48; refine (hq.out _).mono ?_; rintro e w' ⟨rfl, rfl⟩))
        all_goals go_wp2
        all_goals exact ⟨⟨j + 1, q + 1, _, by omega, by go_num, congrArg Value.string hs.out, hz', rfl⟩, by simp [intOf]; omega⟩
    · have hlt' : ¬ (j : Int) < (m.length : Int) := by omega
      obtain rfl : j = m.length := by omega
      have hnew : Hid (Value.string (⟨z.toArray⟩ ++ ⟨#[125]⟩) = .string ⟨(printM m).toArray⟩) := by
        unfold Hid
        rw [show (⟨#[125]⟩ : ByteArray) = ⟨([125] : Tx).toArray⟩ from rfl, app_str, hz.out, List.take_length]
        simp [printM]
      clear hz
      go_wp2
      go_ret
      exact ⟨congrArg Ending.returned hnew.out, q, rfl⟩
end Go.Proofs.YtjhodmpgggaknaaGreatDoor.Mat

/- The document's own Same. -/
namespace Go.Proofs.YtjhodmpgggaknaaGreatDoor
open Go.RowKit Go.Shelf Go.Maps
theorem bne_no {a b : UInt8} (h : a = b) : ((a.toNat : Int) != (b.toNat : Int)) = false := by subst h; simp
theorem bne_yes {a b : UInt8} (h : ¬ a = b) : ((a.toNat : Int) != (b.toNat : Int)) = true := by
  have h2 : a.toNat ≠ b.toNat := fun e => h (UInt8.toNat_inj.1 e)
  rw [bne_iff_ne]
  omega
set_option maxRecDepth 100000 in
set_option maxHeartbeats 4000000 in
theorem rsame_any {w : World} {v u : Value} {ns ms : List Nd} (h : IsN w v ns) (k : IsN w u ms) : Calls Tryz.prog 11 #[v, u] w fun e w' => e = .returned (.bool (sameN ns ms)) ∧ Below w.heap.size w w' := by
  obtain ⟨a, c, rfl⟩ := h.slice
  obtain ⟨a2, c2, rfl⟩ := k.slice
  by_cases hl : ns.length = ms.length
  · have q : ((ns.length : Int) != (ms.length : Int)) = false := by simp [hl]
    obtain ⟨-, hb1, hb2⟩ := h.bound
    obtain ⟨-, kb1, kb2⟩ := k.bound
    have hN := hid h
    have hM := hid k
    have hl' := hid hl
    clear h k hl
    go_enter Tryz.func11, Tryz.ntmps11
    go_wp2_with fail
    clear q
    go_loopw [5] (fun iv wr => ∃ k : Nat, iv = .int .i64 (k : Int) ∧ k ≤ ns.length ∧ Below w.heap.size w wr ∧ ∀ i, i < k → ns[i]? = ms[i]?) (fun iv _ => ns.length - (intOf iv).toNat)
    case atStart => exact ⟨0, rfl, by omega, Below.refl _ _, fun i hi => by omega⟩
    case round =>
      obtain ⟨k, rfl, hk, hlow, heq⟩ := hrel
      replace heq := hid heq
      by_cases hkn : (k : Int) < (ns.length : Int)
      · have hkn' : k < ns.length := by omega
        have hkm' : k < ms.length := by have := hl'.out; omega
        obtain ⟨b, off, rfl, hcs⟩ := (hN.out.below hlow).at hkn'
        obtain ⟨b2, off2, rfl, hcs2⟩ := (hM.out.below hlow).at hkm'
        obtain ⟨x, hx⟩ : ∃ x, ns[k]? = some x := ⟨_, List.getElem?_eq_getElem hkn'⟩
        obtain ⟨y, hy⟩ : ∃ y, ms[k]? = some y := ⟨_, List.getElem?_eq_getElem hkm'⟩
        obtain ⟨s, ⟨x0, x1, x2, x3, x4, x5, x6, x7⟩, hms⟩ := hcs k x hx
        obtain ⟨s2, ⟨y0, y1, y2, y3, y4, y5, y6, y7⟩, hms2⟩ := hcs2 k y hy
        obtain ⟨sa, sc, rfl⟩ := hms.slice
        obtain ⟨sb, sd, rfl⟩ := hms2.slice
        replace hms := hid hms
        replace hms2 := hid hms2
        replace hlow := hid hlow
        replace hx := hid hx
        replace hy := hid hy
        have hkm : (k : Int) < (ms.length : Int) := by omega
        have hsm : Hid (∀ W, Below wr.heap.size wr W → Calls Tryz.prog 24 #[.slice sa x.sel.length sc, .slice sb y.sel.length sd] W fun e w' => e = .returned (.bool (x.sel == y.sel)) ∧ ∃ n, w' = W.drewN n ∧ Below wr.heap.size wr (W.drewN n)) := fun W hb => (Mat.sameM_any _ _ _ _ W (hms.out.below hb) (hms2.out.below hb)).mono (by
          rintro e w' ⟨rfl, n, rfl⟩
          exact ⟨rfl, n, rfl, low2 hb (below_drewN (Below.refl _ _))⟩)
        have hno : Hid (x ≠ y → sameN ns ms = false) := fun h => sameN_ne fun e => by
          have e1 := hx.out
          rw [e, hy.out] at e1
          exact h (Option.some.inj e1.symm)
        have hyes : Hid (x = y → ∀ i, i < k + 1 → ns[i]? = ms[i]?) := fun h i hi => by
          by_cases hik : i = k
          · subst hik; rw [hx.out, hy.out, h]
          · exact heq.out i (by omega)
        have hal := hid (fun (A B : Obj) => low2 (low2 (alloc_below wr A) (alloc_below (wr.alloc A) B)) (below_drew (Below.refl _ ((wr.alloc A).alloc B))))
        have hal3 := hid (fun (A B : Obj) (n : Nat) => low2 (low2 (alloc_below wr A) (alloc_below (wr.alloc A) B)) (below_drewN (n := n) (Below.refl _ ((wr.alloc A).alloc B))))
        have hlow2 := hid (fun W (hb : Below wr.heap.size wr W) => low2 hlow.out hb)
        clear hcs hcs2
        go_wp2_with fail
        go_region_held3 (fun w' => w'.cell? ⟨b, off + k * 8, none⟩ = some (.int .u8 (x.kind.toNat : Int)) ∧ w'.cell? ⟨b, off + k * 8 + 1, none⟩ = some (.int .u8 (x.agg.toNat : Int)) ∧ w'.cell? ⟨b, off + k * 8 + 2, none⟩ = some (.slice sa x.sel.length sc) ∧ w'.cell? ⟨b, off + k * 8 + 3, none⟩ = some (.int .i64 x.win) ∧ w'.cell? ⟨b, off + k * 8 + 4, none⟩ = some (.int .u8 (x.cmp.toNat : Int)) ∧ w'.cell? ⟨b, off + k * 8 + 5, none⟩ = some (.int .i64 x.val) ∧ w'.cell? ⟨b, off + k * 8 + 6, none⟩ = some (.int .i64 x.left) ∧ w'.cell? ⟨b, off + k * 8 + 7, none⟩ = some (.int .i64 x.right) ∧ w'.cell? ⟨b2, off2 + k * 8, none⟩ = some (.int .u8 (y.kind.toNat : Int)) ∧ w'.cell? ⟨b2, off2 + k * 8 + 1, none⟩ = some (.int .u8 (y.agg.toNat : Int)) ∧ w'.cell? ⟨b2, off2 + k * 8 + 2, none⟩ = some (.slice sb y.sel.length sd) ∧ w'.cell? ⟨b2, off2 + k * 8 + 3, none⟩ = some (.int .i64 y.win) ∧ w'.cell? ⟨b2, off2 + k * 8 + 4, none⟩ = some (.int .u8 (y.cmp.toNat : Int)) ∧ w'.cell? ⟨b2, off2 + k * 8 + 5, none⟩ = some (.int .i64 y.val) ∧ w'.cell? ⟨b2, off2 + k * 8 + 6, none⟩ = some (.int .i64 y.left) ∧ w'.cell? ⟨b2, off2 + k * 8 + 7, none⟩ = some (.int .i64 y.right)) (go_keep) (fail)
        all_goals
          by_cases hkind : x.kind = y.kind
          · have qkind : ((x.kind.toNat : Int) != (y.kind.toNat : Int)) = false := bne_no hkind
            replace hkind := hid hkind
            by_cases hagg : x.agg = y.agg
            · have qagg : ((x.agg.toNat : Int) != (y.agg.toNat : Int)) = false := bne_no hagg
              replace hagg := hid hagg
              go_wp2_with fail
              refine (hsm.out _ (hal.out _ _)).mono ?_
              rintro e w2 ⟨rfl, nn, rfl, -⟩
              by_cases hsel : x.sel = y.sel
              · have qsel : (x.sel == y.sel) = true := by simp [hsel]
                rw [qsel]
                replace hsel := hid hsel
                by_cases hwin : x.win = y.win
                · have qwin : (x.win != y.win) = false := by simp [hwin]
                  replace hwin := hid hwin
                  by_cases hcmp : x.cmp = y.cmp
                  · have qcmp : ((x.cmp.toNat : Int) != (y.cmp.toNat : Int)) = false := bne_no hcmp
                    replace hcmp := hid hcmp
                    by_cases hval : x.val = y.val
                    · have qval : (x.val != y.val) = false := by simp [hval]
                      replace hval := hid hval
                      by_cases hleft : x.left = y.left
                      · have qleft : (x.left != y.left) = false := by simp [hleft]
                        replace hleft := hid hleft
                        by_cases hright : x.right = y.right
                        · have qright : (x.right != y.right) = false := by simp [hright]
                          replace hright := hid hright
                          have hxy : x = y := by
                            obtain ⟨a0, a1, a2, a3, a4, a5, a6, a7⟩ := x
                            obtain ⟨b0, b1, b2, b3, b4, b5, b6, b7⟩ := y
                            exact Nd.mk.injEq .. ▸ ⟨hkind.out, hagg.out, hsel.out, hwin.out, hcmp.out, hval.out, hleft.out, hright.out⟩
                          have hfin := hid (hyes.out hxy)
                          clear hxy hno hyes
                          go_wp2
                          exact ⟨⟨k + 1, by simp, by omega, hlow2.out _ (hal3.out _ _ _), hfin.out⟩, by simp [intOf]; omega⟩
                        · have qright : (x.right != y.right) = true := by simp [hright]
                          have hfin := hid (hno.out (fun e => hright (by rw [e])))
                          clear hno hyes hright
                          go_wp2
                          go_ret
                          exact ⟨congrArg (fun b => Ending.returned (.bool b)) hfin.out.symm, hlow2.out _ (hal3.out _ _ _)⟩
                      · have qleft : (x.left != y.left) = true := by simp [hleft]
                        have hfin := hid (hno.out (fun e => hleft (by rw [e])))
                        clear hno hyes hleft
                        go_wp2
                        go_ret
                        exact ⟨congrArg (fun b => Ending.returned (.bool b)) hfin.out.symm, hlow2.out _ (hal3.out _ _ _)⟩
                    · have qval : (x.val != y.val) = true := by simp [hval]
                      have hfin := hid (hno.out (fun e => hval (by rw [e])))
                      clear hno hyes hval
                      go_wp2
                      go_ret
                      exact ⟨congrArg (fun b => Ending.returned (.bool b)) hfin.out.symm, hlow2.out _ (hal3.out _ _ _)⟩
                  · have qcmp : ((x.cmp.toNat : Int) != (y.cmp.toNat : Int)) = true := bne_yes hcmp
                    have hfin := hid (hno.out (fun e => hcmp (by rw [e])))
                    clear hno hyes hcmp
                    go_wp2
                    go_ret
                    exact ⟨congrArg (fun b => Ending.returned (.bool b)) hfin.out.symm, hlow2.out _ (hal3.out _ _ _)⟩
                · have qwin : (x.win != y.win) = true := by simp [hwin]
                  have hfin := hid (hno.out (fun e => hwin (by rw [e])))
                  clear hno hyes hwin
                  go_wp2
                  go_ret
                  exact ⟨congrArg (fun b => Ending.returned (.bool b)) hfin.out.symm, hlow2.out _ (hal3.out _ _ _)⟩
              · have qsel : (x.sel == y.sel) = false := by simpa using hsel
                rw [qsel]
                have hfin := hid (hno.out (fun e => hsel (by rw [e])))
                clear hno hyes hsel
                go_wp2
                go_ret
                exact ⟨congrArg (fun b => Ending.returned (.bool b)) hfin.out.symm, hlow2.out _ (hal3.out _ _ _)⟩
            · have qagg : ((x.agg.toNat : Int) != (y.agg.toNat : Int)) = true := bne_yes hagg
              have hfin := hid (hno.out (fun e => hagg (by rw [e])))
              clear hno hyes hagg
              go_wp2
              go_ret
              exact ⟨congrArg (fun b => Ending.returned (.bool b)) hfin.out.symm, hlow2.out _ (hal.out _ _)⟩
          · have qkind : ((x.kind.toNat : Int) != (y.kind.toNat : Int)) = true := bne_yes hkind
            have hfin := hid (hno.out (fun e => hkind (by rw [e])))
            clear hno hyes hkind
            go_wp2
            go_ret
            exact ⟨congrArg (fun b => Ending.returned (.bool b)) hfin.out.symm, hlow2.out _ (hal.out _ _)⟩
      · obtain rfl : k = ns.length := by omega
        have hfin : Hid (sameN ns ms = true) := by
          show _ = _
          rw [sameN_iff]
          apply List.ext_getElem?
          intro i
          by_cases hi : i < ns.length
          · exact heq.out i hi
          · rw [List.getElem?_eq_none (by omega), List.getElem?_eq_none (by have := hl'.out; omega)]
        replace hlow := hid hlow
        go_wp2
        go_ret
        exact ⟨congrArg (fun b => Ending.returned (.bool b)) hfin.out.symm, hlow.out⟩
  · have q : ((ns.length : Int) != (ms.length : Int)) = true := by simp; omega
    have hs : Hid (sameN ns ms = false) := sameN_ne fun e => hl (by rw [e])
    clear h k hl
    go_enter Tryz.func11, Tryz.ntmps11
    go_wp2
    go_ret
    exact ⟨congrArg (fun b => Ending.returned (.bool b)) hs.out.symm, Below.refl _ _⟩
end Go.Proofs.YtjhodmpgggaknaaGreatDoor

/- Contract of the law's great, with what it says of the texts' lengths. -/
namespace Go.Proofs.YtjhodmpgggaknaaGreatDoor
open Go.RowKit Go.Shelf Go.Maps

def SmallN (x : Nd) : Prop := x.sel.length ≤ 100 ∧ ∀ m ∈ x.sel, m.1.length ≤ 5000 ∧ m.2.2.length ≤ 5000
def Great2 (ns : List Nd) (w : World) (e : Ending) (w' : World) : Prop := ∃ g, e = .returned (.bool g) ∧ Below w.heap.size w w' ∧ (g = false → ns.length ≤ 100 ∧ ∀ x ∈ ns, SmallN x)
def SmallTo (ns : List Nd) (k : Nat) : Prop := ∀ i x, i < k → ns[i]? = some x → SmallN x
def SmallM (l : List Mat.Mt) (j : Nat) : Prop := ∀ i m, i < j → l[i]? = some m → m.1.length ≤ 5000 ∧ m.2.2.length ≤ 5000
theorem smallTo_all {ns : List Nd} (h : SmallTo ns ns.length) : ∀ x ∈ ns, SmallN x := fun x hx => by
  obtain ⟨i, hi, e⟩ := List.mem_iff_getElem.1 hx
  exact h i x hi (by rw [List.getElem?_eq_getElem hi, e])
theorem smallM_all {l : List Mat.Mt} (h : SmallM l l.length) : ∀ m ∈ l, m.1.length ≤ 5000 ∧ m.2.2.length ≤ 5000 := fun x hx => by
  obtain ⟨i, hi, e⟩ := List.mem_iff_getElem.1 hx
  exact h i x hi (by rw [List.getElem?_eq_getElem hi, e])
set_option maxRecDepth 100000 in
set_option maxHeartbeats 4000000 in
theorem great2_any {w : World} {v : Value} {ns : List Nd} (h : IsN w v ns) : Calls Tryz.prog 12 #[v] w (Great2 ns w) := by
  obtain ⟨a, c, rfl⟩ := h.slice
  obtain ⟨-, hb1, hb2⟩ := h.bound
  by_cases h1 : 100 < ns.length
  · have q : decide ((100 : Int) < (ns.length : Int)) = true := decide_eq_true (by omega)
    clear h
    go_enter Tryz.func12, Tryz.ntmps12
    go_wp2
    go_ret
    exact ⟨true, rfl, Below.refl _ _, fun e => by cases e⟩
  · have q : decide ((100 : Int) < (ns.length : Int)) = false := decide_eq_false (by omega)
    have hN := hid h
    clear h
    go_enter Tryz.func12, Tryz.ntmps12
    go_wp2_with fail
    go_loopw [3, 4] (fun lf iv wr => ∃ (k : Nat) (L : Int), iv = .int .i64 (k : Int) ∧ lf = .int .i64 L ∧ k ≤ ns.length ∧ 0 ≤ L ∧ L ≤ 5000 ∧ Below w.heap.size w wr ∧ Hid (SmallTo ns k)) (fun _ iv _ => ns.length - (intOf iv).toNat)
    case atStart => exact ⟨0, 5000, rfl, rfl, by omega, by decide, by decide, Below.refl _ _, fun i x hi => by omega⟩
    case round =>
      obtain ⟨k, L, rfl, rfl, hk, hL0, hL1, hlow, hsm⟩ := hrel
      obtain ⟨W0, rfl⟩ : ∃ W0 : World, W0 = wr := ⟨_, rfl⟩
      by_cases hkn : (k : Int) < (ns.length : Int)
      · have hkn' : k < ns.length := by omega
        obtain ⟨b, off, rfl, hcs⟩ := (hN.out.below hlow).at hkn'
        obtain ⟨x, hx⟩ : ∃ x, ns[k]? = some x := ⟨_, List.getElem?_eq_getElem hkn'⟩
        obtain ⟨s, ⟨-, -, x2, -, -, -, -, -⟩, hms⟩ := hcs k x hx
        obtain ⟨sa, sc, rfl⟩ := hms.slice
        have hmb := hid hms.bound
        replace hms := hid hms
        replace hlow := hid hlow
        replace hx := hid hx
        clear hcs
        by_cases h2 : 100 < x.sel.length
        · have q2 : decide ((100 : Int) < (x.sel.length : Int)) = true := decide_eq_true (by omega)
          go_wp2
          go_ret
          exact ⟨true, rfl, hlow.out, fun e => by cases e⟩
        · have q2 : decide ((100 : Int) < (x.sel.length : Int)) = false := decide_eq_false (by omega)
          go_wp2_with fail
          go_loopw [3, 5] (fun lf jv w2 => ∃ (j : Nat) (M : Int), jv = .int .i64 (j : Int) ∧ lf = .int .i64 M ∧ j ≤ x.sel.length ∧ 0 ≤ M ∧ M ≤ 5000 ∧ Below W0.heap.size W0 w2 ∧ Hid (SmallM x.sel j)) (fun _ jv _ => x.sel.length - (intOf jv).toNat)
          case atStart => exact ⟨0, L, rfl, rfl, by omega, hL0, hL1, Below.refl _ _, fun i m hi => by omega⟩
          case round =>
            obtain ⟨j, M, rfl, rfl, hj, hM0, hM1, hb, hsM⟩ := hrel
            have x2' := (hb.cell (p := ⟨b, off + k * 8 + 2, none⟩) (World.block_lt_of_cell? W0 _ x2)).trans x2
            have hMs := hms.out.below hb
            have hb3 := hid (fun (W' : World) (hb' : Below wr.heap.size wr W') => low2 hlow.out (low2 hb hb'))
            have hb4 := hid (fun (W' : World) (hb' : Below wr.heap.size wr W') => low2 hb hb')
            clear x2 hb
            by_cases hjn : (j : Int) < (x.sel.length : Int)
            · have hjn' : j < x.sel.length := by omega
              obtain ⟨b2, off2, rfl, hc2⟩ := hMs.at hjn'
              obtain ⟨⟨mn, mo, mv⟩, hm⟩ : ∃ m, x.sel[j]? = some m := ⟨_, List.getElem?_eq_getElem hjn'⟩
              obtain ⟨y0, y1, y2⟩ := hc2 j _ hm
              obtain ⟨lm, lv⟩ := hMs.mid hm
              have hal := hid (hb3.out _ (alloc_below wr (.cells #[.string ⟨mn.toArray⟩, .int .u8 (mo.toNat : Int), .string ⟨mv.toArray⟩] 33)))
              have hal2 := hid (hb4.out _ (alloc_below wr (.cells #[.string ⟨mn.toArray⟩, .int .u8 (mo.toNat : Int), .string ⟨mv.toArray⟩] 33)))
              simp only [] at y0 y1 y2 lm lv
              unfold str Mat.opv at *
              replace hm := hid hm
              clear hc2 hMs hb3 hb4
              by_cases g1 : M < (mn.length : Int)
              · have r1 : decide (M < (mn.length : Int)) = true := decide_eq_true g1
                go_wp2
                go_ret
                exact ⟨true, rfl, hal.out, fun e => by cases e⟩
              · have r1 : decide (M < (mn.length : Int)) = false := decide_eq_false g1
                have w1 : IntKind.i64.wrap (M - (mn.length : Int)) = M - (mn.length : Int) := by rw [IntKind.wrap_i64]; omega
                by_cases g2 : M - (mn.length : Int) < (mv.length : Int)
                · have r2 : decide (M - (mn.length : Int) < (mv.length : Int)) = true := decide_eq_true g2
                  go_wp2
                  go_ret
                  exact ⟨true, rfl, hal.out, fun e => by cases e⟩
                · have r2 : decide (M - (mn.length : Int) < (mv.length : Int)) = false := decide_eq_false g2
                  have w2 : IntKind.i64.wrap (M - (mn.length : Int) - (mv.length : Int)) = M - (mn.length : Int) - (mv.length : Int) := by rw [IntKind.wrap_i64]; omega
                  have hsM2 : Hid (SmallM x.sel (j + 1)) := fun i m hi hmi => by
                    by_cases hij : i = j
                    · subst hij
                      rw [hm.out] at hmi
                      cases hmi
                      exact ⟨by simp only; omega, by simp only; omega⟩
                    · exact hsM.out i m (by omega) hmi
                  go_wp2
                  exact ⟨⟨j + 1, M - (mn.length : Int) - (mv.length : Int), by simp, rfl, by omega, by omega, by omega, hal2.out, hsM2⟩, by simp [intOf]; omega⟩
            · have hal := hid (hb3.out _ (Below.refl _ _))
              have hsm2 : Hid (SmallTo ns (k + 1)) := fun i y hi hyi => by
                by_cases hik : i = k
                · subst hik
                  rw [hx.out] at hyi
                  cases hyi
                  have hjl : j = x.sel.length := by omega
                  exact ⟨by omega, smallM_all (hjl ▸ hsM.out)⟩
                · exact hsm.out i y (by omega) hyi
              go_wp2
              exact ⟨⟨k + 1, M, by simp, rfl, by omega, hM0, hM1, hal.out, hsm2⟩, by simp [intOf]; omega⟩
      · replace hlow := hid hlow
        go_wp2
        go_ret
        have hkl : k = ns.length := by omega
        exact ⟨false, rfl, hlow.out, fun _ => ⟨by omega, smallTo_all (hkl ▸ hsm.out)⟩⟩
end Go.Proofs.YtjhodmpgggaknaaGreatDoor
/- The document's Copy. -/
namespace Go.Proofs.YtjhodmpgggaknaaGreatDoor
open Go.RowKit Go.Shelf Go.Maps

theorem pushS_run {w : World} {base B : Nat} {v : Value} {ns : List Nd} (hr : OwnN base w v ns) (x : Nd) (s : Value) (hm : Mat.OwnM B w s x.sel) (hB : base ≤ B) (hl : ns.length + 1 ≤ 1000000000) (hb : base ≤ w.heap.size) :
    ∃ a' c' w', (∀ ty, (Builtin.append_ #[22, 22] ty #[v, .slice (some ⟨w.heap.size, 0, none⟩) 1 1]).run Tryz.prog (w.alloc (.cells #[.int .u8 (x.kind.toNat : Int), .int .u8 (x.agg.toNat : Int), s, .int .i64 x.win, .int .u8 (x.cmp.toNat : Int), .int .i64 x.val, .int .i64 x.left, .int .i64 x.right] 31)) = .ok (.slice a' (ns.length + 1) c') w') ∧ OwnN base w' (.slice a' (ns.length + 1) c') (ns ++ [x]) ∧ Below base w w' := by
  obtain ⟨z, rfl, hz, hs⟩ := hr
  rw [List.length_map] at hl ⊢
  have hone : s.oneCell' = true := by
    obtain ⟨a, c, e⟩ := hm.isM.slice
    rw [e]; rfl
  obtain ⟨a', c', w', g1, g2, g3, _⟩ := pushZ_run hz x s hone hl hb
  have hab := alloc_below w (.cells #[.int .u8 (x.kind.toNat : Int), .int .u8 (x.agg.toNat : Int), s, .int .i64 x.win, .int .u8 (x.cmp.toNat : Int), .int .i64 x.val, .int .i64 x.left, .int .i64 x.right] 31)
  have hz' := hz.below hab
  have hs' := hs.below hab
  have h1 : SelO base (w.alloc (.cells #[.int .u8 (x.kind.toNat : Int), .int .u8 (x.agg.toNat : Int), s, .int .i64 x.win, .int .u8 (x.cmp.toNat : Int), .int .i64 x.val, .int .i64 x.left, .int .i64 x.right] 31)) [(x, s)] := fun p hp => by
    simp at hp
    subst hp
    exact (hm.below hab).base hB
  exact ⟨a', c', w', g1, ⟨z ++ [(x, s)], by simp, g2, (selO_grown hz' hs' g3).app (selO_grown hz' h1 g3)⟩, ((Below.refl base w).alloc hb _).trans (ownZ_low hz' (by simp; omega) g3)⟩
set_option maxRecDepth 100000 in
set_option maxHeartbeats 4000000 in
theorem copyN_any {w : World} {v : Value} {ns : List Nd} (h : IsN w v ns) (hn : ns.length ≤ 100) (hsm : ∀ x ∈ ns, SmallN x) : Calls Tryz.prog 13 #[v] w fun e w' => ∃ a c, e = .returned (.slice a ns.length c) ∧ OwnN w.heap.size w' (.slice a ns.length c) ns ∧ Below w.heap.size w w' := by
  obtain ⟨a, c, rfl⟩ := h.slice
  have hN := hid h
  have hs := hid hsm
  clear h hsm
  go_enter Tryz.func13, Tryz.ntmps13
  go_wp2_with fail
  go_loopw [3, 4] (fun ov iv wr => ∃ (k : Nat) (a' : Option Addr) (c' : Nat), ov = .slice a' k c' ∧ iv = .int .i64 (k : Int) ∧ k ≤ ns.length ∧ Hid (Below w.heap.size w wr) ∧ Hid (OwnN w.heap.size wr (.slice a' k c') (ns.take k))) (fun _ iv _ => ns.length - (intOf iv).toNat)
  case atStart => exact ⟨0, none, 0, rfl, rfl, by omega, Below.refl _ _, ownN_nil _ _⟩
  case round =>
    obtain ⟨k, a', c', rfl, rfl, hk, hB, hO⟩ := hrel
    obtain ⟨V, rfl⟩ : ∃ V : World, V = wr := ⟨_, rfl⟩
    by_cases hkn : (k : Int) < (ns.length : Int)
    · have hkn' : k < ns.length := by omega
      obtain ⟨x, hx⟩ : ∃ x, ns[k]? = some x := ⟨_, List.getElem?_eq_getElem (by omega)⟩
      have k0 : (0 : Int) ≤ (k : Int) := by omega
      have hxs := hs.out x (List.mem_of_getElem? hx)
      have htk : ns.take (k + 1) = ns.take k ++ [x] := by rw [List.take_add_one, hx]; rfl
      have hlk : (ns.take k).length = k := by simp; omega
      obtain ⟨b, off, rfl, hcs⟩ := (hN.out.below hB.out).at (k := k) (by omega)
      obtain ⟨s, ⟨x0, x1, x2, x3, x4, x5, x6, x7⟩, hms⟩ := hcs k x hx
      obtain ⟨sa, sc, rfl⟩ := hms.slice
      have hbV := World.block_lt_of_cell? V _ x2
      have hne : ¬ V.heap.size = b := fun e => by subst e; exact absurd hbV (by simp)
      have hne2 : ¬ b = V.heap.size := fun e => hne e.symm
      have hnb := new_block V (.cells #[.int .u8 (x.kind.toNat : Int), .int .u8 (x.agg.toNat : Int), .slice sa x.sel.length sc, .int .i64 x.win, .int .u8 (x.cmp.toNat : Int), .int .i64 x.val, .int .i64 x.left, .int .i64 x.right] 31)
      have hab := alloc_below V (.cells #[.int .u8 (x.kind.toNat : Int), .int .u8 (x.agg.toNat : Int), .slice sa x.sel.length sc, .int .i64 x.win, .int .u8 (x.cmp.toNat : Int), .int .i64 x.val, .int .i64 x.left, .int .i64 x.right] 31)
      have hsz : (V.alloc (.cells #[.int .u8 (x.kind.toNat : Int), .int .u8 (x.agg.toNat : Int), .slice sa x.sel.length sc, .int .i64 x.win, .int .u8 (x.cmp.toNat : Int), .int .i64 x.val, .int .i64 x.left, .int .i64 x.right] 31)).heap.size = V.heap.size + 1 := by simp
      obtain ⟨V1, hV1⟩ : ∃ V1, V.alloc (.cells #[.int .u8 (x.kind.toNat : Int), .int .u8 (x.agg.toNat : Int), .slice sa x.sel.length sc, .int .i64 x.win, .int .u8 (x.cmp.toNat : Int), .int .i64 x.val, .int .i64 x.left, .int .i64 x.right] 31) = V1 := ⟨_, rfl⟩
      rw [hV1] at hnb hab hsz
      have hnbH := hid hnb
      have hselC := hid (fun W (hb : Below V1.heap.size V1 W) => ((low' hab hb).cell (p := ⟨b, off + k * 8 + 2, none⟩) hbV).trans x2)
      have cY := hid (fun W (hb : Below V1.heap.size V1 W) => Mat.copyM_any _ _ W (hms.below (low' hab hb)) (by have := hxs.1; omega))
      have d0 := hid (below_drew (Below.refl V1.heap.size V1))
      have y2 := cell_of hnb 2
      have f2 := frozen_of hnb 2
      simp at y2
      have habH := hid hab
      have hszH := hid hsz
      have hlV := hid hB.out.size
      replace htk := hid htk
      replace hlk := hid hlk
      replace hx := hid hx
      replace hxs := hid hxs
      have hbx := hid (fun W (hb : Below V1.heap.size V1 W) => show W.cell? ⟨V.heap.size, 2, none⟩ = some (.slice sa x.sel.length sc) ∧ W.frozen? ⟨V.heap.size, 2, none⟩ = false from by
        have e := (hb.block _ (lt_of_block hnbH.out)).trans hnbH.out
        exact ⟨by rw [cell_of e]; rfl, frozen_of e 2⟩)
      have z2 := hselC.out V1 (Below.refl _ _)
      clear hcs hms hnb hab hsz
      go_wp2_with fail
      refine (cY.out _ (Below.refl _ _)).mono ?_
      rintro e X1 ⟨a2, c2, rfl, o2, b2⟩
      obtain ⟨ub, fb⟩ := hbx.out _ b2
      have hX1 := (b2.block _ (lt_of_block hnbH.out)).trans hnbH.out
      obtain ⟨V2, hV2⟩ : ∃ V2, X1.setCell ⟨V.heap.size, 2, none⟩ (.slice a2 x.sel.length c2) = V2 := ⟨_, rfl⟩
      have hX2 := heap_set_at (o := 2) hX1 (.slice a2 x.sel.length c2)
      have hbs : Below V.heap.size V V2 := by
        rw [← hV2]
        exact (low' habH.out b2).setCell (Nat.le_refl _) _
      have o3 : Mat.OwnM (V.heap.size + 1) V2 (.slice a2 x.sel.length c2) x.sel := by
        rw [← hV2]
        rw [hszH.out] at o2
        exact ownM_set o2 2 _
      rw [hV2] at hX2
      have v0 := cell_of hX2 0
      have v1 := cell_of hX2 1
      have v2 := cell_of hX2 2
      have v3 := cell_of hX2 3
      have v4 := cell_of hX2 4
      have v5 := cell_of hX2 5
      have v6 := cell_of hX2 6
      have v7 := cell_of hX2 7
      simp at v0 v1 v2 v3 v4 v5 v6 v7
      have B2 := low' hB.out hbs
      obtain ⟨qa, qc, P5, RUN, hO5, hB5⟩ := pushS_run (hO.out.below hbs) x (.slice a2 x.sel.length c2) o3 (by have := hlV.out; omega) (by rw [hlk.out]; omega) B2.size
      rw [hlk.out] at RUN hO5
      rw [← htk.out] at hO5
      replace hO5 := hid hO5
      replace hB5 := hid (B2.trans (hB5.mono (Nat.le_refl _)))
      replace RUN := hid RUN
      clear b2 o2 cY hX1 hX2 hbs o3 B2 hO hB
      go_wp2_with (first | rw [hV2] | (at_builtin; refine wpList_append_run _ rfl _ _ 22 rfl _ _ _ _ rfl rfl RUN.out ?_))
      exact ⟨⟨k + 1, qa, qc, rfl, by go_num, by omega, hB5, hO5⟩, by simp [intOf]; omega⟩
    · obtain rfl : k = ns.length := by omega
      have hO2 := hid (show OwnN w.heap.size V (.slice a' ns.length c') ns from by have := hO.out; rw [List.take_length] at this; exact this)
      clear hO
      go_wp2
      go_ret
      exact ⟨_, _, rfl, hO2.out, hB.out⟩
end Go.Proofs.YtjhodmpgggaknaaGreatDoor
/- Opening of nodes, with the windows' bound. -/
namespace Go.Proofs.YtjhodmpgggaknaaGreatDoor
open Go.ChangeShapes Go.WideShapes Go.ChangeAt Go.RowKit

theorem i64_le {z : Int} (h : (Lit.int .i64 z).wf = true) : z ≤ 9223372036854775807 := by
  simp [Lit.wf, IntKind.min, IntKind.max, IntKind.bits, IntKind.signed] at h
  omega
section
variable {H : Type} {enc : TypeId × Value → H} {w : World} {base : Nat} {held : Bool}
set_option maxRecDepth 100000 in
theorem cells_node2 {fuel : Nat} {cs : List Value} {x : DataW H × List MemPlace} (h : DataW.trod enc Tryz.prog w base (fun _ => true) held fuel 31 cs = some x) : ∃ y : Nd × Value, cs = ndv y ∧ Mat.IsMs w y.2 y.1.sel ∧ y.1.win ≤ 9223372036854775807 := by
  obtain ⟨xs, n, _, _, hcl, hxl, hf⟩ := DataW.trod_struct Tryz.underlying31 h
  rw [cellsNd] at hcl
  match cs, hcl with
  | [c0, c1, c2, c3, c4, c5, c6, c7], _ =>
  have hx : ∀ i, i < 8 → ∃ y, xs[i]? = some y := fun i hi => ⟨_, List.getElem?_eq_getElem (by rw [hxl]; exact hi)⟩
  obtain ⟨y0, e0⟩ := hx 0 (by decide)
  obtain ⟨y1, e1⟩ := hx 1 (by decide)
  obtain ⟨y2, e2⟩ := hx 2 (by decide)
  obtain ⟨y3, e3⟩ := hx 3 (by decide)
  obtain ⟨y4, e4⟩ := hx 4 (by decide)
  obtain ⟨y5, e5⟩ := hx 5 (by decide)
  obtain ⟨y6, e6⟩ := hx 6 (by decide)
  obtain ⟨y7, e7⟩ := hx 7 (by decide)
  have f0 : DataW.trod enc Tryz.prog w base (fun _ => true) held n 5 [c0] = some y0 := by
    have h0 := hf 0 _ rfl
    rw [e0] at h0
    simpa [k_u8] using h0
  have f1 : DataW.trod enc Tryz.prog w base (fun _ => true) held n 5 [c1] = some y1 := by
    have h0 := hf 1 _ rfl
    rw [e1] at h0
    simpa [k_u8] using h0
  have f2 : DataW.trod enc Tryz.prog w base (fun _ => true) held n 29 [c2] = some y2 := by
    have h0 := hf 2 _ rfl
    rw [e2] at h0
    simpa [k_sel] using h0
  have f3 : DataW.trod enc Tryz.prog w base (fun _ => true) held n 3 [c3] = some y3 := by
    have h0 := hf 3 _ rfl
    rw [e3] at h0
    simpa [k_int] using h0
  have f4 : DataW.trod enc Tryz.prog w base (fun _ => true) held n 5 [c4] = some y4 := by
    have h0 := hf 4 _ rfl
    rw [e4] at h0
    simpa [k_u8] using h0
  have f5 : DataW.trod enc Tryz.prog w base (fun _ => true) held n 2 [c5] = some y5 := by
    have h0 := hf 5 _ rfl
    rw [e5] at h0
    simpa [k_i64] using h0
  have f6 : DataW.trod enc Tryz.prog w base (fun _ => true) held n 3 [c6] = some y6 := by
    have h0 := hf 6 _ rfl
    rw [e6] at h0
    simpa [k_int] using h0
  have f7 : DataW.trod enc Tryz.prog w base (fun _ => true) held n 3 [c7] = some y7 := by
    have h0 := hf 7 _ rfl
    rw [e7] at h0
    simpa [k_int] using h0
  obtain ⟨z0, q0, _, l0⟩ := DataW.trod_int Tryz.underlying5 f0
  obtain ⟨z1, q1, _, l1⟩ := DataW.trod_int Tryz.underlying5 f1
  obtain ⟨sel, hsel⟩ := mats_in f2
  obtain ⟨z3, q3, _, l3⟩ := DataW.trod_int Tryz.underlying3 f3
  obtain ⟨z4, q4, _, l4⟩ := DataW.trod_int Tryz.underlying5 f4
  obtain ⟨z5, q5, _, l5⟩ := DataW.trod_int Tryz.underlying2 f5
  obtain ⟨z6, q6, _, l6⟩ := DataW.trod_int Tryz.underlying3 f6
  obtain ⟨z7, q7, _, l7⟩ := DataW.trod_int Tryz.underlying3 f7
  simp only [List.cons.injEq, and_true] at q0 q1 q3 q4 q5 q6 q7
  subst q0 q1 q3 q4 q5 q6 q7
  refine ⟨(⟨UInt8.ofNat z0.toNat, UInt8.ofNat z1.toNat, sel, z3, UInt8.ofNat z4.toNat, z5, z6, z7⟩, c2), ?_, hsel, i64_le l3⟩
  unfold ndv uv iv
  simp only [u8_of l0, u8_of l1, u8_of l4]
set_option maxRecDepth 100000 in
theorem open_nodes2 {r : Reach} {base0 : Nat} {v : Value} {d : DataW H} {p : List MemPlace} (hv : Value.okWide Tryz.prog w r base0 22 v) (h : DataW.Trod enc Tryz.prog w base (fun _ => true) held 22 v d p) : ∃ l, IsN w v l ∧ ∀ x ∈ l, x.win ≤ 9223372036854775807 := by
  obtain ⟨a, len, cap, rfl⟩ := okWide_slice Tryz.underlying22 hv
  obtain ⟨fuel, hf⟩ := h
  rcases Go.Deep.open_slice Tryz.underlying22 hf with ⟨hcs, _⟩ | ⟨x, l, c, m, n, D, Pl, hcs, _, hl, hm, hmm, _, hx⟩
  · simp [Value.cells] at hcs
    obtain ⟨rfl, rfl, rfl⟩ := hcs
    exact ⟨[], ⟨[], rfl, ⟨by simp, none, 0, rfl, by simp, by simp, .inl rfl⟩, fun p hp => by cases hp⟩, fun x hx => by cases hx⟩
  · simp [Value.cells] at hcs
    obtain ⟨rfl, rfl, rfl⟩ := hcs
    have hm' : m = cap := by simpa using hmm
    rw [cellsNd] at hx
    have hall : ∀ i, i < len → ∃ y : Nd × Value, w.cells? base (x.add (i * 8)) 8 = some (ndv y) ∧ Mat.IsMs w y.2 y.1.sel ∧ y.1.win ≤ 9223372036854775807 := fun i hi => by
      obtain ⟨cs', h1, h2⟩ := hx i (by omega)
      obtain ⟨y, hy, hy2⟩ := cells_node2 h2
      exact ⟨y, by rw [← hy]; exact h1, hy2⟩
    have hch : ∃ Y : Nat → Nd × Value, ∀ i, i < len → w.cells? base (x.add (i * 8)) 8 = some (ndv (Y i)) ∧ Mat.IsMs w (Y i).2 (Y i).1.sel ∧ (Y i).1.win ≤ 9223372036854775807 := by
      refine ⟨fun i => if hi : i < len then Classical.choose (hall i hi) else (⟨0, 0, [], 0, 0, 0, 0, 0⟩, .slice none 0 0), fun i hi => ?_⟩
      simp only [hi, dif_pos]
      exact Classical.choose_spec (hall i hi)
    obtain ⟨Y, hY⟩ := hch
    have hlen : ((List.range len).map Y).length = len := by simp
    have hat : ∀ i y, ((List.range len).map Y)[i]? = some y → i < len ∧ y = Y i := fun i y hy => by
      rw [List.getElem?_map] at hy
      cases hr : (List.range len)[i]? with
      | none => rw [hr] at hy; cases hy
      | some k =>
        rw [hr] at hy
        have hk := List.getElem?_eq_some_iff.1 hr
        obtain ⟨hk1, hk2⟩ := hk
        simp at hk1 hk2
        subst hk2
        exact ⟨hk1, (Option.some.inj hy).symm⟩
    refine ⟨_, ⟨(List.range len).map Y, rfl, ⟨by omega, some x, cap, by rw [hlen], by omega, by omega, ?_⟩, fun y hy => ?_⟩, fun y hy => ?_⟩
    · by_cases h0 : len = 0
      · left; simp [h0]
      · right
        obtain ⟨b, off, spot⟩ := x
        have hsp : spot = none := by
          obtain ⟨h1, _⟩ := hY 0 (by omega)
          have h2 := (World.cells?_some h1).2.2 0 (by decide)
          obtain ⟨u, hu⟩ : ∃ u, w.cell? ((Addr.add ⟨b, off, spot⟩ (0 * 8)).add 0) = some u := by
            rw [h2]
            exact ⟨_, rfl⟩
          simpa [Addr.add] using World.cell?_spot hu
        subst hsp
        refine ⟨b, off, rfl, fun i y hy q u hu => ?_⟩
        obtain ⟨hi, rfl⟩ := hat i y hy
        obtain ⟨h1, _⟩ := hY i hi
        have hq : q < 8 := by have := (List.getElem?_eq_some_iff.1 hu).1; rw [ndv_len] at this; exact this
        have h2 := (World.cells?_some h1).2.2 q hq
        rw [Addr.add_lit, Addr.add_lit, hu] at h2
        exact h2
    · obtain ⟨i, hi⟩ := List.mem_iff_getElem?.1 hy
      obtain ⟨h1, rfl⟩ := hat i y hi
      exact (hY i h1).2.1
    · obtain ⟨q, hq, rfl⟩ := List.mem_map.1 hy
      obtain ⟨i, hi⟩ := List.mem_iff_getElem?.1 hq
      obtain ⟨h1, rfl⟩ := hat i q hi
      exact (hY i h1).2.2
end
end Go.Proofs.YtjhodmpgggaknaaGreatDoor

/- What the document's Print is asked for. -/
namespace Go.Proofs.YtjhodmpgggaknaaGreatDoor
open Go.RowKit Go.Shelf Go.Maps
def docP (ns : List Nd) : Tx := if rightB ns then txAt (textsD ns ns.length) (ns.length - 1) else []
theorem doc_no {ns : List Nd} (h : rightB ns = false) : docP ns = [] := by unfold docP; rw [h]; rfl
theorem right_get {ns : List Nd} (h : rightB ns = true) : ∃ t, okT t ∧ ns = flat 0 t ∧ t.size ≤ 31 := right_iff.1 h
theorem no_of {ns : List Nd} (h : ∀ t, okT t → ns = flat 0 t → t.size ≤ 31 → False) : rightB ns = false := by
  cases hr : rightB ns
  · rfl
  · obtain ⟨t, h1, h2, h3⟩ := right_get hr
    exact (h t h1 h2 h3).elim
theorem no_len {ns : List Nd} (h : ns.length < 1 ∨ 31 < ns.length) : rightB ns = false := no_of fun t _ h2 h3 => by
  have := t.pos
  have e := flat_len t 0
  rw [← h2] at e
  omega
theorem no_nd {ns : List Nd} {i : Nat} {x : Nd} (hx : ns[i]? = some x) (h : okNd i x = false) : rightB ns = false := no_of fun t h1 h2 h3 => by
  rw [(right_texts h1 h3 h2).1 i x hx] at h
  cases h
theorem no_long {ns : List Nd} {k : Nat} {x : Tx} (hk : k ≤ ns.length) (hx : x ∈ textsD ns k) (h : 20000 < x.length) : rightB ns = false := no_of fun t h1 h2 h3 => by
  have := (right_texts h1 h3 h2).2.1 k hk x hx
  omega
theorem doc_flat {t : Tree} (h : okT t) (hs : t.size ≤ 31) : docP (flat 0 t) = ptx 0 t := by
  unfold docP
  rw [right_flat h hs, if_pos rfl]
  exact (right_texts h hs rfl).2.2
theorem sel_any_len {x : Nd} (h : SmallN x) : (Mat.printM x.sel).length ≤ 4000000 := by
  obtain ⟨h1, h2⟩ := h
  have item : ∀ m ∈ x.sel, (Mat.itemM m).length ≤ 20000 := fun m hm => by
    have := h2 m hm
    have b := (Mat.opS_len m.2.1).2
    have c := esc_len_le m.2.2
    unfold Mat.itemM quote
    simp
    omega
  have join : ∀ (l : List Mat.Mt), (∀ m ∈ l, (Mat.itemM m).length ≤ 20000) → (Lib.join (l.map Mat.itemM) [44]).length ≤ 20001 * l.length := fun l => by
    induction l with
    | nil => intro _; simp [Lib.join]
    | cons a l ih =>
      intro h
      have h1 := h a (by simp)
      have h2 := ih (fun m hm => h m (by simp [hm]))
      cases l with
      | nil =>
        rw [List.map_singleton, Lib.join_one]
        simp
        omega
      | cons b l =>
        rw [List.map_cons, join2 (Mat.itemM a) ((b :: l).map Mat.itemM) (by simp) 44]
        simp only [List.length_append, List.length_cons] at h2 ⊢
        omega
  have := join x.sel item
  unfold Mat.printM
  simp
  omega
theorem strInfo10 : (Tryz.prog.info? 9).map (fun i => (i.zero, i.size, i.bytes)) = some (some (.string ⟨#[]⟩), 1, 16) := by kernel_rfl
theorem comp_cat (A P D C U : Tx) : (⟨A.toArray⟩ : ByteArray) ++ ⟨#[40]⟩ ++ ⟨P.toArray⟩ ++ ⟨#[91]⟩ ++ ⟨D.toArray⟩ ++ ⟨#[93, 41, 32]⟩ ++ ⟨C.toArray⟩ ++ ⟨#[32]⟩ ++ ⟨U.toArray⟩ = ⟨(A ++ (40 :: (P ++ (91 :: (D ++ (93 :: 41 :: 32 :: (C ++ (32 :: U)))))))).toArray⟩ := by
  rw [show (⟨#[40]⟩ : ByteArray) = ⟨([40] : Tx).toArray⟩ from rfl, show (⟨#[91]⟩ : ByteArray) = ⟨([91] : Tx).toArray⟩ from rfl, show (⟨#[93, 41, 32]⟩ : ByteArray) = ⟨([93, 41, 32] : Tx).toArray⟩ from rfl, show (⟨#[32]⟩ : ByteArray) = ⟨([32] : Tx).toArray⟩ from rfl, app_str, app_str, app_str, app_str, app_str, app_str, app_str, app_str]
  simp
theorem and_cat (A B : Tx) : (⟨A.toArray⟩ : ByteArray) ++ ⟨#[32, 97, 110, 100, 32]⟩ ++ ⟨B.toArray⟩ = ⟨(A ++ (32 :: 97 :: 110 :: 100 :: 32 :: B)).toArray⟩ := by
  rw [show (⟨#[32, 97, 110, 100, 32]⟩ : ByteArray) = ⟨([32, 97, 110, 100, 32] : Tx).toArray⟩ from rfl, app_str, app_str]
  simp
theorem or_cat (A B : Tx) : (⟨A.toArray⟩ : ByteArray) ++ ⟨#[32, 111, 114, 32]⟩ ++ ⟨B.toArray⟩ = ⟨(A ++ (32 :: 111 :: 114 :: 32 :: B)).toArray⟩ := by
  rw [show (⟨#[32, 111, 114, 32]⟩ : ByteArray) = ⟨([32, 111, 114, 32] : Tx).toArray⟩ from rfl, app_str, app_str]
  simp
theorem not_cat (A : Tx) : (⟨#[110, 111, 116, 32]⟩ : ByteArray) ++ ⟨A.toArray⟩ = ⟨(110 :: 111 :: 116 :: 32 :: A).toArray⟩ := by
  rw [show (⟨#[110, 111, 116, 32]⟩ : ByteArray) = ⟨([110, 111, 116, 32] : Tx).toArray⟩ from rfl, app_str]
  simp
theorem sideT_len (x : Tx) (p : Bool) : (sideT x p).length ≤ x.length + 2 := by cases p <;> simp [sideT]
theorem kind_eqD (x c : UInt8) : ((x.toNat : Int) == (c.toNat : Int)) = (x == c) := by
  by_cases h : x = c
  · simp [h]
  · have h2 : x.toNat ≠ c.toNat := fun e => h (UInt8.toNat_inj.1 e)
    rw [beq_eq_false_iff_ne.2 h, beq_eq_false_iff_ne.2 (by omega)]
theorem set_off (w : World) (b i j : Nat) (v : Value) (h : j ≠ i) : (w.setCell ⟨b, i, none⟩ v).cell? ⟨b, j, none⟩ = w.cell? ⟨b, j, none⟩ := by
  simp only [World.cell?, World.setCell, Array.getElem?_modify, if_true]
  cases w.heap[b]? with
  | none => rfl
  | some o => cases o <;> simp [Array.getElem?_setIfInBounds_ne (Ne.symm h)]
theorem isX_start (w : World) (n : Nat) : IsX (w.alloc (.cells (madeCells #[.string ⟨#[]⟩] n) 9)) w.heap.size n [] := ⟨by simp, _, World.rowIs_made w (.string ⟨#[]⟩) n 9, fun i x hx => by simp at hx⟩
theorem IsX.below {w W : World} {b n : Nat} {tx : List Tx} (h : IsX w b n tx) (hb : Below w.heap.size w W) : IsX W b n tx := by
  obtain ⟨h1, f, h2, h3⟩ := h
  exact ⟨h1, f, h2.of_block (hb.block _ h2.lt), h3⟩
theorem IsX.push {w : World} {b n : Nat} {tx : List Tx} (h : IsX w b n tx) (k : Nat) (hk : tx.length = k) (hn : k < n) (x : Tx) : IsX (w.setCell ⟨b, k, none⟩ (.string ⟨x.toArray⟩)) b n (tx ++ [x]) := by
  subst hk
  obtain ⟨h1, f, h2, h3⟩ := h
  refine ⟨by simp; omega, _, h2.set tx.length _, fun i y hy => ?_⟩
  by_cases e : i = tx.length
  · subst e
    simp at hy
    subst hy
    simp [str]
  · have hi := (List.getElem?_eq_some_iff.1 hy).1
    rw [List.length_append] at hi
    simp at hi
    rw [List.getElem?_append_left (by omega)] at hy
    rw [if_neg e]
    exact h3 i y hy
theorem IsX.lt {w : World} {b n : Nat} {tx : List Tx} (h : IsX w b n tx) : b < w.heap.size := by obtain ⟨_, f, h2, _⟩ := h; exact h2.lt
theorem IsX.cell {w : World} {b n : Nat} {tx : List Tx} (h : IsX w b n tx) (k : Nat) (hk : k < n) : ∃ u, w.cell? ⟨b, k, none⟩ = some u ∧ w.frozen? ⟨b, k, none⟩ = false := by
  obtain ⟨_, f, h2, _⟩ := h
  exact ⟨f k, h2.cell hk, h2.frozen k⟩
theorem IsX.get {w : World} {b n : Nat} {tx : List Tx} (h : IsX w b n tx) {k : Nat} {x : Tx} (hx : tx[k]? = some x) : w.cell? ⟨b, k, none⟩ = some (.string ⟨x.toArray⟩) := by
  obtain ⟨h1, f, h2, h3⟩ := h
  have hi := (List.getElem?_eq_some_iff.1 hx).1
  rw [h2.cell (by omega), h3 k x hx]
  rfl
theorem txAt_get {tx : List Tx} {i : Nat} (h : i < tx.length) : tx[i]? = some (txAt tx i) := by
  unfold txAt
  rw [List.getD_eq_getElem?_getD, List.getElem?_eq_getElem h]
  rfl
end Go.Proofs.YtjhodmpgggaknaaGreatDoor
/- How the document's Print ends. -/
namespace Go.Proofs.YtjhodmpgggaknaaGreatDoor
theorem atF_small : ∀ (f : Nat) (s : Tx) (ts : List Tk), atF f s = some ts → ∀ t ∈ ts, t.text.length ≤ 4096
  | 0, _, _, h, _, _ => by cases h
  | f + 1, s, ts, h, t, ht => by
    rw [atF] at h
    split at h
    · cases h
      cases ht
    · cases he : endW false s with
      | none => rw [he] at h; cases h
      | some n =>
        rw [he] at h
        simp only at h
        split at h
        · rename_i hc
          cases hr : atF f (s.drop (n + 1)) with
          | none => rw [hr] at h; cases h
          | some us =>
            rw [hr] at h
            cases h
            rcases List.mem_append.1 ht with ht | ht
            · have hsc := tks_scan (s.take n)
              have h1 := ((scan_mem hsc).2.1 t ht).1
              have h2 : (s.take n).length ≤ n := by simp; omega
              omega
            · exact atF_small f _ us hr t ht
        · cases h
/-- of right nodes the text's tokens are those nodes'. -/
theorem end_right {ns : List Nd} {S : Tx} (hS : S = txAt (textsD ns ns.length) (ns.length - 1)) (hr : rightB ns = true) : ∃ t ts, okT t ∧ t.size ≤ 31 ∧ ns = flat 0 t ∧ atF (S.length + 1) S = some ts ∧ pE .or (kat ts 0) = some (t, []) := by
  obtain ⟨t, h1, h2, h3⟩ := right_get hr
  have e := (right_texts h1 h3 h2).2.2
  rw [← hS] at e
  obtain ⟨ts, a1, a2⟩ := at_ptx h1 h3
  rw [← e] at a1
  refine ⟨t, ts, h1, h3, h2, a1, ?_⟩
  show pE .or (keysT (ts.drop 0)) = _
  rw [List.drop_zero, a2]
  exact back_whole h1
theorem end_none {ns : List Nd} {S : Tx} (hS : S = txAt (textsD ns ns.length) (ns.length - 1)) (h : atF (S.length + 1) S = none) : rightB ns = false := by
  cases hr : rightB ns
  · rfl
  · obtain ⟨t, ts, _, _, _, h4, _⟩ := end_right hS hr
    rw [h] at h4
    cases h4
theorem end_fail {ns : List Nd} {S : Tx} {ts : List Tk} (hS : S = txAt (textsD ns ns.length) (ns.length - 1)) (h : atF (S.length + 1) S = some ts) (hp : pE .or (kat ts 0) = none) : rightB ns = false := by
  cases hr : rightB ns
  · rfl
  · obtain ⟨t, ts', _, _, _, h4, h5⟩ := end_right hS hr
    rw [h] at h4
    cases h4
    rw [hp] at h5
    cases h5
theorem end_short {ns : List Nd} {S : Tx} {ts : List Tk} {u : Tree} {j : Nat} (hS : S = txAt (textsD ns ns.length) (ns.length - 1)) (h : atF (S.length + 1) S = some ts) (hp : pE .or (kat ts 0) = some (u, kat ts j)) (hj : j < ts.length) : rightB ns = false := by
  cases hr : rightB ns
  · rfl
  · obtain ⟨t, ts', _, _, _, h4, h5⟩ := end_right hS hr
    rw [h] at h4
    cases h4
    rw [hp] at h5
    have e := congrArg List.length (Prod.mk.inj (Option.some.inj h5)).2
    rw [kat_len] at e
    simp at e
    omega
theorem end_other {ns : List Nd} {S : Tx} {ts : List Tk} {u : Tree} {j : Nat} (hS : S = txAt (textsD ns ns.length) (ns.length - 1)) (h : atF (S.length + 1) S = some ts) (hp : pE .or (kat ts 0) = some (u, kat ts j)) (hne : flat 0 u ≠ ns) : rightB ns = false := by
  cases hr : rightB ns
  · rfl
  · obtain ⟨t, ts', _, _, h3, h4, h5⟩ := end_right hS hr
    rw [h] at h4
    cases h4
    rw [hp] at h5
    have e := (Prod.mk.inj (Option.some.inj h5)).1
    exact absurd (by rw [e, h3]) hne
theorem end_same {ns : List Nd} {S : Tx} {ts : List Tk} {u : Tree} {r : List Key} (hS : S = txAt (textsD ns ns.length) (ns.length - 1)) (hl : ns.length ≤ 31) (hp : pE .or (kat ts 0) = some (u, r)) (he : flat 0 u = ns) : docP ns = S := by
  have hok : okT u := pE_ok (v := .or) trivial hp
  have hsz : u.size ≤ 31 := by rw [← flat_len u 0, he]; exact hl
  have hr : rightB ns = true := by rw [← he]; exact right_flat hok hsz
  unfold docP
  rw [hr, if_pos rfl, hS]

theorem isTsD_nil (w : World) : IsDs w (.slice none 0 0) [] := (ownD_nil 0 w).isD
end Go.Proofs.YtjhodmpgggaknaaGreatDoor
