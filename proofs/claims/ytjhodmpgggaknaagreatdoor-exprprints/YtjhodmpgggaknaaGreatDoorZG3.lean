import Derived.Test.YtjhodmpgggaknaaGreatDoorZHL
/- The document's Print. -/
namespace Go.Proofs.YtjhodmpgggaknaaGreatDoor
open Go.RowKit Go.Shelf Go.Maps
set_option maxRecDepth 100000 in
set_option maxHeartbeats 16000000 in
theorem docPrint_any {w : World} {v : Value} {ns : List Nd} (h : IsN w v ns) (hsm : ∀ x ∈ ns, SmallN x) (hwn : ∀ x ∈ ns, x.win ≤ 9223372036854775807) : Calls Tryz.prog 15 #[v] w fun e w' => e = .returned (str (docP ns)) ∧ Below w.heap.size w w' := by
  have hno := hid (fun h => doc_no (ns := ns) h)
  obtain ⟨a, c, rfl⟩ := h.slice
  by_cases hl1 : ns.length < 1
  · have e := hno.out (no_len (.inl hl1))
    rw [e]
    have q1 : decide ((ns.length : Int) < 1) = true := decide_eq_true (by omega)
    clear h hsm hno e hwn
    go_enter Tryz.func15, Tryz.ntmps15
    go_wp2
    go_ret
    exact ⟨rfl, Below.refl _ _⟩
  by_cases hl31 : 31 < ns.length
  · have e := hno.out (no_len (.inr hl31))
    rw [e]
    have q1 : decide ((ns.length : Int) < 1) = false := decide_eq_false (by omega)
    have q2 : decide ((31 : Int) < (ns.length : Int)) = true := decide_eq_true (by omega)
    clear h hsm hno e hwn
    go_enter Tryz.func15, Tryz.ntmps15
    go_wp2
    go_ret
    exact ⟨rfl, Below.refl _ _⟩
  have q1 : decide ((ns.length : Int) < 1) = false := decide_eq_false (by omega)
  have q2 : decide ((31 : Int) < (ns.length : Int)) = false := decide_eq_false (by omega)
  have l1 : 1 ≤ ns.length := by omega
  have l31 : ns.length ≤ 31 := by omega
  have hN := hid h
  have hs := hid hsm
  have hw := hid hwn
  have hnd := hid (fun i x hx hk => no_nd (ns := ns) (i := i) (x := x) hx hk)
  have hlg := hid (fun k x hk hx hl => no_long (ns := ns) (k := k) (x := x) hk hx hl)
  have hfl := hid (fun t h1 h2 => doc_flat (t := t) h1 h2)
  clear h hsm hwn hl1 hl31
  obtain ⟨dp, hdp⟩ : ∃ dp, dp = docP ns := ⟨_, rfl⟩
  rw [← hdp] at hno ⊢
  have hdp := hid hdp
  go_enter Tryz.func15, Tryz.ntmps15
  go_wp2_with fail
  go_loopw [3] (fun iv wr => ∃ k : Nat, iv = .int .i64 (k : Int) ∧ k ≤ ns.length ∧ Hid (Below w.heap.size w wr) ∧ Hid (∀ i x, i < k → ns[i]? = some x → okNd i x = true)) (fun iv _ => ns.length - (intOf iv).toNat)
  case atStart => exact ⟨0, rfl, by omega, Below.refl _ _, fun i x hi => by omega⟩
  case round =>
    obtain ⟨k, rfl, hk, hB, hok⟩ := hrel
    obtain ⟨V, rfl⟩ : ∃ V : World, V = wr := ⟨_, rfl⟩
    by_cases hkn : (k : Int) < (ns.length : Int)
    · as_aux_lemma =>
      obtain ⟨x, hx⟩ : ∃ x, ns[k]? = some x := ⟨_, List.getElem?_eq_getElem (by omega)⟩
      have k0 : (0 : Int) ≤ (k : Int) := by omega
      obtain ⟨b, off, rfl, hcs⟩ := (hN.out.below hB.out).at (k := k) (by omega)
      obtain ⟨s, ⟨x0, x1, x2, x3, x4, x5, x6, x7⟩, hms⟩ := hcs k x hx
      obtain ⟨sa, sc, rfl⟩ := hms.slice
      have hbad : Hid (okNd k x = false → dp = []) := fun h => hno.out (hnd.out k x hx h)
      have hgood : Hid (okNd k x = true → ∀ i y, i < k + 1 → ns[i]? = some y → okNd i y = true) := fun h i y hi hy => by
        by_cases e : i = k
        · subst e
          rw [hx] at hy
          cases hy
          exact h
        · exact hok.out i y (by omega) hy
      have hal := hid (fun o => low' hB.out (alloc_below V o))
      clear hcs hms hx
      by_cases hk3 : 3 < x.kind.toNat
      · have t1 : decide ((3 : Int) < (x.kind.toNat : Int)) = true := decide_eq_true (by omega)
        have hd := hbad.out (by unfold okNd; rw [decide_eq_false (show ¬ x.kind.toNat ≤ 3 by omega)]; rfl)
        subst hd
        clear hbad hgood
        go_wp2
        go_ret
        exact ⟨rfl, hal.out _⟩
      by_cases hk0 : x.kind = 0
      · rw [hk0] at x0
        simp at x0
        by_cases ha : 5 < x.agg.toNat
        · have t3 : decide ((5 : Int) < (x.agg.toNat : Int)) = true := decide_eq_true (by omega)
          have hd := hbad.out (by unfold okNd; rw [decide_eq_false (show ¬ x.agg.toNat ≤ 5 by omega)]; simp [hk0])
          subst hd
          clear hbad hgood
          go_wp2
          go_ret
          exact ⟨rfl, hal.out _⟩
        have t3 : decide ((5 : Int) < (x.agg.toNat : Int)) = false := decide_eq_false (by omega)
        by_cases hc : 5 < x.cmp.toNat
        · have t4 : decide ((5 : Int) < (x.cmp.toNat : Int)) = true := decide_eq_true (by omega)
          have hd := hbad.out (by unfold okNd; rw [decide_eq_false (show ¬ x.cmp.toNat ≤ 5 by omega)]; simp [hk0])
          subst hd
          clear hbad hgood
          go_wp2
          go_ret
          exact ⟨rfl, hal.out _⟩
        have t4 : decide ((5 : Int) < (x.cmp.toNat : Int)) = false := decide_eq_false (by omega)
        have hg := hid (hgood.out (by unfold okNd; rw [decide_eq_true (show x.agg.toNat ≤ 5 by omega), decide_eq_true (show x.cmp.toNat ≤ 5 by omega)]; simp [hk0]))
        clear hbad hgood
        go_wp2
        exact ⟨⟨k + 1, by simp, by omega, hal.out _, hg⟩, by simp [intOf]; omega⟩
      by_cases hk1 : x.kind = 1
      · have hkk := hk1
        rw [hkk] at x0
        simp at x0
        by_cases ha : x.left < 0
        · have t3 : decide (x.left < 0) = true := decide_eq_true ha
          have hd := hbad.out (by unfold okNd; rw [decide_eq_false (show ¬ 0 ≤ x.left by omega)]; simp [hkk])
          subst hd
          clear hbad hgood
          go_wp2
          go_ret
          exact ⟨rfl, hal.out _⟩
        have t3 : decide (x.left < 0) = false := decide_eq_false ha
        by_cases hb : (k : Int) ≤ x.left
        · have t4 : decide ((k : Int) ≤ x.left) = true := decide_eq_true hb
          have hd := hbad.out (by unfold okNd; rw [decide_eq_false (show ¬ x.left < (k : Int) by omega)]; simp [hkk])
          subst hd
          clear hbad hgood
          go_wp2
          go_ret
          exact ⟨rfl, hal.out _⟩
        have t4 : decide ((k : Int) ≤ x.left) = false := decide_eq_false hb
        by_cases hc : x.right < 0
        · have t5 : decide (x.right < 0) = true := decide_eq_true hc
          have hd := hbad.out (by unfold okNd; rw [decide_eq_false (show ¬ 0 ≤ x.right by omega)]; simp [hkk])
          subst hd
          clear hbad hgood
          go_wp2
          go_ret
          exact ⟨rfl, hal.out _⟩
        have t5 : decide (x.right < 0) = false := decide_eq_false hc
        by_cases hd : (k : Int) ≤ x.right
        · have t6 : decide ((k : Int) ≤ x.right) = true := decide_eq_true hd
          have hd := hbad.out (by unfold okNd; rw [decide_eq_false (show ¬ x.right < (k : Int) by omega)]; simp [hkk])
          subst hd
          clear hbad hgood
          go_wp2
          go_ret
          exact ⟨rfl, hal.out _⟩
        have t6 : decide ((k : Int) ≤ x.right) = false := decide_eq_false hd
        have hg := hid (hgood.out (okNd_bin (by simp [hkk]) (by omega) (by omega) (by omega) (by omega)))
        clear hbad hgood
        go_wp2
        exact ⟨⟨k + 1, by simp, by omega, hal.out _, hg⟩, by simp [intOf]; omega⟩
      by_cases hk2 : x.kind = 2
      · have hkk := hk2
        rw [hkk] at x0
        simp at x0
        by_cases ha : x.left < 0
        · have t3 : decide (x.left < 0) = true := decide_eq_true ha
          have hd := hbad.out (by unfold okNd; rw [decide_eq_false (show ¬ 0 ≤ x.left by omega)]; simp [hkk])
          subst hd
          clear hbad hgood
          go_wp2
          go_ret
          exact ⟨rfl, hal.out _⟩
        have t3 : decide (x.left < 0) = false := decide_eq_false ha
        by_cases hb : (k : Int) ≤ x.left
        · have t4 : decide ((k : Int) ≤ x.left) = true := decide_eq_true hb
          have hd := hbad.out (by unfold okNd; rw [decide_eq_false (show ¬ x.left < (k : Int) by omega)]; simp [hkk])
          subst hd
          clear hbad hgood
          go_wp2
          go_ret
          exact ⟨rfl, hal.out _⟩
        have t4 : decide ((k : Int) ≤ x.left) = false := decide_eq_false hb
        by_cases hc : x.right < 0
        · have t5 : decide (x.right < 0) = true := decide_eq_true hc
          have hd := hbad.out (by unfold okNd; rw [decide_eq_false (show ¬ 0 ≤ x.right by omega)]; simp [hkk])
          subst hd
          clear hbad hgood
          go_wp2
          go_ret
          exact ⟨rfl, hal.out _⟩
        have t5 : decide (x.right < 0) = false := decide_eq_false hc
        by_cases hd : (k : Int) ≤ x.right
        · have t6 : decide ((k : Int) ≤ x.right) = true := decide_eq_true hd
          have hd := hbad.out (by unfold okNd; rw [decide_eq_false (show ¬ x.right < (k : Int) by omega)]; simp [hkk])
          subst hd
          clear hbad hgood
          go_wp2
          go_ret
          exact ⟨rfl, hal.out _⟩
        have t6 : decide ((k : Int) ≤ x.right) = false := decide_eq_false hd
        have hg := hid (hgood.out (okNd_bin (by simp [hkk]) (by omega) (by omega) (by omega) (by omega)))
        clear hbad hgood
        go_wp2
        exact ⟨⟨k + 1, by simp, by omega, hal.out _, hg⟩, by simp [intOf]; omega⟩
      · have hkk : x.kind = 3 := by
          refine UInt8.toNat_inj.1 (show x.kind.toNat = 3 from ?_)
          have a0 : x.kind.toNat ≠ 0 := fun e => hk0 (UInt8.toNat_inj.1 e)
          have a1 : x.kind.toNat ≠ 1 := fun e => hk1 (UInt8.toNat_inj.1 e)
          have a2 : x.kind.toNat ≠ 2 := fun e => hk2 (UInt8.toNat_inj.1 e)
          omega
        rw [hkk] at x0
        simp at x0
        by_cases ha : x.left < 0
        · have t3 : decide (x.left < 0) = true := decide_eq_true ha
          have hd := hbad.out (by unfold okNd; rw [decide_eq_false (show ¬ 0 ≤ x.left by omega)]; simp [hkk])
          subst hd
          clear hbad hgood
          go_wp2
          go_ret
          exact ⟨rfl, hal.out _⟩
        have t3 : decide (x.left < 0) = false := decide_eq_false ha
        by_cases hb : (k : Int) ≤ x.left
        · have t4 : decide ((k : Int) ≤ x.left) = true := decide_eq_true hb
          have hd := hbad.out (by unfold okNd; rw [decide_eq_false (show ¬ x.left < (k : Int) by omega)]; simp [hkk])
          subst hd
          clear hbad hgood
          go_wp2
          go_ret
          exact ⟨rfl, hal.out _⟩
        have t4 : decide ((k : Int) ≤ x.left) = false := decide_eq_false hb
        by_cases hc : x.right < 0
        · have t5 : decide (x.right < 0) = true := decide_eq_true hc
          have hd := hbad.out (by unfold okNd; rw [decide_eq_false (show ¬ 0 ≤ x.right by omega)]; simp [hkk])
          subst hd
          clear hbad hgood
          go_wp2
          go_ret
          exact ⟨rfl, hal.out _⟩
        have t5 : decide (x.right < 0) = false := decide_eq_false hc
        by_cases hd : (k : Int) ≤ x.right
        · have t6 : decide ((k : Int) ≤ x.right) = true := decide_eq_true hd
          have hg := hid (hgood.out (okNd_neg hkk (by omega) (by omega) (by omega)))
          clear hbad hgood
          go_wp2
          exact ⟨⟨k + 1, by simp, by omega, hal.out _, hg⟩, by simp [intOf]; omega⟩
        have t6 : decide ((k : Int) ≤ x.right) = false := decide_eq_false hd
        have hg := hid (hgood.out (okNd_neg hkk (by omega) (by omega) (by omega)))
        clear hbad hgood
        go_wp2
        exact ⟨⟨k + 1, by simp, by omega, hal.out _, hg⟩, by simp [intOf]; omega⟩
    · skip
      obtain rfl : k = ns.length := by omega
      have hmk := run_make_row' (P := Tryz.prog) 63 9 (.string ⟨#[]⟩) 16 Tryz.underlying63 strInfo10 rfl .i64 .i64 ns.length (by omega) (by omega) V
      have hX0 := hid (isX_start V ns.length)
      have hB0 := hid (low' hB.out (alloc_below V (.cells (madeCells #[.string ⟨#[]⟩] ns.length) 9)))
      have htb := hid hB.out.size
      have hOK := hid (fun i x hx => hok.out i x (List.getElem?_eq_some_iff.1 hx).1 hx)
      clear hB hok hnd
      go_wp2_with fail
      generalize V.alloc (.cells (madeCells #[.string ⟨#[]⟩] ns.length) 9) = W1 at *
      generalize V.heap.size = TB at *
      clear hmk
      have hTx : Hid (textsD ns 0 = []) := rfl
      go_loopw [6] (fun iv wr => ∃ k : Nat, iv = .int .i64 (k : Int) ∧ k ≤ ns.length ∧ Hid (Below w.heap.size w wr) ∧ Hid (IsX wr TB ns.length (textsD ns k)) ∧ Hid (∀ x ∈ textsD ns k, x.length ≤ 20000)) (fun iv _ => ns.length - (intOf iv).toNat)
      case atStart => exact ⟨0, rfl, by omega, hB0, hX0, fun x hx => by cases hx⟩
      case round =>
        clear hX0 hB0 hTx
        obtain ⟨k, rfl, hk, hB, hX, hsh⟩ := hrel
        obtain ⟨V, rfl⟩ : ∃ V : World, V = wr := ⟨_, rfl⟩
        by_cases hkn : (k : Int) < (ns.length : Int)
        · have hkn' : k < ns.length := by omega
          obtain ⟨x, hx⟩ : ∃ x, ns[k]? = some x := ⟨_, List.getElem?_eq_getElem (by omega)⟩
          have k0 : (0 : Int) ≤ (k : Int) := by omega
          have hxm := List.mem_of_getElem? hx
          have hxs := hid (hs.out x hxm)
          have hxw := hw.out x hxm
          have hxo := hid (hOK.out k x hx)
          have htx := hid (textsD_at hx)
          have hlenT := hid (textsD_len ns k)
          obtain ⟨b, off, rfl, hcs⟩ := (hN.out.below hB.out).at (k := k) (by omega)
          have hcsH := hid (fun W (hb : Below V.heap.size V W) i y (hy : ns[i]? = some y) => by
            obtain ⟨s, ⟨c0, -, -, -, -, -, -, -⟩, -⟩ := hcs i y hy
            exact (hb.cell (p := ⟨b, off + i * 8, none⟩) (World.block_lt_of_cell? V _ c0)).trans c0)
          obtain ⟨s, ⟨x0, x1, x2, x3, x4, x5, x6, x7⟩, hms⟩ := hcs k x hx
          obtain ⟨sa, sc, rfl⟩ := hms.slice
          have hlt := hX.out.lt
          have hne : ¬ V.heap.size = TB := by omega
          have hne2 : ¬ TB = V.heap.size := by omega
          have hbw : b < w.heap.size := by
            obtain ⟨b', off', e', hcw⟩ := hN.out.at (k := k) (by omega)
            cases e'
            obtain ⟨s', ⟨c0, -, -, -, -, -, -, -⟩, -⟩ := hcw k x hx
            exact World.block_lt_of_cell? w _ c0
          have hbT : ¬ b = TB := by have := htb.out; omega
          have hbT2 : ¬ TB = b := fun e => hbT e.symm
          clear hbw
          have hmsH := hid hms
          have hbad : Hid (20000 < (nodeT ns (textsD ns k) x).length → dp = []) := fun h => hno.out (hlg.out (k + 1) _ (by omega) (by rw [htx.out]; simp) h)
          have hgood : Hid ((nodeT ns (textsD ns k) x).length ≤ 20000 → ∀ y ∈ textsD ns (k + 1), y.length ≤ 20000) := fun h y hy => by
            rw [htx.out] at hy
            rcases List.mem_append.1 hy with hy | hy
            · exact hsh.out y hy
            · simp at hy
              rw [hy]
              exact h
          have hxk := hid hx
          have hnb := new_block V (.cells #[.int .u8 (x.kind.toNat : Int), .int .u8 (x.agg.toNat : Int), .slice sa x.sel.length sc, .int .i64 x.win, .int .u8 (x.cmp.toNat : Int), .int .i64 x.val, .int .i64 x.left, .int .i64 x.right] 31)
          have hb5 := low' hB.out (alloc_below V (.cells #[.int .u8 (x.kind.toNat : Int), .int .u8 (x.agg.toNat : Int), .slice sa x.sel.length sc, .int .i64 x.win, .int .u8 (x.cmp.toNat : Int), .int .i64 x.val, .int .i64 x.left, .int .i64 x.right] 31))
          have hb6 := hid (alloc_below V (.cells #[.int .u8 (x.kind.toNat : Int), .int .u8 (x.agg.toNat : Int), .slice sa x.sel.length sc, .int .i64 x.win, .int .u8 (x.cmp.toNat : Int), .int .i64 x.val, .int .i64 x.left, .int .i64 x.right] 31))
          obtain ⟨V1, hV1⟩ : ∃ V1, V.alloc (.cells #[.int .u8 (x.kind.toNat : Int), .int .u8 (x.agg.toNat : Int), .slice sa x.sel.length sc, .int .i64 x.win, .int .u8 (x.cmp.toNat : Int), .int .i64 x.val, .int .i64 x.left, .int .i64 x.right] 31) = V1 := ⟨_, rfl⟩
          rw [hV1] at hnb hb5 hb6
          have hcells : Hid (∀ W', Below V1.heap.size V1 W' → W'.cell? ⟨V.heap.size, 0, none⟩ = some (.int .u8 (x.kind.toNat : Int)) ∧ W'.cell? ⟨V.heap.size, 1, none⟩ = some (.int .u8 (x.agg.toNat : Int)) ∧ W'.cell? ⟨V.heap.size, 2, none⟩ = some (.slice sa x.sel.length sc) ∧ W'.cell? ⟨V.heap.size, 3, none⟩ = some (.int .i64 x.win) ∧ W'.cell? ⟨V.heap.size, 4, none⟩ = some (.int .u8 (x.cmp.toNat : Int)) ∧ W'.cell? ⟨V.heap.size, 5, none⟩ = some (.int .i64 x.val) ∧ W'.cell? ⟨V.heap.size, 6, none⟩ = some (.int .i64 x.left) ∧ W'.cell? ⟨V.heap.size, 7, none⟩ = some (.int .i64 x.right)) := fun W' hb => by
            have hx := (hb.block _ (lt_of_block hnb)).trans hnb
            exact ⟨by rw [cell_of hx]; rfl, by rw [cell_of hx]; rfl, by rw [cell_of hx]; rfl, by rw [cell_of hx]; rfl, by rw [cell_of hx]; rfl, by rw [cell_of hx]; rfl, by rw [cell_of hx]; rfl, by rw [cell_of hx]; rfl⟩
          have hlow := hid (fun W' (hb : Below V1.heap.size V1 W') => low' hb5 hb)
          have hlowV := hid (fun W' (hb : Below V1.heap.size V1 W') => low' hb6.out hb)
          have hXl : Hid (∀ W', Below V1.heap.size V1 W' → IsX W' TB ns.length (textsD ns k)) := fun W' hb => hX.out.below (low' hb6.out hb)
          clear hcs hms hx hnb hb5 hlt hX hxm hB
          by_cases hk0 : x.kind = 0
          · as_aux_lemma =>
            have hE : Hid (nodeT ns (textsD ns k) x = compT x) := by show _ = _; rw [nodeT, if_pos hk0]
            have ha : x.agg.toNat < 6 ∧ x.cmp.toNat < 6 := by
              have h0 := hxo.out
              unfold okNd at h0
              simp [hk0] at h0
              omega
            obtain ⟨ha, hc⟩ := ha
            rw [hk0] at x0
            simp at x0
            have hcomp : Hid (compT x = aggS x.agg.toNat ++ (40 :: (Mat.printM x.sel ++ (91 :: (decT x.win ++ (93 :: 41 :: 32 :: (cmpS x.cmp.toNat ++ (32 :: Num.printL x.val)))))))) := rfl
            have cA := hid (fun W => agg_any x.agg.toNat ha W)
            have cP := hid (fun W (hb : Below V.heap.size V W) => Mat.rprint_any _ _ W (hmsH.out.below hb) (by have := sel_any_len hxs.out; omega))
            have cD := hid (fun W => decimal_any x.win hxw W)
            have cC := hid (fun W => rcmp_any x.cmp.toNat hc W)
            have cU := hid (fun W => Num.rprint_any x.val W)
            have lA := aggS_len x.agg.toNat
            have lP := sel_any_len hxs.out
            have lD := decT_len hxw
            have lC := cmpS_len x.cmp.toNat
            have lU := num_len x.val
            have hcat := hid (comp_cat (aggS x.agg.toNat) (Mat.printM x.sel) (decT x.win) (cmpS x.cmp.toNat) (Num.printL x.val))
            rw [← hcomp.out] at hcat
            clear hcomp
            generalize aggS x.agg.toNat = A at *
            generalize Mat.printM x.sel = P at *
            generalize decT x.win = D at *
            generalize cmpS x.cmp.toNat = C at *
            generalize Num.printL x.val = U at *
            have k1 : (9223372036854775807 < A.length + 1) = False := eq_false (by omega)
            have k2 : (9223372036854775807 < A.length + 1 + P.length) = False := eq_false (by omega)
            have k3 : (9223372036854775807 < A.length + 1 + P.length + 1) = False := eq_false (by omega)
            have k4 : (9223372036854775807 < A.length + 1 + P.length + 1 + D.length) = False := eq_false (by omega)
            have k5 : (9223372036854775807 < A.length + 1 + P.length + 1 + D.length + 3) = False := eq_false (by omega)
            have k6 : (9223372036854775807 < A.length + 1 + P.length + 1 + D.length + 3 + C.length) = False := eq_false (by omega)
            have k7 : (9223372036854775807 < A.length + 1 + P.length + 1 + D.length + 3 + C.length + 1) = False := eq_false (by omega)
            have k8 : (9223372036854775807 < A.length + 1 + P.length + 1 + D.length + 3 + C.length + 1 + U.length) = False := eq_false (by omega)
            unfold str at cA cP cD cC
            have wa : IntKind.i64.wrap (x.agg.toNat : Int) = (x.agg.toNat : Int) := by rw [IntKind.wrap_i64]; omega
            have wc : IntKind.i64.wrap (x.cmp.toNat : Int) = (x.cmp.toNat : Int) := by rw [IntKind.wrap_i64]; omega
            rw [← wa] at cA
            rw [← wc] at cC
            clear wa wc
            rw [hk0] at hV1
            simp only [show ((0 : UInt8).toNat : Int) = 0 from rfl] at hV1
            obtain ⟨y0, y1, y2, y3, y4, y5, -, -⟩ := hcells.out V1 (Below.refl _ _)
            rw [hk0] at y0
            simp at y0
            have hS := hid (fun W' hb => (hcells.out W' hb).2)
            have hkI : (k : Int) < (ns.length : Int) := hkn
            have d0 := hid (below_drew (Below.refl V1.heap.size V1))
            clear hcells
            go_wp2_with fail
            go_region_held3 (fun w' => w'.cell? ⟨V.heap.size, 1, none⟩ = some (.int .u8 (x.agg.toNat : Int)) ∧ w'.cell? ⟨V.heap.size, 2, none⟩ = some (.slice sa x.sel.length sc) ∧ w'.cell? ⟨V.heap.size, 3, none⟩ = some (.int .i64 x.win) ∧ w'.cell? ⟨V.heap.size, 4, none⟩ = some (.int .u8 (x.cmp.toNat : Int)) ∧ w'.cell? ⟨V.heap.size, 5, none⟩ = some (.int .i64 x.val)) (go_keep) (first
              | (go_at_call 27; refine (cA.out _).mono ?_; rintro e X1 ⟨rfl, b1⟩; have D1 := hid (low' d0.out b1); obtain ⟨z1, z2, z3, z4, z5, -, -⟩ := hS.out _ D1.out; clear b1)
              | (go_at_call 28; refine (cP.out _ (hlowV.out _ D1.out)).mono ?_; rintro e X2 ⟨rfl, n2, hX2⟩; have D2 := hid (low' D1.out (hX2 ▸ below_drewN (n := n2) (Below.refl X1.heap.size X1) : Below X1.heap.size X1 X2)); obtain ⟨e1, e2, e3, e4, e5, -, -⟩ := hS.out _ D2.out; clear hX2)
              | (go_at_call 29; refine (cD.out _).mono ?_; rintro e X3 ⟨rfl, b3⟩; have D3 := hid (low' D2.out b3); obtain ⟨g1, g2, g3, g4, g5, -, -⟩ := hS.out _ D3.out; clear b3)
              | (go_at_call 30; refine (cC.out _).mono ?_; rintro e X4 ⟨rfl, b4⟩; have D4 := hid (low' D3.out b4); obtain ⟨i1, i2, i3, i4, i5, -, -⟩ := hS.out _ D4.out; clear b4)
              | (go_at_call 31; refine (cU.out _).mono ?_; rintro e X5 ⟨rfl, b5⟩; have D5 := hid (low' D4.out b5); obtain ⟨j1, j2, j3, j4, j5, -, -⟩ := hS.out _ D5.out; obtain ⟨ut, ct, ft⟩ := (hXl.out _ D5.out).cell k hkn'; clear b5))
            all_goals
              rw [hcat.out, ← hE.out]
              have hP := hid ((hXl.out _ D5.out).push k hlenT.out hkn' (nodeT ns (textsD ns k) x))
              rw [← htx.out] at hP
              have hBP := hid ((hlow.out _ D5.out).setCell (p := ⟨TB, k, none⟩) htb.out (.string ⟨(nodeT ns (textsD ns k) x).toArray⟩))
              obtain ⟨P6, hP6⟩ : ∃ P6, X5.setCell ⟨TB, k, none⟩ (.string ⟨(nodeT ns (textsD ns k) x).toArray⟩) = P6 := ⟨_, rfl⟩
              rw [hP6] at hP hBP ⊢
              have cT := hP.out.get (k := k) (x := nodeT ns (textsD ns k) x) (by rw [htx.out, List.getElem?_append_right (by rw [hlenT.out]; omega), hlenT.out, Nat.sub_self]; rfl)
              have hbad2 := hbad
              have hgood2 := hgood
              clear hP6 hbad hgood htx hE hcat hXl hlow hlowV
              generalize nodeT ns (textsD ns k) x = E at *
              by_cases hlong : 20000 < E.length
              · have hd := hbad2.out hlong
                subst hd
                have q5 : decide ((20000 : Int) < (E.length : Int)) = true := decide_eq_true (by omega)
                go_wp2
                go_ret
                exact ⟨rfl, hBP.out⟩
              · have q5 : decide ((20000 : Int) < (E.length : Int)) = false := decide_eq_false (by omega)
                have hg := hid (hgood2.out (by omega))
                clear hbad2 hgood2
                go_wp2
                exact ⟨⟨k + 1, by simp, by omega, hBP, hP, hg⟩, by simp [intOf]; omega⟩
          · have hkx : x.kind = 1 ∨ x.kind = 2 ∨ x.kind = 3 := by
              have h0 := hxo.out
              unfold okNd at h0
              simp [hk0] at h0
              have a0 : x.kind.toNat ≠ 0 := fun e => hk0 (UInt8.toNat_inj.1 e)
              have : x.kind.toNat = 1 ∨ x.kind.toNat = 2 ∨ x.kind.toNat = 3 := by omega
              rcases this with e | e | e
              · exact .inl (UInt8.toNat_inj.1 e)
              · exact .inr (.inl (UInt8.toNat_inj.1 e))
              · exact .inr (.inr (UInt8.toNat_inj.1 e))
            have hlr : 0 ≤ x.left ∧ x.left < (k : Int) ∧ 0 ≤ x.right ∧ (x.kind = 3 ∨ x.right < (k : Int)) := by
              have h0 := hxo.out
              unfold okNd at h0
              simp [hk0] at h0
              obtain ⟨-, ⟨⟨h1, h2⟩, h3⟩, h4⟩ := h0
              exact ⟨h1, h2, h3, h4.symm⟩
            obtain ⟨l0, l1', r0, r1'⟩ := hlr
            obtain ⟨li, hli⟩ : ∃ li : Nat, x.left = (li : Int) := ⟨x.left.toNat, by omega⟩
            obtain ⟨ri, hri⟩ : ∃ ri : Nat, x.right = (ri : Int) := ⟨x.right.toNat, by omega⟩
            have hlk : li < k := by omega
            have hlI0 : (0 : Int) ≤ (li : Int) := by omega
            have hlI1 : (li : Int) < (ns.length : Int) := by omega
            obtain ⟨yl, hyl⟩ : ∃ y, ns[li]? = some y := ⟨_, List.getElem?_eq_getElem (by omega)⟩
            have hkl : kindAt ns li = yl.kind := by unfold kindAt; rw [hyl]
            have cSd := hid (fun W (hb : Below V1.heap.size V1 W) i (hi : i < k) p => side_any (v := .slice (some ⟨b, off, none⟩) ns.length c) ⟨_, _, _, rfl⟩ (hXl.out W hb) i (txAt (textsD ns k) i) (txAt_get (by rw [hlenT.out]; exact hi)) (hsh.out _ (List.mem_of_getElem? (txAt_get (by rw [hlenT.out]; exact hi)))) p)
            have hTl := hid (hsh.out _ (List.mem_of_getElem? (txAt_get (tx := textsD ns k) (i := li) (by rw [hlenT.out]; exact hlk))))
            unfold str at cSd
            clear l0 l1' r0
            have hkI : (k : Int) < (ns.length : Int) := hkn
            have d0 := hid (below_drew (Below.refl V1.heap.size V1))
            have ny := hid (fun W' (hb : Below V1.heap.size V1 W') => hcsH.out W' (hlowV.out W' hb) li yl hyl)
            rcases hkx with hk1 | hk1 | hk1
            · rw [hk1] at x0 hV1
              rw [hli, hri] at hV1
              simp at x0
              simp only [show ((1 : UInt8).toNat : Int) = 1 from rfl] at hV1
              obtain ⟨y0, y1, y2, y3, y4, y5, y6, y7⟩ := hcells.out V1 (Below.refl _ _)
              rw [hk1] at y0
              rw [hli] at y6
              rw [hri] at y7
              simp at y0
              clear y1 y2 y3 y4 y5
              have hrk : ri < k := by
                rcases r1' with e | e
                · exact absurd (hk1.symm.trans e) (by decide)
                · omega
              have hrI0 : (0 : Int) ≤ (ri : Int) := by omega
              have hrI1 : (ri : Int) < (ns.length : Int) := by omega
              obtain ⟨yr, hyr⟩ : ∃ y, ns[ri]? = some y := ⟨_, List.getElem?_eq_getElem (by omega)⟩
              have hkr : kindAt ns ri = yr.kind := by unfold kindAt; rw [hyr]
              have ny2 := hid (fun W' (hb : Below V1.heap.size V1 W') => hcsH.out W' (hlowV.out W' hb) ri yr hyr)
              have hTr := hid (hsh.out _ (List.mem_of_getElem? (txAt_get (tx := textsD ns k) (i := ri) (by rw [hlenT.out]; exact hrk))))
              have hS := hid (fun W' (hb : Below V1.heap.size V1 W') => show W'.cell? ⟨V.heap.size, 6, none⟩ = some (.int .i64 (li : Int)) ∧ W'.cell? ⟨V.heap.size, 7, none⟩ = some (.int .i64 (ri : Int)) ∧ W'.cell? ⟨b, off + li * 8, none⟩ = some (.int .u8 (yl.kind.toNat : Int)) ∧ W'.cell? ⟨b, off + ri * 8, none⟩ = some (.int .u8 (yr.kind.toNat : Int)) from by
                obtain ⟨-, -, -, -, -, -, e6, e7⟩ := hcells.out W' hb
                exact ⟨by rw [e6, hli], by rw [e7, hri], ny.out W' hb, ny2.out W' hb⟩)
              obtain ⟨-, -, nl0, nr0⟩ := hS.out V1 (Below.refl _ _)
              cases htl2 : ((yl.kind.toNat : Int) == 2)
              · cases htr1 : ((yr.kind.toNat : Int) == 1)
                · cases htr2 : ((yr.kind.toNat : Int) == 2)
                  · as_aux_lemma =>
                    have ptl2 : (yl.kind == 2) = false := (kind_eqD yl.kind 2).symm.trans htl2
                    have ptr1 : (yr.kind == 1) = false := (kind_eqD yr.kind 1).symm.trans htr1
                    have ptr2 : (yr.kind == 2) = false := (kind_eqD yr.kind 2).symm.trans htr2
                    have hE : Hid (nodeT ns (textsD ns k) x = sideT (txAt (textsD ns k) li) false ++ (32 :: 97 :: 110 :: 100 :: 32 :: sideT (txAt (textsD ns k) ri) false)) := by
                      show _ = _
                      rw [nodeT, if_neg hk0, if_pos hk1, hli, hri, Int.toNat_natCast, Int.toNat_natCast, hkl, hkr]
                      simp [ptl2, ptr1, ptr2]
                    have c1 := hid (fun W hb => cSd.out W hb li hlk false)
                    have c2 := hid (fun W hb => cSd.out W hb ri hrk false)
                    have lS1 := sideT_len (txAt (textsD ns k) li) false
                    have lS2 := sideT_len (txAt (textsD ns k) ri) false
                    have hTl' := hTl.out
                    have hTr' := hTr.out
                    have hcat := hid (and_cat (sideT (txAt (textsD ns k) li) false) (sideT (txAt (textsD ns k) ri) false))
                    rw [← hE.out] at hcat
                    generalize sideT (txAt (textsD ns k) li) false = SL at *
                    generalize sideT (txAt (textsD ns k) ri) false = SR at *
                    have k1 : (9223372036854775807 < SL.length + 5) = False := eq_false (by omega)
                    have k2 : (9223372036854775807 < SL.length + 5 + SR.length) = False := eq_false (by omega)
                    clear hcells cSd ny hTl
                    clear hmsH
                    go_wp2_with fail
                    refine wp_region_held_drew (S := fun w' : World => w'.cell? ⟨V.heap.size, 6, none⟩ = some (.int .i64 (li : Int)) ∧ w'.cell? ⟨V.heap.size, 7, none⟩ = some (.int .i64 (ri : Int)) ∧ w'.cell? ⟨b, off + li * 8, none⟩ = some (.int .u8 (yl.kind.toNat : Int)) ∧ w'.cell? ⟨b, off + ri * 8, none⟩ = some (.int .u8 (yr.kind.toNat : Int))) (by kernel_rfl) (hS.out _ d0.out) (fun hHeld => ?_)
                    refine wpAnyH_take (i := 0) (v := ?v1) (by simp only [List.getElem?_toArray, List.getElem?_cons_zero]; rfl) (by kernel_rfl) (by kernel_rfl) (by kernel_rfl) (by exact fun _ _ _ h => h) (Or.inl ⟨by kernel_rfl, ?hy1⟩) (by assumption) ?rest1; (case hy1 => (intro w hSw; (try dsimp only at hSw); go_simp) <;> with_reducible rfl); go_frame; refine wpAnyH_take (i := 1) (v := ?v2) (by simp only [List.getElem?_toArray, List.getElem?_cons_succ, List.getElem?_cons_zero]; rfl) (by kernel_rfl) (by kernel_rfl) (by kernel_rfl) (by exact fun _ _ _ h => h) (Or.inl ⟨by kernel_rfl, ?hy2⟩) (by assumption) ?rest2; (case hy2 => (intro w hSw; (try dsimp only at hSw); go_simp) <;> with_reducible rfl); go_frame; refine wpAnyH_take (i := 2) (v := ?v3) (by simp only [List.getElem?_toArray, List.getElem?_cons_succ, List.getElem?_cons_zero]; rfl) (by kernel_rfl) (by kernel_rfl) (by kernel_rfl) (by exact fun _ _ _ h => h) (Or.inl ⟨by kernel_rfl, ?hy3⟩) (by assumption) ?rest3; (case hy3 => (intro w hSw; (try dsimp only at hSw); go_simp) <;> with_reducible rfl); go_frame; refine wpAnyH_take (i := 3) (v := ?v4) (by simp only [List.getElem?_toArray, List.getElem?_cons_succ, List.getElem?_cons_zero]; rfl) (by kernel_rfl) (by kernel_rfl) (by kernel_rfl) (by exact fun _ _ _ h => h) (Or.inl ⟨by kernel_rfl, ?hy4⟩) (by assumption) ?rest4; (case hy4 => (intro w hSw; (try dsimp only at hSw); go_simp) <;> with_reducible rfl); go_frame; refine wpAnyH_take (i := 4) (v := ?v5) (by simp only [List.getElem?_toArray, List.getElem?_cons_succ, List.getElem?_cons_zero]; rfl) (by kernel_rfl) (by kernel_rfl) (by kernel_rfl) (by exact fun _ _ _ h => h) (Or.inl ⟨by kernel_rfl, ?hy5⟩) (by assumption) ?rest5; (case hy5 => (intro w hSw; (try dsimp only at hSw); go_simp) <;> with_reducible rfl); go_frame; refine wpAnyH_take (i := 5) (v := ?v6) (by simp only [List.getElem?_toArray, List.getElem?_cons_succ, List.getElem?_cons_zero]; rfl) (by kernel_rfl) (by kernel_rfl) (by kernel_rfl) (by exact fun _ _ _ h => h) (Or.inl ⟨by kernel_rfl, ?hy6⟩) (by assumption) ?rest6; (case hy6 => (intro w hSw; (try dsimp only at hSw); go_simp) <;> with_reducible rfl); go_frame; refine wpAnyH_take (i := 6) (v := ?v7) (by simp only [List.getElem?_toArray, List.getElem?_cons_succ, List.getElem?_cons_zero]; rfl) (by kernel_rfl) (by kernel_rfl) (by kernel_rfl) (by exact fun _ _ _ h => h) (Or.inl ⟨by kernel_rfl, ?hy7⟩) (by assumption) ?rest7; (case hy7 => (intro w hSw; (try dsimp only at hSw); go_simp) <;> with_reducible rfl); go_frame; refine wpAnyH_take (i := 7) (v := ?v8) (by simp only [List.getElem?_toArray, List.getElem?_cons_succ, List.getElem?_cons_zero]; rfl) (by kernel_rfl) (by kernel_rfl) (by kernel_rfl) (by exact fun _ _ _ h => h) (Or.inl ⟨by kernel_rfl, ?hy8⟩) (by assumption) ?rest8; (case hy8 => (intro w hSw; (try dsimp only at hSw); go_simp) <;> with_reducible rfl); go_frame; refine wpAnyH_take (i := 8) (v := ?v9) (by simp only [List.getElem?_toArray, List.getElem?_cons_succ, List.getElem?_cons_zero]; rfl) (by kernel_rfl) (by kernel_rfl) (by kernel_rfl) (by exact fun _ _ _ h => h) (Or.inl ⟨by kernel_rfl, ?hy9⟩) (by assumption) ?rest9; (case hy9 => (intro w hSw; (try dsimp only at hSw); go_simp) <;> with_reducible rfl); go_frame; refine wpAnyH_take (i := 9) (v := ?v10) (by simp only [List.getElem?_toArray, List.getElem?_cons_succ, List.getElem?_cons_zero]; rfl) (by kernel_rfl) (by kernel_rfl) (by kernel_rfl) (by exact fun _ _ _ h => h) (Or.inl ⟨by kernel_rfl, ?hy10⟩) (by assumption) ?rest10; (case hy10 => (intro w hSw; (try dsimp only at hSw); go_simp) <;> with_reducible rfl); go_frame; refine wpAnyH_take (i := 10) (v := ?v11) (by simp only [List.getElem?_toArray, List.getElem?_cons_succ, List.getElem?_cons_zero]; rfl) (by kernel_rfl) (by kernel_rfl) (by kernel_rfl) (by exact fun _ _ _ h => h) (Or.inl ⟨by kernel_rfl, ?hy11⟩) (by assumption) ?rest11; (case hy11 => (intro w hSw; (try dsimp only at hSw); go_simp) <;> with_reducible rfl); go_frame; refine wpAnyH_take (i := 11) (v := ?v12) (by simp only [List.getElem?_toArray, List.getElem?_cons_succ, List.getElem?_cons_zero]; rfl) (by kernel_rfl) (by kernel_rfl) (by kernel_rfl) (by exact fun _ _ _ h => h) (Or.inl ⟨by kernel_rfl, ?hy12⟩) (by assumption) ?rest12; (case hy12 => (intro w hSw; (try dsimp only at hSw); go_simp) <;> with_reducible rfl); go_frame; refine wpAnyH_take (i := 12) (v := ?v13) (by simp only [List.getElem?_toArray, List.getElem?_cons_succ, List.getElem?_cons_zero]; rfl) (by kernel_rfl) (by kernel_rfl) (by kernel_rfl) (by exact fun _ _ _ h => h) (Or.inl ⟨by kernel_rfl, ?hy13⟩) (by assumption) ?rest13; (case hy13 => (intro w hSw; (try dsimp only at hSw); go_simp) <;> with_reducible rfl); go_frame; refine wpAnyH_take (i := 15) (v := ?v14) (by simp only [List.getElem?_toArray, List.getElem?_cons_succ, List.getElem?_cons_zero]; rfl) (by kernel_rfl) (by kernel_rfl) (by kernel_rfl) (by exact fun _ _ _ h => h) (Or.inl ⟨by kernel_rfl, ?hy14⟩) (by assumption) ?rest14; (case hy14 => (intro w hSw; (try dsimp only at hSw); go_simp) <;> with_reducible rfl); go_frame; refine wpAnyH_take (i := 16) (v := ?v15) (by simp only [List.getElem?_toArray, List.getElem?_cons_succ, List.getElem?_cons_zero]; rfl) (by kernel_rfl) (by kernel_rfl) (by kernel_rfl) (by exact fun _ _ _ h => h) (Or.inl ⟨by kernel_rfl, ?hy15⟩) (by assumption) ?rest15; (case hy15 => (intro w hSw; (try dsimp only at hSw); go_simp) <;> with_reducible rfl); go_frame; refine wpAnyH_take (i := 17) (v := ?v16) (by simp only [List.getElem?_toArray, List.getElem?_cons_succ, List.getElem?_cons_zero]; rfl) (by kernel_rfl) (by kernel_rfl) (by kernel_rfl) (by exact fun _ _ _ h => h) (Or.inl ⟨by kernel_rfl, ?hy16⟩) (by assumption) ?rest16; (case hy16 => (intro w hSw; (try dsimp only at hSw); go_simp) <;> with_reducible rfl); go_frame; refine wpAnyH_take (i := 18) (v := ?v17) (by simp only [List.getElem?_toArray, List.getElem?_cons_succ, List.getElem?_cons_zero]; rfl) (by kernel_rfl) (by kernel_rfl) (by kernel_rfl) (by exact fun _ _ _ h => h) (Or.inl ⟨by kernel_rfl, ?hy17⟩) (by assumption) ?rest17; (case hy17 => (intro w hSw; (try dsimp only at hSw); go_simp) <;> with_reducible rfl); go_frame; refine wpAnyH_take (i := 19) (v := ?v18) (by simp only [List.getElem?_toArray, List.getElem?_cons_succ, List.getElem?_cons_zero]; rfl) (by kernel_rfl) (by kernel_rfl) (by kernel_rfl) (by exact fun _ _ _ h => h) (Or.inl ⟨by kernel_rfl, ?hy18⟩) (by assumption) ?rest18; (case hy18 => (intro w hSw; (try dsimp only at hSw); go_simp) <;> with_reducible rfl); go_frame; refine wpAnyH_take (i := 20) (v := ?v19) (by simp only [List.getElem?_toArray, List.getElem?_cons_succ, List.getElem?_cons_zero]; rfl) (by kernel_rfl) (by kernel_rfl) (by kernel_rfl) (by exact fun _ _ _ h => h) (Or.inl ⟨by kernel_rfl, ?hy19⟩) (by assumption) ?rest19; (case hy19 => (intro w hSw; (try dsimp only at hSw); go_simp) <;> with_reducible rfl); go_frame; refine wpAnyH_take (i := 21) (v := ?v20) (by simp only [List.getElem?_toArray, List.getElem?_cons_succ, List.getElem?_cons_zero]; rfl) (by kernel_rfl) (by kernel_rfl) (by kernel_rfl) (by exact fun _ _ _ h => h) (Or.inl ⟨by kernel_rfl, ?hy20⟩) (by assumption) ?rest20; (case hy20 => (intro w hSw; (try dsimp only at hSw); go_simp) <;> with_reducible rfl); go_frame; refine wpAnyH_take (i := 22) (v := ?v21) (by simp only [List.getElem?_toArray, List.getElem?_cons_succ, List.getElem?_cons_zero]; rfl) (by kernel_rfl) (by kernel_rfl) (by kernel_rfl) (by exact fun _ _ _ h => h) (Or.inl ⟨by kernel_rfl, ?hy21⟩) (by assumption) ?rest21; (case hy21 => (intro w hSw; (try dsimp only at hSw); go_simp) <;> with_reducible rfl); go_frame; refine wpAnyH_take (i := 23) (v := ?v22) (by simp only [List.getElem?_toArray, List.getElem?_cons_succ, List.getElem?_cons_zero]; rfl) (by kernel_rfl) (by kernel_rfl) (by kernel_rfl) (by exact fun _ _ _ h => h) (Or.inl ⟨by kernel_rfl, ?hy22⟩) (by assumption) ?rest22; (case hy22 => (intro w hSw; (try dsimp only at hSw); go_simp) <;> with_reducible rfl); go_frame; refine wpAnyH_take (i := 24) (v := ?v23) (by simp only [List.getElem?_toArray, List.getElem?_cons_succ, List.getElem?_cons_zero]; rfl) (by kernel_rfl) (by kernel_rfl) (by kernel_rfl) (by exact fun _ _ _ h => h) (Or.inl ⟨by kernel_rfl, ?hy23⟩) (by assumption) ?rest23; (case hy23 => (intro w hSw; (try dsimp only at hSw); go_simp) <;> with_reducible rfl); go_frame; refine wpAnyH_take (i := 25) (v := ?v24) (by simp only [List.getElem?_toArray, List.getElem?_cons_succ, List.getElem?_cons_zero]; rfl) (by kernel_rfl) (by kernel_rfl) (by kernel_rfl) (by exact fun _ _ _ h => h) (Or.inl ⟨by kernel_rfl, ?hy24⟩) (by assumption) ?rest24; (case hy24 => (intro w hSw; (try dsimp only at hSw); go_simp) <;> with_reducible rfl); go_frame
                    refine wpAnyH_ready (rs := [13]) (by kernel_rfl) (by simp) ?_; refine AllReadyH.cons rfl (fun K hK => ?_) AllReadyH.nil; go_simp
                    refine (c1.out _ d0.out).mono ?_
                    rintro e X1 ⟨rfl, b1⟩
                    have D1 := hid (low' d0.out b1)
                    have hS1 := hS.out _ D1.out
                    clear hHeld b1
                    go_wp2
                    refine hK.out _ _ hS1 (fun hHeld => ?_)
                    clear hK K hS1
                    try go_frame
                    refine wpAnyH_take (i := 14) (v := ?v25) (by simp only [List.getElem?_toArray, List.getElem?_cons_succ, List.getElem?_cons_zero]; rfl) (by kernel_rfl) (by kernel_rfl) (by kernel_rfl) (by exact fun _ _ _ h => h) (Or.inl ⟨by kernel_rfl, ?hy25⟩) (by assumption) ?rest25; (case hy25 => (intro w hSw; (try dsimp only at hSw); go_simp) <;> with_reducible rfl); go_frame; refine wpAnyH_take (i := 26) (v := ?v26) (by simp only [List.getElem?_toArray, List.getElem?_cons_succ, List.getElem?_cons_zero]; rfl) (by kernel_rfl) (by kernel_rfl) (by kernel_rfl) (by exact fun _ _ _ h => h) (Or.inl ⟨by kernel_rfl, ?hy26⟩) (by assumption) ?rest26; (case hy26 => (intro w hSw; (try dsimp only at hSw); go_simp) <;> with_reducible rfl); go_frame
                    refine wpAnyH_take (i := 27) (v := ?v27) (by simp only [List.getElem?_toArray, List.getElem?_cons_succ, List.getElem?_cons_zero]; rfl) (by kernel_rfl) (by kernel_rfl) (by kernel_rfl) (by exact fun _ _ _ h => h) (Or.inl ⟨by kernel_rfl, ?hy27⟩) (by assumption) ?rest27; (case hy27 => (intro w hSw; (try dsimp only at hSw); go_simp) <;> with_reducible rfl); go_frame; refine wpAnyH_take (i := 28) (v := ?v28) (by simp only [List.getElem?_toArray, List.getElem?_cons_succ, List.getElem?_cons_zero]; rfl) (by kernel_rfl) (by kernel_rfl) (by kernel_rfl) (by exact fun _ _ _ h => h) (Or.inl ⟨by kernel_rfl, ?hy28⟩) (by assumption) ?rest28; (case hy28 => (intro w hSw; (try dsimp only at hSw); go_simp) <;> with_reducible rfl); go_frame; refine wpAnyH_take (i := 29) (v := ?v29) (by simp only [List.getElem?_toArray, List.getElem?_cons_succ, List.getElem?_cons_zero]; rfl) (by kernel_rfl) (by kernel_rfl) (by kernel_rfl) (by exact fun _ _ _ h => h) (Or.inl ⟨by kernel_rfl, ?hy29⟩) (by assumption) ?rest29; (case hy29 => (intro w hSw; (try dsimp only at hSw); go_simp) <;> with_reducible rfl); go_frame; refine wpAnyH_take (i := 30) (v := ?v30) (by simp only [List.getElem?_toArray, List.getElem?_cons_succ, List.getElem?_cons_zero]; rfl) (by kernel_rfl) (by kernel_rfl) (by kernel_rfl) (by exact fun _ _ _ h => h) (Or.inl ⟨by kernel_rfl, ?hy30⟩) (by assumption) ?rest30; (case hy30 => (intro w hSw; (try dsimp only at hSw); go_simp) <;> with_reducible rfl); go_frame; refine wpAnyH_take (i := 31) (v := ?v31) (by simp only [List.getElem?_toArray, List.getElem?_cons_succ, List.getElem?_cons_zero]; rfl) (by kernel_rfl) (by kernel_rfl) (by kernel_rfl) (by exact fun _ _ _ h => h) (Or.inl ⟨by kernel_rfl, ?hy31⟩) (by assumption) ?rest31; (case hy31 => (intro w hSw; (try dsimp only at hSw); go_simp) <;> with_reducible rfl); go_frame; refine wpAnyH_take (i := 32) (v := ?v32) (by simp only [List.getElem?_toArray, List.getElem?_cons_succ, List.getElem?_cons_zero]; rfl) (by kernel_rfl) (by kernel_rfl) (by kernel_rfl) (by exact fun _ _ _ h => h) (Or.inl ⟨by kernel_rfl, ?hy32⟩) (by assumption) ?rest32; (case hy32 => (intro w hSw; (try dsimp only at hSw); go_simp) <;> with_reducible rfl); go_frame; refine wpAnyH_take (i := 33) (v := ?v33) (by simp only [List.getElem?_toArray, List.getElem?_cons_succ, List.getElem?_cons_zero]; rfl) (by kernel_rfl) (by kernel_rfl) (by kernel_rfl) (by exact fun _ _ _ h => h) (Or.inl ⟨by kernel_rfl, ?hy33⟩) (by assumption) ?rest33; (case hy33 => (intro w hSw; (try dsimp only at hSw); go_simp) <;> with_reducible rfl); go_frame
                    refine wpAnyH_take (i := 34) (v := ?v34) (by simp only [List.getElem?_toArray, List.getElem?_cons_succ, List.getElem?_cons_zero]; rfl) (by kernel_rfl) (by kernel_rfl) (by kernel_rfl) (by exact fun _ _ _ h => h) (Or.inl ⟨by kernel_rfl, ?hy34⟩) (by assumption) ?rest34; (case hy34 => (intro w hSw; (try dsimp only at hSw); go_simp) <;> with_reducible rfl); go_frame
                    refine wpAnyH_ready (rs := [35]) (by kernel_rfl) (by simp) ?_; refine AllReadyH.cons rfl (fun K hK => ?_) AllReadyH.nil; go_simp
                    refine (c2.out _ D1.out).mono ?_
                    rintro e X2 ⟨rfl, b2⟩
                    have D2 := hid (low' D1.out b2)
                    have hS1 := hS.out _ D2.out
                    obtain ⟨ut, ct, ft⟩ := (hXl.out _ D2.out).cell k hkn'
                    clear hHeld b2
                    go_wp2
                    refine hK.out _ _ hS1 (fun hHeld => ?_)
                    clear hK K hS1
                    try go_frame
                    refine wpAnyH_take (i := 36) (v := ?v35) (by simp only [List.getElem?_toArray, List.getElem?_cons_succ, List.getElem?_cons_zero]; rfl) (by kernel_rfl) (by kernel_rfl) (by kernel_rfl) (by exact fun _ _ _ h => h) (Or.inl ⟨by kernel_rfl, ?hy35⟩) (by assumption) ?rest35; (case hy35 => (intro w hSw; (try dsimp only at hSw); go_simp) <;> with_reducible rfl); go_frame; refine wpAnyH_take (i := 37) (v := ?v36) (by simp only [List.getElem?_toArray, List.getElem?_cons_succ, List.getElem?_cons_zero]; rfl) (by kernel_rfl) (by kernel_rfl) (by kernel_rfl) (by exact fun _ _ _ h => h) (Or.inl ⟨by kernel_rfl, ?hy36⟩) (by assumption) ?rest36; (case hy36 => (intro w hSw; (try dsimp only at hSw); go_simp) <;> with_reducible rfl); go_frame
                    refine wpAnyH_ready (rs := [38]) (by kernel_rfl) (by simp) ?_; refine AllReadyH.cons rfl (fun K hK => ?_) AllReadyH.nil; go_simp
                    have hS2 := hS.out _ D2.out
                    refine hK.out _ _ ⟨(World.cell?_setCell_far _ _ _ _ hne2).trans hS2.1, (World.cell?_setCell_far _ _ _ _ hne2).trans hS2.2.1, (World.cell?_setCell_far _ _ _ _ hbT2).trans hS2.2.2.1, (World.cell?_setCell_far _ _ _ _ hbT2).trans hS2.2.2.2⟩ (fun hHeld => ?_)
                    clear hK K hS2 hHeld
                    try go_frame
                    refine wpAnyH_done (by kernel_rfl) ?_ _
                    all_goals
                      rw [hcat.out]
                      have hP := hid ((hXl.out _ D2.out).push k hlenT.out hkn' (nodeT ns (textsD ns k) x))
                      rw [← htx.out] at hP
                      have hBP := hid ((hlow.out _ D2.out).setCell (p := ⟨TB, k, none⟩) htb.out (.string ⟨(nodeT ns (textsD ns k) x).toArray⟩))
                      obtain ⟨P6, hP6⟩ : ∃ P6, X2.setCell ⟨TB, k, none⟩ (.string ⟨(nodeT ns (textsD ns k) x).toArray⟩) = P6 := ⟨_, rfl⟩
                      rw [hP6] at hP hBP ⊢
                      have cT := hP.out.get (k := k) (x := nodeT ns (textsD ns k) x) (by rw [htx.out, List.getElem?_append_right (by rw [hlenT.out]; omega), hlenT.out, Nat.sub_self]; rfl)
                      have hbad2 := hbad
                      have hgood2 := hgood
                      clear hP6 hbad hgood htx hE hcat hXl hlow hlowV
                      generalize nodeT ns (textsD ns k) x = E at *
                      by_cases hlong : 20000 < E.length
                      · have hd := hbad2.out hlong
                        subst hd
                        have q5 : decide ((20000 : Int) < (E.length : Int)) = true := decide_eq_true (by omega)
                        go_wp2
                        go_ret
                        exact ⟨rfl, hBP.out⟩
                      · have q5 : decide ((20000 : Int) < (E.length : Int)) = false := decide_eq_false (by omega)
                        have hg := hid (hgood2.out (by omega))
                        clear hbad2 hgood2
                        go_wp2
                        exact ⟨⟨k + 1, by simp, by omega, hBP, hP, hg⟩, by simp [intOf]; omega⟩
                  · as_aux_lemma =>
                    have ptl2 : (yl.kind == 2) = false := (kind_eqD yl.kind 2).symm.trans htl2
                    have ptr1 : (yr.kind == 1) = false := (kind_eqD yr.kind 1).symm.trans htr1
                    have ptr2 : (yr.kind == 2) = true := (kind_eqD yr.kind 2).symm.trans htr2
                    have hE : Hid (nodeT ns (textsD ns k) x = sideT (txAt (textsD ns k) li) false ++ (32 :: 97 :: 110 :: 100 :: 32 :: sideT (txAt (textsD ns k) ri) true)) := by
                      show _ = _
                      rw [nodeT, if_neg hk0, if_pos hk1, hli, hri, Int.toNat_natCast, Int.toNat_natCast, hkl, hkr]
                      simp [ptl2, ptr1, ptr2]
                    have c1 := hid (fun W hb => cSd.out W hb li hlk false)
                    have c2 := hid (fun W hb => cSd.out W hb ri hrk true)
                    have lS1 := sideT_len (txAt (textsD ns k) li) false
                    have lS2 := sideT_len (txAt (textsD ns k) ri) true
                    have hTl' := hTl.out
                    have hTr' := hTr.out
                    have hcat := hid (and_cat (sideT (txAt (textsD ns k) li) false) (sideT (txAt (textsD ns k) ri) true))
                    rw [← hE.out] at hcat
                    generalize sideT (txAt (textsD ns k) li) false = SL at *
                    generalize sideT (txAt (textsD ns k) ri) true = SR at *
                    have k1 : (9223372036854775807 < SL.length + 5) = False := eq_false (by omega)
                    have k2 : (9223372036854775807 < SL.length + 5 + SR.length) = False := eq_false (by omega)
                    clear hcells cSd ny hTl
                    clear hmsH
                    go_wp2_with fail
                    refine wp_region_held_drew (S := fun w' : World => w'.cell? ⟨V.heap.size, 6, none⟩ = some (.int .i64 (li : Int)) ∧ w'.cell? ⟨V.heap.size, 7, none⟩ = some (.int .i64 (ri : Int)) ∧ w'.cell? ⟨b, off + li * 8, none⟩ = some (.int .u8 (yl.kind.toNat : Int)) ∧ w'.cell? ⟨b, off + ri * 8, none⟩ = some (.int .u8 (yr.kind.toNat : Int))) (by kernel_rfl) (hS.out _ d0.out) (fun hHeld => ?_)
                    refine wpAnyH_take (i := 0) (v := ?v37) (by simp only [List.getElem?_toArray, List.getElem?_cons_zero]; rfl) (by kernel_rfl) (by kernel_rfl) (by kernel_rfl) (by exact fun _ _ _ h => h) (Or.inl ⟨by kernel_rfl, ?hy37⟩) (by assumption) ?rest37; (case hy37 => (intro w hSw; (try dsimp only at hSw); go_simp) <;> with_reducible rfl); go_frame; refine wpAnyH_take (i := 1) (v := ?v38) (by simp only [List.getElem?_toArray, List.getElem?_cons_succ, List.getElem?_cons_zero]; rfl) (by kernel_rfl) (by kernel_rfl) (by kernel_rfl) (by exact fun _ _ _ h => h) (Or.inl ⟨by kernel_rfl, ?hy38⟩) (by assumption) ?rest38; (case hy38 => (intro w hSw; (try dsimp only at hSw); go_simp) <;> with_reducible rfl); go_frame; refine wpAnyH_take (i := 2) (v := ?v39) (by simp only [List.getElem?_toArray, List.getElem?_cons_succ, List.getElem?_cons_zero]; rfl) (by kernel_rfl) (by kernel_rfl) (by kernel_rfl) (by exact fun _ _ _ h => h) (Or.inl ⟨by kernel_rfl, ?hy39⟩) (by assumption) ?rest39; (case hy39 => (intro w hSw; (try dsimp only at hSw); go_simp) <;> with_reducible rfl); go_frame; refine wpAnyH_take (i := 3) (v := ?v40) (by simp only [List.getElem?_toArray, List.getElem?_cons_succ, List.getElem?_cons_zero]; rfl) (by kernel_rfl) (by kernel_rfl) (by kernel_rfl) (by exact fun _ _ _ h => h) (Or.inl ⟨by kernel_rfl, ?hy40⟩) (by assumption) ?rest40; (case hy40 => (intro w hSw; (try dsimp only at hSw); go_simp) <;> with_reducible rfl); go_frame; refine wpAnyH_take (i := 4) (v := ?v41) (by simp only [List.getElem?_toArray, List.getElem?_cons_succ, List.getElem?_cons_zero]; rfl) (by kernel_rfl) (by kernel_rfl) (by kernel_rfl) (by exact fun _ _ _ h => h) (Or.inl ⟨by kernel_rfl, ?hy41⟩) (by assumption) ?rest41; (case hy41 => (intro w hSw; (try dsimp only at hSw); go_simp) <;> with_reducible rfl); go_frame; refine wpAnyH_take (i := 5) (v := ?v42) (by simp only [List.getElem?_toArray, List.getElem?_cons_succ, List.getElem?_cons_zero]; rfl) (by kernel_rfl) (by kernel_rfl) (by kernel_rfl) (by exact fun _ _ _ h => h) (Or.inl ⟨by kernel_rfl, ?hy42⟩) (by assumption) ?rest42; (case hy42 => (intro w hSw; (try dsimp only at hSw); go_simp) <;> with_reducible rfl); go_frame; refine wpAnyH_take (i := 6) (v := ?v43) (by simp only [List.getElem?_toArray, List.getElem?_cons_succ, List.getElem?_cons_zero]; rfl) (by kernel_rfl) (by kernel_rfl) (by kernel_rfl) (by exact fun _ _ _ h => h) (Or.inl ⟨by kernel_rfl, ?hy43⟩) (by assumption) ?rest43; (case hy43 => (intro w hSw; (try dsimp only at hSw); go_simp) <;> with_reducible rfl); go_frame; refine wpAnyH_take (i := 7) (v := ?v44) (by simp only [List.getElem?_toArray, List.getElem?_cons_succ, List.getElem?_cons_zero]; rfl) (by kernel_rfl) (by kernel_rfl) (by kernel_rfl) (by exact fun _ _ _ h => h) (Or.inl ⟨by kernel_rfl, ?hy44⟩) (by assumption) ?rest44; (case hy44 => (intro w hSw; (try dsimp only at hSw); go_simp) <;> with_reducible rfl); go_frame; refine wpAnyH_take (i := 8) (v := ?v45) (by simp only [List.getElem?_toArray, List.getElem?_cons_succ, List.getElem?_cons_zero]; rfl) (by kernel_rfl) (by kernel_rfl) (by kernel_rfl) (by exact fun _ _ _ h => h) (Or.inl ⟨by kernel_rfl, ?hy45⟩) (by assumption) ?rest45; (case hy45 => (intro w hSw; (try dsimp only at hSw); go_simp) <;> with_reducible rfl); go_frame; refine wpAnyH_take (i := 9) (v := ?v46) (by simp only [List.getElem?_toArray, List.getElem?_cons_succ, List.getElem?_cons_zero]; rfl) (by kernel_rfl) (by kernel_rfl) (by kernel_rfl) (by exact fun _ _ _ h => h) (Or.inl ⟨by kernel_rfl, ?hy46⟩) (by assumption) ?rest46; (case hy46 => (intro w hSw; (try dsimp only at hSw); go_simp) <;> with_reducible rfl); go_frame; refine wpAnyH_take (i := 10) (v := ?v47) (by simp only [List.getElem?_toArray, List.getElem?_cons_succ, List.getElem?_cons_zero]; rfl) (by kernel_rfl) (by kernel_rfl) (by kernel_rfl) (by exact fun _ _ _ h => h) (Or.inl ⟨by kernel_rfl, ?hy47⟩) (by assumption) ?rest47; (case hy47 => (intro w hSw; (try dsimp only at hSw); go_simp) <;> with_reducible rfl); go_frame; refine wpAnyH_take (i := 11) (v := ?v48) (by simp only [List.getElem?_toArray, List.getElem?_cons_succ, List.getElem?_cons_zero]; rfl) (by kernel_rfl) (by kernel_rfl) (by kernel_rfl) (by exact fun _ _ _ h => h) (Or.inl ⟨by kernel_rfl, ?hy48⟩) (by assumption) ?rest48; (case hy48 => (intro w hSw; (try dsimp only at hSw); go_simp) <;> with_reducible rfl); go_frame; refine wpAnyH_take (i := 12) (v := ?v49) (by simp only [List.getElem?_toArray, List.getElem?_cons_succ, List.getElem?_cons_zero]; rfl) (by kernel_rfl) (by kernel_rfl) (by kernel_rfl) (by exact fun _ _ _ h => h) (Or.inl ⟨by kernel_rfl, ?hy49⟩) (by assumption) ?rest49; (case hy49 => (intro w hSw; (try dsimp only at hSw); go_simp) <;> with_reducible rfl); go_frame; refine wpAnyH_take (i := 15) (v := ?v50) (by simp only [List.getElem?_toArray, List.getElem?_cons_succ, List.getElem?_cons_zero]; rfl) (by kernel_rfl) (by kernel_rfl) (by kernel_rfl) (by exact fun _ _ _ h => h) (Or.inl ⟨by kernel_rfl, ?hy50⟩) (by assumption) ?rest50; (case hy50 => (intro w hSw; (try dsimp only at hSw); go_simp) <;> with_reducible rfl); go_frame; refine wpAnyH_take (i := 16) (v := ?v51) (by simp only [List.getElem?_toArray, List.getElem?_cons_succ, List.getElem?_cons_zero]; rfl) (by kernel_rfl) (by kernel_rfl) (by kernel_rfl) (by exact fun _ _ _ h => h) (Or.inl ⟨by kernel_rfl, ?hy51⟩) (by assumption) ?rest51; (case hy51 => (intro w hSw; (try dsimp only at hSw); go_simp) <;> with_reducible rfl); go_frame; refine wpAnyH_take (i := 17) (v := ?v52) (by simp only [List.getElem?_toArray, List.getElem?_cons_succ, List.getElem?_cons_zero]; rfl) (by kernel_rfl) (by kernel_rfl) (by kernel_rfl) (by exact fun _ _ _ h => h) (Or.inl ⟨by kernel_rfl, ?hy52⟩) (by assumption) ?rest52; (case hy52 => (intro w hSw; (try dsimp only at hSw); go_simp) <;> with_reducible rfl); go_frame; refine wpAnyH_take (i := 18) (v := ?v53) (by simp only [List.getElem?_toArray, List.getElem?_cons_succ, List.getElem?_cons_zero]; rfl) (by kernel_rfl) (by kernel_rfl) (by kernel_rfl) (by exact fun _ _ _ h => h) (Or.inl ⟨by kernel_rfl, ?hy53⟩) (by assumption) ?rest53; (case hy53 => (intro w hSw; (try dsimp only at hSw); go_simp) <;> with_reducible rfl); go_frame; refine wpAnyH_take (i := 19) (v := ?v54) (by simp only [List.getElem?_toArray, List.getElem?_cons_succ, List.getElem?_cons_zero]; rfl) (by kernel_rfl) (by kernel_rfl) (by kernel_rfl) (by exact fun _ _ _ h => h) (Or.inl ⟨by kernel_rfl, ?hy54⟩) (by assumption) ?rest54; (case hy54 => (intro w hSw; (try dsimp only at hSw); go_simp) <;> with_reducible rfl); go_frame; refine wpAnyH_take (i := 20) (v := ?v55) (by simp only [List.getElem?_toArray, List.getElem?_cons_succ, List.getElem?_cons_zero]; rfl) (by kernel_rfl) (by kernel_rfl) (by kernel_rfl) (by exact fun _ _ _ h => h) (Or.inl ⟨by kernel_rfl, ?hy55⟩) (by assumption) ?rest55; (case hy55 => (intro w hSw; (try dsimp only at hSw); go_simp) <;> with_reducible rfl); go_frame; refine wpAnyH_take (i := 21) (v := ?v56) (by simp only [List.getElem?_toArray, List.getElem?_cons_succ, List.getElem?_cons_zero]; rfl) (by kernel_rfl) (by kernel_rfl) (by kernel_rfl) (by exact fun _ _ _ h => h) (Or.inl ⟨by kernel_rfl, ?hy56⟩) (by assumption) ?rest56; (case hy56 => (intro w hSw; (try dsimp only at hSw); go_simp) <;> with_reducible rfl); go_frame; refine wpAnyH_take (i := 22) (v := ?v57) (by simp only [List.getElem?_toArray, List.getElem?_cons_succ, List.getElem?_cons_zero]; rfl) (by kernel_rfl) (by kernel_rfl) (by kernel_rfl) (by exact fun _ _ _ h => h) (Or.inl ⟨by kernel_rfl, ?hy57⟩) (by assumption) ?rest57; (case hy57 => (intro w hSw; (try dsimp only at hSw); go_simp) <;> with_reducible rfl); go_frame; refine wpAnyH_take (i := 23) (v := ?v58) (by simp only [List.getElem?_toArray, List.getElem?_cons_succ, List.getElem?_cons_zero]; rfl) (by kernel_rfl) (by kernel_rfl) (by kernel_rfl) (by exact fun _ _ _ h => h) (Or.inl ⟨by kernel_rfl, ?hy58⟩) (by assumption) ?rest58; (case hy58 => (intro w hSw; (try dsimp only at hSw); go_simp) <;> with_reducible rfl); go_frame; refine wpAnyH_take (i := 24) (v := ?v59) (by simp only [List.getElem?_toArray, List.getElem?_cons_succ, List.getElem?_cons_zero]; rfl) (by kernel_rfl) (by kernel_rfl) (by kernel_rfl) (by exact fun _ _ _ h => h) (Or.inl ⟨by kernel_rfl, ?hy59⟩) (by assumption) ?rest59; (case hy59 => (intro w hSw; (try dsimp only at hSw); go_simp) <;> with_reducible rfl); go_frame; refine wpAnyH_take (i := 25) (v := ?v60) (by simp only [List.getElem?_toArray, List.getElem?_cons_succ, List.getElem?_cons_zero]; rfl) (by kernel_rfl) (by kernel_rfl) (by kernel_rfl) (by exact fun _ _ _ h => h) (Or.inl ⟨by kernel_rfl, ?hy60⟩) (by assumption) ?rest60; (case hy60 => (intro w hSw; (try dsimp only at hSw); go_simp) <;> with_reducible rfl); go_frame
                    refine wpAnyH_ready (rs := [13]) (by kernel_rfl) (by simp) ?_; refine AllReadyH.cons rfl (fun K hK => ?_) AllReadyH.nil; go_simp
                    refine (c1.out _ d0.out).mono ?_
                    rintro e X1 ⟨rfl, b1⟩
                    have D1 := hid (low' d0.out b1)
                    have hS1 := hS.out _ D1.out
                    clear hHeld b1
                    go_wp2
                    refine hK.out _ _ hS1 (fun hHeld => ?_)
                    clear hK K hS1
                    try go_frame
                    refine wpAnyH_take (i := 14) (v := ?v61) (by simp only [List.getElem?_toArray, List.getElem?_cons_succ, List.getElem?_cons_zero]; rfl) (by kernel_rfl) (by kernel_rfl) (by kernel_rfl) (by exact fun _ _ _ h => h) (Or.inl ⟨by kernel_rfl, ?hy61⟩) (by assumption) ?rest61; (case hy61 => (intro w hSw; (try dsimp only at hSw); go_simp) <;> with_reducible rfl); go_frame; refine wpAnyH_take (i := 26) (v := ?v62) (by simp only [List.getElem?_toArray, List.getElem?_cons_succ, List.getElem?_cons_zero]; rfl) (by kernel_rfl) (by kernel_rfl) (by kernel_rfl) (by exact fun _ _ _ h => h) (Or.inl ⟨by kernel_rfl, ?hy62⟩) (by assumption) ?rest62; (case hy62 => (intro w hSw; (try dsimp only at hSw); go_simp) <;> with_reducible rfl); go_frame
                    refine wpAnyH_take (i := 27) (v := ?v63) (by simp only [List.getElem?_toArray, List.getElem?_cons_succ, List.getElem?_cons_zero]; rfl) (by kernel_rfl) (by kernel_rfl) (by kernel_rfl) (by exact fun _ _ _ h => h) (Or.inl ⟨by kernel_rfl, ?hy63⟩) (by assumption) ?rest63; (case hy63 => (intro w hSw; (try dsimp only at hSw); go_simp) <;> with_reducible rfl); go_frame; refine wpAnyH_take (i := 28) (v := ?v64) (by simp only [List.getElem?_toArray, List.getElem?_cons_succ, List.getElem?_cons_zero]; rfl) (by kernel_rfl) (by kernel_rfl) (by kernel_rfl) (by exact fun _ _ _ h => h) (Or.inl ⟨by kernel_rfl, ?hy64⟩) (by assumption) ?rest64; (case hy64 => (intro w hSw; (try dsimp only at hSw); go_simp) <;> with_reducible rfl); go_frame; refine wpAnyH_take (i := 29) (v := ?v65) (by simp only [List.getElem?_toArray, List.getElem?_cons_succ, List.getElem?_cons_zero]; rfl) (by kernel_rfl) (by kernel_rfl) (by kernel_rfl) (by exact fun _ _ _ h => h) (Or.inl ⟨by kernel_rfl, ?hy65⟩) (by assumption) ?rest65; (case hy65 => (intro w hSw; (try dsimp only at hSw); go_simp) <;> with_reducible rfl); go_frame; refine wpAnyH_take (i := 30) (v := ?v66) (by simp only [List.getElem?_toArray, List.getElem?_cons_succ, List.getElem?_cons_zero]; rfl) (by kernel_rfl) (by kernel_rfl) (by kernel_rfl) (by exact fun _ _ _ h => h) (Or.inl ⟨by kernel_rfl, ?hy66⟩) (by assumption) ?rest66; (case hy66 => (intro w hSw; (try dsimp only at hSw); go_simp) <;> with_reducible rfl); go_frame; refine wpAnyH_take (i := 31) (v := ?v67) (by simp only [List.getElem?_toArray, List.getElem?_cons_succ, List.getElem?_cons_zero]; rfl) (by kernel_rfl) (by kernel_rfl) (by kernel_rfl) (by exact fun _ _ _ h => h) (Or.inl ⟨by kernel_rfl, ?hy67⟩) (by assumption) ?rest67; (case hy67 => (intro w hSw; (try dsimp only at hSw); go_simp) <;> with_reducible rfl); go_frame; refine wpAnyH_take (i := 32) (v := ?v68) (by simp only [List.getElem?_toArray, List.getElem?_cons_succ, List.getElem?_cons_zero]; rfl) (by kernel_rfl) (by kernel_rfl) (by kernel_rfl) (by exact fun _ _ _ h => h) (Or.inl ⟨by kernel_rfl, ?hy68⟩) (by assumption) ?rest68; (case hy68 => (intro w hSw; (try dsimp only at hSw); go_simp) <;> with_reducible rfl); go_frame; refine wpAnyH_take (i := 33) (v := ?v69) (by simp only [List.getElem?_toArray, List.getElem?_cons_succ, List.getElem?_cons_zero]; rfl) (by kernel_rfl) (by kernel_rfl) (by kernel_rfl) (by exact fun _ _ _ h => h) (Or.inl ⟨by kernel_rfl, ?hy69⟩) (by assumption) ?rest69; (case hy69 => (intro w hSw; (try dsimp only at hSw); go_simp) <;> with_reducible rfl); go_frame
                    refine wpAnyH_take (i := 34) (v := ?v70) (by simp only [List.getElem?_toArray, List.getElem?_cons_succ, List.getElem?_cons_zero]; rfl) (by kernel_rfl) (by kernel_rfl) (by kernel_rfl) (by exact fun _ _ _ h => h) (Or.inl ⟨by kernel_rfl, ?hy70⟩) (by assumption) ?rest70; (case hy70 => (intro w hSw; (try dsimp only at hSw); go_simp) <;> with_reducible rfl); go_frame
                    refine wpAnyH_ready (rs := [35]) (by kernel_rfl) (by simp) ?_; refine AllReadyH.cons rfl (fun K hK => ?_) AllReadyH.nil; go_simp
                    refine (c2.out _ D1.out).mono ?_
                    rintro e X2 ⟨rfl, b2⟩
                    have D2 := hid (low' D1.out b2)
                    have hS1 := hS.out _ D2.out
                    obtain ⟨ut, ct, ft⟩ := (hXl.out _ D2.out).cell k hkn'
                    clear hHeld b2
                    go_wp2
                    refine hK.out _ _ hS1 (fun hHeld => ?_)
                    clear hK K hS1
                    try go_frame
                    refine wpAnyH_take (i := 36) (v := ?v71) (by simp only [List.getElem?_toArray, List.getElem?_cons_succ, List.getElem?_cons_zero]; rfl) (by kernel_rfl) (by kernel_rfl) (by kernel_rfl) (by exact fun _ _ _ h => h) (Or.inl ⟨by kernel_rfl, ?hy71⟩) (by assumption) ?rest71; (case hy71 => (intro w hSw; (try dsimp only at hSw); go_simp) <;> with_reducible rfl); go_frame; refine wpAnyH_take (i := 37) (v := ?v72) (by simp only [List.getElem?_toArray, List.getElem?_cons_succ, List.getElem?_cons_zero]; rfl) (by kernel_rfl) (by kernel_rfl) (by kernel_rfl) (by exact fun _ _ _ h => h) (Or.inl ⟨by kernel_rfl, ?hy72⟩) (by assumption) ?rest72; (case hy72 => (intro w hSw; (try dsimp only at hSw); go_simp) <;> with_reducible rfl); go_frame
                    refine wpAnyH_ready (rs := [38]) (by kernel_rfl) (by simp) ?_; refine AllReadyH.cons rfl (fun K hK => ?_) AllReadyH.nil; go_simp
                    have hS2 := hS.out _ D2.out
                    refine hK.out _ _ ⟨(World.cell?_setCell_far _ _ _ _ hne2).trans hS2.1, (World.cell?_setCell_far _ _ _ _ hne2).trans hS2.2.1, (World.cell?_setCell_far _ _ _ _ hbT2).trans hS2.2.2.1, (World.cell?_setCell_far _ _ _ _ hbT2).trans hS2.2.2.2⟩ (fun hHeld => ?_)
                    clear hK K hS2 hHeld
                    try go_frame
                    refine wpAnyH_done (by kernel_rfl) ?_ _
                    all_goals
                      rw [hcat.out]
                      have hP := hid ((hXl.out _ D2.out).push k hlenT.out hkn' (nodeT ns (textsD ns k) x))
                      rw [← htx.out] at hP
                      have hBP := hid ((hlow.out _ D2.out).setCell (p := ⟨TB, k, none⟩) htb.out (.string ⟨(nodeT ns (textsD ns k) x).toArray⟩))
                      obtain ⟨P6, hP6⟩ : ∃ P6, X2.setCell ⟨TB, k, none⟩ (.string ⟨(nodeT ns (textsD ns k) x).toArray⟩) = P6 := ⟨_, rfl⟩
                      rw [hP6] at hP hBP ⊢
                      have cT := hP.out.get (k := k) (x := nodeT ns (textsD ns k) x) (by rw [htx.out, List.getElem?_append_right (by rw [hlenT.out]; omega), hlenT.out, Nat.sub_self]; rfl)
                      have hbad2 := hbad
                      have hgood2 := hgood
                      clear hP6 hbad hgood htx hE hcat hXl hlow hlowV
                      generalize nodeT ns (textsD ns k) x = E at *
                      by_cases hlong : 20000 < E.length
                      · have hd := hbad2.out hlong
                        subst hd
                        have q5 : decide ((20000 : Int) < (E.length : Int)) = true := decide_eq_true (by omega)
                        go_wp2
                        go_ret
                        exact ⟨rfl, hBP.out⟩
                      · have q5 : decide ((20000 : Int) < (E.length : Int)) = false := decide_eq_false (by omega)
                        have hg := hid (hgood2.out (by omega))
                        clear hbad2 hgood2
                        go_wp2
                        exact ⟨⟨k + 1, by simp, by omega, hBP, hP, hg⟩, by simp [intOf]; omega⟩
                · as_aux_lemma =>
                  have ptl2 : (yl.kind == 2) = false := (kind_eqD yl.kind 2).symm.trans htl2
                  have ptr1 : (yr.kind == 1) = true := (kind_eqD yr.kind 1).symm.trans htr1
                  have hE : Hid (nodeT ns (textsD ns k) x = sideT (txAt (textsD ns k) li) false ++ (32 :: 97 :: 110 :: 100 :: 32 :: sideT (txAt (textsD ns k) ri) true)) := by
                    show _ = _
                    rw [nodeT, if_neg hk0, if_pos hk1, hli, hri, Int.toNat_natCast, Int.toNat_natCast, hkl, hkr]
                    simp [ptl2, ptr1]
                  have c1 := hid (fun W hb => cSd.out W hb li hlk false)
                  have c2 := hid (fun W hb => cSd.out W hb ri hrk true)
                  have lS1 := sideT_len (txAt (textsD ns k) li) false
                  have lS2 := sideT_len (txAt (textsD ns k) ri) true
                  have hTl' := hTl.out
                  have hTr' := hTr.out
                  have hcat := hid (and_cat (sideT (txAt (textsD ns k) li) false) (sideT (txAt (textsD ns k) ri) true))
                  rw [← hE.out] at hcat
                  generalize sideT (txAt (textsD ns k) li) false = SL at *
                  generalize sideT (txAt (textsD ns k) ri) true = SR at *
                  have k1 : (9223372036854775807 < SL.length + 5) = False := eq_false (by omega)
                  have k2 : (9223372036854775807 < SL.length + 5 + SR.length) = False := eq_false (by omega)
                  clear hcells cSd ny hTl
                  clear hmsH
                  go_wp2_with fail
                  refine wp_region_held_drew (S := fun w' : World => w'.cell? ⟨V.heap.size, 6, none⟩ = some (.int .i64 (li : Int)) ∧ w'.cell? ⟨V.heap.size, 7, none⟩ = some (.int .i64 (ri : Int)) ∧ w'.cell? ⟨b, off + li * 8, none⟩ = some (.int .u8 (yl.kind.toNat : Int)) ∧ w'.cell? ⟨b, off + ri * 8, none⟩ = some (.int .u8 (yr.kind.toNat : Int))) (by kernel_rfl) (hS.out _ d0.out) (fun hHeld => ?_)
                  refine wpAnyH_take (i := 0) (v := ?v73) (by simp only [List.getElem?_toArray, List.getElem?_cons_zero]; rfl) (by kernel_rfl) (by kernel_rfl) (by kernel_rfl) (by exact fun _ _ _ h => h) (Or.inl ⟨by kernel_rfl, ?hy73⟩) (by assumption) ?rest73; (case hy73 => (intro w hSw; (try dsimp only at hSw); go_simp) <;> with_reducible rfl); go_frame; refine wpAnyH_take (i := 1) (v := ?v74) (by simp only [List.getElem?_toArray, List.getElem?_cons_succ, List.getElem?_cons_zero]; rfl) (by kernel_rfl) (by kernel_rfl) (by kernel_rfl) (by exact fun _ _ _ h => h) (Or.inl ⟨by kernel_rfl, ?hy74⟩) (by assumption) ?rest74; (case hy74 => (intro w hSw; (try dsimp only at hSw); go_simp) <;> with_reducible rfl); go_frame; refine wpAnyH_take (i := 2) (v := ?v75) (by simp only [List.getElem?_toArray, List.getElem?_cons_succ, List.getElem?_cons_zero]; rfl) (by kernel_rfl) (by kernel_rfl) (by kernel_rfl) (by exact fun _ _ _ h => h) (Or.inl ⟨by kernel_rfl, ?hy75⟩) (by assumption) ?rest75; (case hy75 => (intro w hSw; (try dsimp only at hSw); go_simp) <;> with_reducible rfl); go_frame; refine wpAnyH_take (i := 3) (v := ?v76) (by simp only [List.getElem?_toArray, List.getElem?_cons_succ, List.getElem?_cons_zero]; rfl) (by kernel_rfl) (by kernel_rfl) (by kernel_rfl) (by exact fun _ _ _ h => h) (Or.inl ⟨by kernel_rfl, ?hy76⟩) (by assumption) ?rest76; (case hy76 => (intro w hSw; (try dsimp only at hSw); go_simp) <;> with_reducible rfl); go_frame; refine wpAnyH_take (i := 4) (v := ?v77) (by simp only [List.getElem?_toArray, List.getElem?_cons_succ, List.getElem?_cons_zero]; rfl) (by kernel_rfl) (by kernel_rfl) (by kernel_rfl) (by exact fun _ _ _ h => h) (Or.inl ⟨by kernel_rfl, ?hy77⟩) (by assumption) ?rest77; (case hy77 => (intro w hSw; (try dsimp only at hSw); go_simp) <;> with_reducible rfl); go_frame; refine wpAnyH_take (i := 5) (v := ?v78) (by simp only [List.getElem?_toArray, List.getElem?_cons_succ, List.getElem?_cons_zero]; rfl) (by kernel_rfl) (by kernel_rfl) (by kernel_rfl) (by exact fun _ _ _ h => h) (Or.inl ⟨by kernel_rfl, ?hy78⟩) (by assumption) ?rest78; (case hy78 => (intro w hSw; (try dsimp only at hSw); go_simp) <;> with_reducible rfl); go_frame; refine wpAnyH_take (i := 6) (v := ?v79) (by simp only [List.getElem?_toArray, List.getElem?_cons_succ, List.getElem?_cons_zero]; rfl) (by kernel_rfl) (by kernel_rfl) (by kernel_rfl) (by exact fun _ _ _ h => h) (Or.inl ⟨by kernel_rfl, ?hy79⟩) (by assumption) ?rest79; (case hy79 => (intro w hSw; (try dsimp only at hSw); go_simp) <;> with_reducible rfl); go_frame; refine wpAnyH_take (i := 7) (v := ?v80) (by simp only [List.getElem?_toArray, List.getElem?_cons_succ, List.getElem?_cons_zero]; rfl) (by kernel_rfl) (by kernel_rfl) (by kernel_rfl) (by exact fun _ _ _ h => h) (Or.inl ⟨by kernel_rfl, ?hy80⟩) (by assumption) ?rest80; (case hy80 => (intro w hSw; (try dsimp only at hSw); go_simp) <;> with_reducible rfl); go_frame; refine wpAnyH_take (i := 8) (v := ?v81) (by simp only [List.getElem?_toArray, List.getElem?_cons_succ, List.getElem?_cons_zero]; rfl) (by kernel_rfl) (by kernel_rfl) (by kernel_rfl) (by exact fun _ _ _ h => h) (Or.inl ⟨by kernel_rfl, ?hy81⟩) (by assumption) ?rest81; (case hy81 => (intro w hSw; (try dsimp only at hSw); go_simp) <;> with_reducible rfl); go_frame; refine wpAnyH_take (i := 9) (v := ?v82) (by simp only [List.getElem?_toArray, List.getElem?_cons_succ, List.getElem?_cons_zero]; rfl) (by kernel_rfl) (by kernel_rfl) (by kernel_rfl) (by exact fun _ _ _ h => h) (Or.inl ⟨by kernel_rfl, ?hy82⟩) (by assumption) ?rest82; (case hy82 => (intro w hSw; (try dsimp only at hSw); go_simp) <;> with_reducible rfl); go_frame; refine wpAnyH_take (i := 10) (v := ?v83) (by simp only [List.getElem?_toArray, List.getElem?_cons_succ, List.getElem?_cons_zero]; rfl) (by kernel_rfl) (by kernel_rfl) (by kernel_rfl) (by exact fun _ _ _ h => h) (Or.inl ⟨by kernel_rfl, ?hy83⟩) (by assumption) ?rest83; (case hy83 => (intro w hSw; (try dsimp only at hSw); go_simp) <;> with_reducible rfl); go_frame; refine wpAnyH_take (i := 11) (v := ?v84) (by simp only [List.getElem?_toArray, List.getElem?_cons_succ, List.getElem?_cons_zero]; rfl) (by kernel_rfl) (by kernel_rfl) (by kernel_rfl) (by exact fun _ _ _ h => h) (Or.inl ⟨by kernel_rfl, ?hy84⟩) (by assumption) ?rest84; (case hy84 => (intro w hSw; (try dsimp only at hSw); go_simp) <;> with_reducible rfl); go_frame; refine wpAnyH_take (i := 12) (v := ?v85) (by simp only [List.getElem?_toArray, List.getElem?_cons_succ, List.getElem?_cons_zero]; rfl) (by kernel_rfl) (by kernel_rfl) (by kernel_rfl) (by exact fun _ _ _ h => h) (Or.inl ⟨by kernel_rfl, ?hy85⟩) (by assumption) ?rest85; (case hy85 => (intro w hSw; (try dsimp only at hSw); go_simp) <;> with_reducible rfl); go_frame; refine wpAnyH_take (i := 15) (v := ?v86) (by simp only [List.getElem?_toArray, List.getElem?_cons_succ, List.getElem?_cons_zero]; rfl) (by kernel_rfl) (by kernel_rfl) (by kernel_rfl) (by exact fun _ _ _ h => h) (Or.inl ⟨by kernel_rfl, ?hy86⟩) (by assumption) ?rest86; (case hy86 => (intro w hSw; (try dsimp only at hSw); go_simp) <;> with_reducible rfl); go_frame; refine wpAnyH_take (i := 16) (v := ?v87) (by simp only [List.getElem?_toArray, List.getElem?_cons_succ, List.getElem?_cons_zero]; rfl) (by kernel_rfl) (by kernel_rfl) (by kernel_rfl) (by exact fun _ _ _ h => h) (Or.inl ⟨by kernel_rfl, ?hy87⟩) (by assumption) ?rest87; (case hy87 => (intro w hSw; (try dsimp only at hSw); go_simp) <;> with_reducible rfl); go_frame; refine wpAnyH_take (i := 17) (v := ?v88) (by simp only [List.getElem?_toArray, List.getElem?_cons_succ, List.getElem?_cons_zero]; rfl) (by kernel_rfl) (by kernel_rfl) (by kernel_rfl) (by exact fun _ _ _ h => h) (Or.inl ⟨by kernel_rfl, ?hy88⟩) (by assumption) ?rest88; (case hy88 => (intro w hSw; (try dsimp only at hSw); go_simp) <;> with_reducible rfl); go_frame; refine wpAnyH_take (i := 18) (v := ?v89) (by simp only [List.getElem?_toArray, List.getElem?_cons_succ, List.getElem?_cons_zero]; rfl) (by kernel_rfl) (by kernel_rfl) (by kernel_rfl) (by exact fun _ _ _ h => h) (Or.inl ⟨by kernel_rfl, ?hy89⟩) (by assumption) ?rest89; (case hy89 => (intro w hSw; (try dsimp only at hSw); go_simp) <;> with_reducible rfl); go_frame; refine wpAnyH_take (i := 19) (v := ?v90) (by simp only [List.getElem?_toArray, List.getElem?_cons_succ, List.getElem?_cons_zero]; rfl) (by kernel_rfl) (by kernel_rfl) (by kernel_rfl) (by exact fun _ _ _ h => h) (Or.inl ⟨by kernel_rfl, ?hy90⟩) (by assumption) ?rest90; (case hy90 => (intro w hSw; (try dsimp only at hSw); go_simp) <;> with_reducible rfl); go_frame; refine wpAnyH_take (i := 20) (v := ?v91) (by simp only [List.getElem?_toArray, List.getElem?_cons_succ, List.getElem?_cons_zero]; rfl) (by kernel_rfl) (by kernel_rfl) (by kernel_rfl) (by exact fun _ _ _ h => h) (Or.inl ⟨by kernel_rfl, ?hy91⟩) (by assumption) ?rest91; (case hy91 => (intro w hSw; (try dsimp only at hSw); go_simp) <;> with_reducible rfl); go_frame; refine wpAnyH_take (i := 21) (v := ?v92) (by simp only [List.getElem?_toArray, List.getElem?_cons_succ, List.getElem?_cons_zero]; rfl) (by kernel_rfl) (by kernel_rfl) (by kernel_rfl) (by exact fun _ _ _ h => h) (Or.inl ⟨by kernel_rfl, ?hy92⟩) (by assumption) ?rest92; (case hy92 => (intro w hSw; (try dsimp only at hSw); go_simp) <;> with_reducible rfl); go_frame; refine wpAnyH_take (i := 22) (v := ?v93) (by simp only [List.getElem?_toArray, List.getElem?_cons_succ, List.getElem?_cons_zero]; rfl) (by kernel_rfl) (by kernel_rfl) (by kernel_rfl) (by exact fun _ _ _ h => h) (Or.inl ⟨by kernel_rfl, ?hy93⟩) (by assumption) ?rest93; (case hy93 => (intro w hSw; (try dsimp only at hSw); go_simp) <;> with_reducible rfl); go_frame; refine wpAnyH_take (i := 23) (v := ?v94) (by simp only [List.getElem?_toArray, List.getElem?_cons_succ, List.getElem?_cons_zero]; rfl) (by kernel_rfl) (by kernel_rfl) (by kernel_rfl) (by exact fun _ _ _ h => h) (Or.inl ⟨by kernel_rfl, ?hy94⟩) (by assumption) ?rest94; (case hy94 => (intro w hSw; (try dsimp only at hSw); go_simp) <;> with_reducible rfl); go_frame; refine wpAnyH_take (i := 24) (v := ?v95) (by simp only [List.getElem?_toArray, List.getElem?_cons_succ, List.getElem?_cons_zero]; rfl) (by kernel_rfl) (by kernel_rfl) (by kernel_rfl) (by exact fun _ _ _ h => h) (Or.inl ⟨by kernel_rfl, ?hy95⟩) (by assumption) ?rest95; (case hy95 => (intro w hSw; (try dsimp only at hSw); go_simp) <;> with_reducible rfl); go_frame; refine wpAnyH_take (i := 25) (v := ?v96) (by simp only [List.getElem?_toArray, List.getElem?_cons_succ, List.getElem?_cons_zero]; rfl) (by kernel_rfl) (by kernel_rfl) (by kernel_rfl) (by exact fun _ _ _ h => h) (Or.inl ⟨by kernel_rfl, ?hy96⟩) (by assumption) ?rest96; (case hy96 => (intro w hSw; (try dsimp only at hSw); go_simp) <;> with_reducible rfl); go_frame
                  refine wpAnyH_ready (rs := [13]) (by kernel_rfl) (by simp) ?_; refine AllReadyH.cons rfl (fun K hK => ?_) AllReadyH.nil; go_simp
                  refine (c1.out _ d0.out).mono ?_
                  rintro e X1 ⟨rfl, b1⟩
                  have D1 := hid (low' d0.out b1)
                  have hS1 := hS.out _ D1.out
                  clear hHeld b1
                  go_wp2
                  refine hK.out _ _ hS1 (fun hHeld => ?_)
                  clear hK K hS1
                  try go_frame
                  refine wpAnyH_take (i := 14) (v := ?v97) (by simp only [List.getElem?_toArray, List.getElem?_cons_succ, List.getElem?_cons_zero]; rfl) (by kernel_rfl) (by kernel_rfl) (by kernel_rfl) (by exact fun _ _ _ h => h) (Or.inl ⟨by kernel_rfl, ?hy97⟩) (by assumption) ?rest97; (case hy97 => (intro w hSw; (try dsimp only at hSw); go_simp) <;> with_reducible rfl); go_frame; refine wpAnyH_take (i := 26) (v := ?v98) (by simp only [List.getElem?_toArray, List.getElem?_cons_succ, List.getElem?_cons_zero]; rfl) (by kernel_rfl) (by kernel_rfl) (by kernel_rfl) (by exact fun _ _ _ h => h) (Or.inl ⟨by kernel_rfl, ?hy98⟩) (by assumption) ?rest98; (case hy98 => (intro w hSw; (try dsimp only at hSw); go_simp) <;> with_reducible rfl); go_frame
                  refine wpAnyH_take (i := 27) (v := undef) (by simp only [List.getElem?_toArray, List.getElem?_cons_succ, List.getElem?_cons_zero]; rfl) (by kernel_rfl) (by kernel_rfl) (by kernel_rfl) (by exact fun _ _ _ h => h) (Or.inr ⟨by kernel_rfl, rfl⟩) (by assumption) ?_; go_frame; refine wpAnyH_take (i := 28) (v := undef) (by simp only [List.getElem?_toArray, List.getElem?_cons_succ, List.getElem?_cons_zero]; rfl) (by kernel_rfl) (by kernel_rfl) (by kernel_rfl) (by exact fun _ _ _ h => h) (Or.inr ⟨by kernel_rfl, rfl⟩) (by assumption) ?_; go_frame; refine wpAnyH_take (i := 29) (v := undef) (by simp only [List.getElem?_toArray, List.getElem?_cons_succ, List.getElem?_cons_zero]; rfl) (by kernel_rfl) (by kernel_rfl) (by kernel_rfl) (by exact fun _ _ _ h => h) (Or.inr ⟨by kernel_rfl, rfl⟩) (by assumption) ?_; go_frame; refine wpAnyH_take (i := 30) (v := undef) (by simp only [List.getElem?_toArray, List.getElem?_cons_succ, List.getElem?_cons_zero]; rfl) (by kernel_rfl) (by kernel_rfl) (by kernel_rfl) (by exact fun _ _ _ h => h) (Or.inr ⟨by kernel_rfl, rfl⟩) (by assumption) ?_; go_frame; refine wpAnyH_take (i := 31) (v := undef) (by simp only [List.getElem?_toArray, List.getElem?_cons_succ, List.getElem?_cons_zero]; rfl) (by kernel_rfl) (by kernel_rfl) (by kernel_rfl) (by exact fun _ _ _ h => h) (Or.inr ⟨by kernel_rfl, rfl⟩) (by assumption) ?_; go_frame; refine wpAnyH_take (i := 32) (v := undef) (by simp only [List.getElem?_toArray, List.getElem?_cons_succ, List.getElem?_cons_zero]; rfl) (by kernel_rfl) (by kernel_rfl) (by kernel_rfl) (by exact fun _ _ _ h => h) (Or.inr ⟨by kernel_rfl, rfl⟩) (by assumption) ?_; go_frame; refine wpAnyH_take (i := 33) (v := undef) (by simp only [List.getElem?_toArray, List.getElem?_cons_succ, List.getElem?_cons_zero]; rfl) (by kernel_rfl) (by kernel_rfl) (by kernel_rfl) (by exact fun _ _ _ h => h) (Or.inr ⟨by kernel_rfl, rfl⟩) (by assumption) ?_; go_frame
                  refine wpAnyH_take (i := 34) (v := ?v99) (by simp only [List.getElem?_toArray, List.getElem?_cons_succ, List.getElem?_cons_zero]; rfl) (by kernel_rfl) (by kernel_rfl) (by kernel_rfl) (by exact fun _ _ _ h => h) (Or.inl ⟨by kernel_rfl, ?hy99⟩) (by assumption) ?rest99; (case hy99 => (intro w hSw; (try dsimp only at hSw); go_simp) <;> with_reducible rfl); go_frame
                  refine wpAnyH_ready (rs := [35]) (by kernel_rfl) (by simp) ?_; refine AllReadyH.cons rfl (fun K hK => ?_) AllReadyH.nil; go_simp
                  refine (c2.out _ D1.out).mono ?_
                  rintro e X2 ⟨rfl, b2⟩
                  have D2 := hid (low' D1.out b2)
                  have hS1 := hS.out _ D2.out
                  obtain ⟨ut, ct, ft⟩ := (hXl.out _ D2.out).cell k hkn'
                  clear hHeld b2
                  go_wp2
                  refine hK.out _ _ hS1 (fun hHeld => ?_)
                  clear hK K hS1
                  try go_frame
                  refine wpAnyH_take (i := 36) (v := ?v100) (by simp only [List.getElem?_toArray, List.getElem?_cons_succ, List.getElem?_cons_zero]; rfl) (by kernel_rfl) (by kernel_rfl) (by kernel_rfl) (by exact fun _ _ _ h => h) (Or.inl ⟨by kernel_rfl, ?hy100⟩) (by assumption) ?rest100; (case hy100 => (intro w hSw; (try dsimp only at hSw); go_simp) <;> with_reducible rfl); go_frame; refine wpAnyH_take (i := 37) (v := ?v101) (by simp only [List.getElem?_toArray, List.getElem?_cons_succ, List.getElem?_cons_zero]; rfl) (by kernel_rfl) (by kernel_rfl) (by kernel_rfl) (by exact fun _ _ _ h => h) (Or.inl ⟨by kernel_rfl, ?hy101⟩) (by assumption) ?rest101; (case hy101 => (intro w hSw; (try dsimp only at hSw); go_simp) <;> with_reducible rfl); go_frame
                  refine wpAnyH_ready (rs := [38]) (by kernel_rfl) (by simp) ?_; refine AllReadyH.cons rfl (fun K hK => ?_) AllReadyH.nil; go_simp
                  have hS2 := hS.out _ D2.out
                  refine hK.out _ _ ⟨(World.cell?_setCell_far _ _ _ _ hne2).trans hS2.1, (World.cell?_setCell_far _ _ _ _ hne2).trans hS2.2.1, (World.cell?_setCell_far _ _ _ _ hbT2).trans hS2.2.2.1, (World.cell?_setCell_far _ _ _ _ hbT2).trans hS2.2.2.2⟩ (fun hHeld => ?_)
                  clear hK K hS2 hHeld
                  try go_frame
                  refine wpAnyH_done (by kernel_rfl) ?_ _
                  all_goals
                    rw [hcat.out]
                    have hP := hid ((hXl.out _ D2.out).push k hlenT.out hkn' (nodeT ns (textsD ns k) x))
                    rw [← htx.out] at hP
                    have hBP := hid ((hlow.out _ D2.out).setCell (p := ⟨TB, k, none⟩) htb.out (.string ⟨(nodeT ns (textsD ns k) x).toArray⟩))
                    obtain ⟨P6, hP6⟩ : ∃ P6, X2.setCell ⟨TB, k, none⟩ (.string ⟨(nodeT ns (textsD ns k) x).toArray⟩) = P6 := ⟨_, rfl⟩
                    rw [hP6] at hP hBP ⊢
                    have cT := hP.out.get (k := k) (x := nodeT ns (textsD ns k) x) (by rw [htx.out, List.getElem?_append_right (by rw [hlenT.out]; omega), hlenT.out, Nat.sub_self]; rfl)
                    have hbad2 := hbad
                    have hgood2 := hgood
                    clear hP6 hbad hgood htx hE hcat hXl hlow hlowV
                    generalize nodeT ns (textsD ns k) x = E at *
                    by_cases hlong : 20000 < E.length
                    · have hd := hbad2.out hlong
                      subst hd
                      have q5 : decide ((20000 : Int) < (E.length : Int)) = true := decide_eq_true (by omega)
                      go_wp2
                      go_ret
                      exact ⟨rfl, hBP.out⟩
                    · have q5 : decide ((20000 : Int) < (E.length : Int)) = false := decide_eq_false (by omega)
                      have hg := hid (hgood2.out (by omega))
                      clear hbad2 hgood2
                      go_wp2
                      exact ⟨⟨k + 1, by simp, by omega, hBP, hP, hg⟩, by simp [intOf]; omega⟩
              · cases htr1 : ((yr.kind.toNat : Int) == 1)
                · cases htr2 : ((yr.kind.toNat : Int) == 2)
                  · as_aux_lemma =>
                    have ptl2 : (yl.kind == 2) = true := (kind_eqD yl.kind 2).symm.trans htl2
                    have ptr1 : (yr.kind == 1) = false := (kind_eqD yr.kind 1).symm.trans htr1
                    have ptr2 : (yr.kind == 2) = false := (kind_eqD yr.kind 2).symm.trans htr2
                    have hE : Hid (nodeT ns (textsD ns k) x = sideT (txAt (textsD ns k) li) true ++ (32 :: 97 :: 110 :: 100 :: 32 :: sideT (txAt (textsD ns k) ri) false)) := by
                      show _ = _
                      rw [nodeT, if_neg hk0, if_pos hk1, hli, hri, Int.toNat_natCast, Int.toNat_natCast, hkl, hkr]
                      simp [ptl2, ptr1, ptr2]
                    have c1 := hid (fun W hb => cSd.out W hb li hlk true)
                    have c2 := hid (fun W hb => cSd.out W hb ri hrk false)
                    have lS1 := sideT_len (txAt (textsD ns k) li) true
                    have lS2 := sideT_len (txAt (textsD ns k) ri) false
                    have hTl' := hTl.out
                    have hTr' := hTr.out
                    have hcat := hid (and_cat (sideT (txAt (textsD ns k) li) true) (sideT (txAt (textsD ns k) ri) false))
                    rw [← hE.out] at hcat
                    generalize sideT (txAt (textsD ns k) li) true = SL at *
                    generalize sideT (txAt (textsD ns k) ri) false = SR at *
                    have k1 : (9223372036854775807 < SL.length + 5) = False := eq_false (by omega)
                    have k2 : (9223372036854775807 < SL.length + 5 + SR.length) = False := eq_false (by omega)
                    clear hcells cSd ny hTl
                    clear hmsH
                    go_wp2_with fail
                    refine wp_region_held_drew (S := fun w' : World => w'.cell? ⟨V.heap.size, 6, none⟩ = some (.int .i64 (li : Int)) ∧ w'.cell? ⟨V.heap.size, 7, none⟩ = some (.int .i64 (ri : Int)) ∧ w'.cell? ⟨b, off + li * 8, none⟩ = some (.int .u8 (yl.kind.toNat : Int)) ∧ w'.cell? ⟨b, off + ri * 8, none⟩ = some (.int .u8 (yr.kind.toNat : Int))) (by kernel_rfl) (hS.out _ d0.out) (fun hHeld => ?_)
                    refine wpAnyH_take (i := 0) (v := ?v102) (by simp only [List.getElem?_toArray, List.getElem?_cons_zero]; rfl) (by kernel_rfl) (by kernel_rfl) (by kernel_rfl) (by exact fun _ _ _ h => h) (Or.inl ⟨by kernel_rfl, ?hy102⟩) (by assumption) ?rest102; (case hy102 => (intro w hSw; (try dsimp only at hSw); go_simp) <;> with_reducible rfl); go_frame; refine wpAnyH_take (i := 1) (v := ?v103) (by simp only [List.getElem?_toArray, List.getElem?_cons_succ, List.getElem?_cons_zero]; rfl) (by kernel_rfl) (by kernel_rfl) (by kernel_rfl) (by exact fun _ _ _ h => h) (Or.inl ⟨by kernel_rfl, ?hy103⟩) (by assumption) ?rest103; (case hy103 => (intro w hSw; (try dsimp only at hSw); go_simp) <;> with_reducible rfl); go_frame; refine wpAnyH_take (i := 2) (v := ?v104) (by simp only [List.getElem?_toArray, List.getElem?_cons_succ, List.getElem?_cons_zero]; rfl) (by kernel_rfl) (by kernel_rfl) (by kernel_rfl) (by exact fun _ _ _ h => h) (Or.inl ⟨by kernel_rfl, ?hy104⟩) (by assumption) ?rest104; (case hy104 => (intro w hSw; (try dsimp only at hSw); go_simp) <;> with_reducible rfl); go_frame; refine wpAnyH_take (i := 3) (v := ?v105) (by simp only [List.getElem?_toArray, List.getElem?_cons_succ, List.getElem?_cons_zero]; rfl) (by kernel_rfl) (by kernel_rfl) (by kernel_rfl) (by exact fun _ _ _ h => h) (Or.inl ⟨by kernel_rfl, ?hy105⟩) (by assumption) ?rest105; (case hy105 => (intro w hSw; (try dsimp only at hSw); go_simp) <;> with_reducible rfl); go_frame; refine wpAnyH_take (i := 4) (v := ?v106) (by simp only [List.getElem?_toArray, List.getElem?_cons_succ, List.getElem?_cons_zero]; rfl) (by kernel_rfl) (by kernel_rfl) (by kernel_rfl) (by exact fun _ _ _ h => h) (Or.inl ⟨by kernel_rfl, ?hy106⟩) (by assumption) ?rest106; (case hy106 => (intro w hSw; (try dsimp only at hSw); go_simp) <;> with_reducible rfl); go_frame; refine wpAnyH_take (i := 5) (v := ?v107) (by simp only [List.getElem?_toArray, List.getElem?_cons_succ, List.getElem?_cons_zero]; rfl) (by kernel_rfl) (by kernel_rfl) (by kernel_rfl) (by exact fun _ _ _ h => h) (Or.inl ⟨by kernel_rfl, ?hy107⟩) (by assumption) ?rest107; (case hy107 => (intro w hSw; (try dsimp only at hSw); go_simp) <;> with_reducible rfl); go_frame; refine wpAnyH_take (i := 6) (v := ?v108) (by simp only [List.getElem?_toArray, List.getElem?_cons_succ, List.getElem?_cons_zero]; rfl) (by kernel_rfl) (by kernel_rfl) (by kernel_rfl) (by exact fun _ _ _ h => h) (Or.inl ⟨by kernel_rfl, ?hy108⟩) (by assumption) ?rest108; (case hy108 => (intro w hSw; (try dsimp only at hSw); go_simp) <;> with_reducible rfl); go_frame; refine wpAnyH_take (i := 7) (v := ?v109) (by simp only [List.getElem?_toArray, List.getElem?_cons_succ, List.getElem?_cons_zero]; rfl) (by kernel_rfl) (by kernel_rfl) (by kernel_rfl) (by exact fun _ _ _ h => h) (Or.inl ⟨by kernel_rfl, ?hy109⟩) (by assumption) ?rest109; (case hy109 => (intro w hSw; (try dsimp only at hSw); go_simp) <;> with_reducible rfl); go_frame; refine wpAnyH_take (i := 8) (v := ?v110) (by simp only [List.getElem?_toArray, List.getElem?_cons_succ, List.getElem?_cons_zero]; rfl) (by kernel_rfl) (by kernel_rfl) (by kernel_rfl) (by exact fun _ _ _ h => h) (Or.inl ⟨by kernel_rfl, ?hy110⟩) (by assumption) ?rest110; (case hy110 => (intro w hSw; (try dsimp only at hSw); go_simp) <;> with_reducible rfl); go_frame; refine wpAnyH_take (i := 9) (v := ?v111) (by simp only [List.getElem?_toArray, List.getElem?_cons_succ, List.getElem?_cons_zero]; rfl) (by kernel_rfl) (by kernel_rfl) (by kernel_rfl) (by exact fun _ _ _ h => h) (Or.inl ⟨by kernel_rfl, ?hy111⟩) (by assumption) ?rest111; (case hy111 => (intro w hSw; (try dsimp only at hSw); go_simp) <;> with_reducible rfl); go_frame; refine wpAnyH_take (i := 10) (v := ?v112) (by simp only [List.getElem?_toArray, List.getElem?_cons_succ, List.getElem?_cons_zero]; rfl) (by kernel_rfl) (by kernel_rfl) (by kernel_rfl) (by exact fun _ _ _ h => h) (Or.inl ⟨by kernel_rfl, ?hy112⟩) (by assumption) ?rest112; (case hy112 => (intro w hSw; (try dsimp only at hSw); go_simp) <;> with_reducible rfl); go_frame; refine wpAnyH_take (i := 11) (v := ?v113) (by simp only [List.getElem?_toArray, List.getElem?_cons_succ, List.getElem?_cons_zero]; rfl) (by kernel_rfl) (by kernel_rfl) (by kernel_rfl) (by exact fun _ _ _ h => h) (Or.inl ⟨by kernel_rfl, ?hy113⟩) (by assumption) ?rest113; (case hy113 => (intro w hSw; (try dsimp only at hSw); go_simp) <;> with_reducible rfl); go_frame; refine wpAnyH_take (i := 12) (v := ?v114) (by simp only [List.getElem?_toArray, List.getElem?_cons_succ, List.getElem?_cons_zero]; rfl) (by kernel_rfl) (by kernel_rfl) (by kernel_rfl) (by exact fun _ _ _ h => h) (Or.inl ⟨by kernel_rfl, ?hy114⟩) (by assumption) ?rest114; (case hy114 => (intro w hSw; (try dsimp only at hSw); go_simp) <;> with_reducible rfl); go_frame; refine wpAnyH_take (i := 15) (v := ?v115) (by simp only [List.getElem?_toArray, List.getElem?_cons_succ, List.getElem?_cons_zero]; rfl) (by kernel_rfl) (by kernel_rfl) (by kernel_rfl) (by exact fun _ _ _ h => h) (Or.inl ⟨by kernel_rfl, ?hy115⟩) (by assumption) ?rest115; (case hy115 => (intro w hSw; (try dsimp only at hSw); go_simp) <;> with_reducible rfl); go_frame; refine wpAnyH_take (i := 16) (v := ?v116) (by simp only [List.getElem?_toArray, List.getElem?_cons_succ, List.getElem?_cons_zero]; rfl) (by kernel_rfl) (by kernel_rfl) (by kernel_rfl) (by exact fun _ _ _ h => h) (Or.inl ⟨by kernel_rfl, ?hy116⟩) (by assumption) ?rest116; (case hy116 => (intro w hSw; (try dsimp only at hSw); go_simp) <;> with_reducible rfl); go_frame; refine wpAnyH_take (i := 17) (v := ?v117) (by simp only [List.getElem?_toArray, List.getElem?_cons_succ, List.getElem?_cons_zero]; rfl) (by kernel_rfl) (by kernel_rfl) (by kernel_rfl) (by exact fun _ _ _ h => h) (Or.inl ⟨by kernel_rfl, ?hy117⟩) (by assumption) ?rest117; (case hy117 => (intro w hSw; (try dsimp only at hSw); go_simp) <;> with_reducible rfl); go_frame; refine wpAnyH_take (i := 18) (v := ?v118) (by simp only [List.getElem?_toArray, List.getElem?_cons_succ, List.getElem?_cons_zero]; rfl) (by kernel_rfl) (by kernel_rfl) (by kernel_rfl) (by exact fun _ _ _ h => h) (Or.inl ⟨by kernel_rfl, ?hy118⟩) (by assumption) ?rest118; (case hy118 => (intro w hSw; (try dsimp only at hSw); go_simp) <;> with_reducible rfl); go_frame; refine wpAnyH_take (i := 19) (v := ?v119) (by simp only [List.getElem?_toArray, List.getElem?_cons_succ, List.getElem?_cons_zero]; rfl) (by kernel_rfl) (by kernel_rfl) (by kernel_rfl) (by exact fun _ _ _ h => h) (Or.inl ⟨by kernel_rfl, ?hy119⟩) (by assumption) ?rest119; (case hy119 => (intro w hSw; (try dsimp only at hSw); go_simp) <;> with_reducible rfl); go_frame; refine wpAnyH_take (i := 20) (v := ?v120) (by simp only [List.getElem?_toArray, List.getElem?_cons_succ, List.getElem?_cons_zero]; rfl) (by kernel_rfl) (by kernel_rfl) (by kernel_rfl) (by exact fun _ _ _ h => h) (Or.inl ⟨by kernel_rfl, ?hy120⟩) (by assumption) ?rest120; (case hy120 => (intro w hSw; (try dsimp only at hSw); go_simp) <;> with_reducible rfl); go_frame; refine wpAnyH_take (i := 21) (v := ?v121) (by simp only [List.getElem?_toArray, List.getElem?_cons_succ, List.getElem?_cons_zero]; rfl) (by kernel_rfl) (by kernel_rfl) (by kernel_rfl) (by exact fun _ _ _ h => h) (Or.inl ⟨by kernel_rfl, ?hy121⟩) (by assumption) ?rest121; (case hy121 => (intro w hSw; (try dsimp only at hSw); go_simp) <;> with_reducible rfl); go_frame; refine wpAnyH_take (i := 22) (v := ?v122) (by simp only [List.getElem?_toArray, List.getElem?_cons_succ, List.getElem?_cons_zero]; rfl) (by kernel_rfl) (by kernel_rfl) (by kernel_rfl) (by exact fun _ _ _ h => h) (Or.inl ⟨by kernel_rfl, ?hy122⟩) (by assumption) ?rest122; (case hy122 => (intro w hSw; (try dsimp only at hSw); go_simp) <;> with_reducible rfl); go_frame; refine wpAnyH_take (i := 23) (v := ?v123) (by simp only [List.getElem?_toArray, List.getElem?_cons_succ, List.getElem?_cons_zero]; rfl) (by kernel_rfl) (by kernel_rfl) (by kernel_rfl) (by exact fun _ _ _ h => h) (Or.inl ⟨by kernel_rfl, ?hy123⟩) (by assumption) ?rest123; (case hy123 => (intro w hSw; (try dsimp only at hSw); go_simp) <;> with_reducible rfl); go_frame; refine wpAnyH_take (i := 24) (v := ?v124) (by simp only [List.getElem?_toArray, List.getElem?_cons_succ, List.getElem?_cons_zero]; rfl) (by kernel_rfl) (by kernel_rfl) (by kernel_rfl) (by exact fun _ _ _ h => h) (Or.inl ⟨by kernel_rfl, ?hy124⟩) (by assumption) ?rest124; (case hy124 => (intro w hSw; (try dsimp only at hSw); go_simp) <;> with_reducible rfl); go_frame; refine wpAnyH_take (i := 25) (v := ?v125) (by simp only [List.getElem?_toArray, List.getElem?_cons_succ, List.getElem?_cons_zero]; rfl) (by kernel_rfl) (by kernel_rfl) (by kernel_rfl) (by exact fun _ _ _ h => h) (Or.inl ⟨by kernel_rfl, ?hy125⟩) (by assumption) ?rest125; (case hy125 => (intro w hSw; (try dsimp only at hSw); go_simp) <;> with_reducible rfl); go_frame
                    refine wpAnyH_ready (rs := [13]) (by kernel_rfl) (by simp) ?_; refine AllReadyH.cons rfl (fun K hK => ?_) AllReadyH.nil; go_simp
                    refine (c1.out _ d0.out).mono ?_
                    rintro e X1 ⟨rfl, b1⟩
                    have D1 := hid (low' d0.out b1)
                    have hS1 := hS.out _ D1.out
                    clear hHeld b1
                    go_wp2
                    refine hK.out _ _ hS1 (fun hHeld => ?_)
                    clear hK K hS1
                    try go_frame
                    refine wpAnyH_take (i := 14) (v := ?v126) (by simp only [List.getElem?_toArray, List.getElem?_cons_succ, List.getElem?_cons_zero]; rfl) (by kernel_rfl) (by kernel_rfl) (by kernel_rfl) (by exact fun _ _ _ h => h) (Or.inl ⟨by kernel_rfl, ?hy126⟩) (by assumption) ?rest126; (case hy126 => (intro w hSw; (try dsimp only at hSw); go_simp) <;> with_reducible rfl); go_frame; refine wpAnyH_take (i := 26) (v := ?v127) (by simp only [List.getElem?_toArray, List.getElem?_cons_succ, List.getElem?_cons_zero]; rfl) (by kernel_rfl) (by kernel_rfl) (by kernel_rfl) (by exact fun _ _ _ h => h) (Or.inl ⟨by kernel_rfl, ?hy127⟩) (by assumption) ?rest127; (case hy127 => (intro w hSw; (try dsimp only at hSw); go_simp) <;> with_reducible rfl); go_frame
                    refine wpAnyH_take (i := 27) (v := ?v128) (by simp only [List.getElem?_toArray, List.getElem?_cons_succ, List.getElem?_cons_zero]; rfl) (by kernel_rfl) (by kernel_rfl) (by kernel_rfl) (by exact fun _ _ _ h => h) (Or.inl ⟨by kernel_rfl, ?hy128⟩) (by assumption) ?rest128; (case hy128 => (intro w hSw; (try dsimp only at hSw); go_simp) <;> with_reducible rfl); go_frame; refine wpAnyH_take (i := 28) (v := ?v129) (by simp only [List.getElem?_toArray, List.getElem?_cons_succ, List.getElem?_cons_zero]; rfl) (by kernel_rfl) (by kernel_rfl) (by kernel_rfl) (by exact fun _ _ _ h => h) (Or.inl ⟨by kernel_rfl, ?hy129⟩) (by assumption) ?rest129; (case hy129 => (intro w hSw; (try dsimp only at hSw); go_simp) <;> with_reducible rfl); go_frame; refine wpAnyH_take (i := 29) (v := ?v130) (by simp only [List.getElem?_toArray, List.getElem?_cons_succ, List.getElem?_cons_zero]; rfl) (by kernel_rfl) (by kernel_rfl) (by kernel_rfl) (by exact fun _ _ _ h => h) (Or.inl ⟨by kernel_rfl, ?hy130⟩) (by assumption) ?rest130; (case hy130 => (intro w hSw; (try dsimp only at hSw); go_simp) <;> with_reducible rfl); go_frame; refine wpAnyH_take (i := 30) (v := ?v131) (by simp only [List.getElem?_toArray, List.getElem?_cons_succ, List.getElem?_cons_zero]; rfl) (by kernel_rfl) (by kernel_rfl) (by kernel_rfl) (by exact fun _ _ _ h => h) (Or.inl ⟨by kernel_rfl, ?hy131⟩) (by assumption) ?rest131; (case hy131 => (intro w hSw; (try dsimp only at hSw); go_simp) <;> with_reducible rfl); go_frame; refine wpAnyH_take (i := 31) (v := ?v132) (by simp only [List.getElem?_toArray, List.getElem?_cons_succ, List.getElem?_cons_zero]; rfl) (by kernel_rfl) (by kernel_rfl) (by kernel_rfl) (by exact fun _ _ _ h => h) (Or.inl ⟨by kernel_rfl, ?hy132⟩) (by assumption) ?rest132; (case hy132 => (intro w hSw; (try dsimp only at hSw); go_simp) <;> with_reducible rfl); go_frame; refine wpAnyH_take (i := 32) (v := ?v133) (by simp only [List.getElem?_toArray, List.getElem?_cons_succ, List.getElem?_cons_zero]; rfl) (by kernel_rfl) (by kernel_rfl) (by kernel_rfl) (by exact fun _ _ _ h => h) (Or.inl ⟨by kernel_rfl, ?hy133⟩) (by assumption) ?rest133; (case hy133 => (intro w hSw; (try dsimp only at hSw); go_simp) <;> with_reducible rfl); go_frame; refine wpAnyH_take (i := 33) (v := ?v134) (by simp only [List.getElem?_toArray, List.getElem?_cons_succ, List.getElem?_cons_zero]; rfl) (by kernel_rfl) (by kernel_rfl) (by kernel_rfl) (by exact fun _ _ _ h => h) (Or.inl ⟨by kernel_rfl, ?hy134⟩) (by assumption) ?rest134; (case hy134 => (intro w hSw; (try dsimp only at hSw); go_simp) <;> with_reducible rfl); go_frame
                    refine wpAnyH_take (i := 34) (v := ?v135) (by simp only [List.getElem?_toArray, List.getElem?_cons_succ, List.getElem?_cons_zero]; rfl) (by kernel_rfl) (by kernel_rfl) (by kernel_rfl) (by exact fun _ _ _ h => h) (Or.inl ⟨by kernel_rfl, ?hy135⟩) (by assumption) ?rest135; (case hy135 => (intro w hSw; (try dsimp only at hSw); go_simp) <;> with_reducible rfl); go_frame
                    refine wpAnyH_ready (rs := [35]) (by kernel_rfl) (by simp) ?_; refine AllReadyH.cons rfl (fun K hK => ?_) AllReadyH.nil; go_simp
                    refine (c2.out _ D1.out).mono ?_
                    rintro e X2 ⟨rfl, b2⟩
                    have D2 := hid (low' D1.out b2)
                    have hS1 := hS.out _ D2.out
                    obtain ⟨ut, ct, ft⟩ := (hXl.out _ D2.out).cell k hkn'
                    clear hHeld b2
                    go_wp2
                    refine hK.out _ _ hS1 (fun hHeld => ?_)
                    clear hK K hS1
                    try go_frame
                    refine wpAnyH_take (i := 36) (v := ?v136) (by simp only [List.getElem?_toArray, List.getElem?_cons_succ, List.getElem?_cons_zero]; rfl) (by kernel_rfl) (by kernel_rfl) (by kernel_rfl) (by exact fun _ _ _ h => h) (Or.inl ⟨by kernel_rfl, ?hy136⟩) (by assumption) ?rest136; (case hy136 => (intro w hSw; (try dsimp only at hSw); go_simp) <;> with_reducible rfl); go_frame; refine wpAnyH_take (i := 37) (v := ?v137) (by simp only [List.getElem?_toArray, List.getElem?_cons_succ, List.getElem?_cons_zero]; rfl) (by kernel_rfl) (by kernel_rfl) (by kernel_rfl) (by exact fun _ _ _ h => h) (Or.inl ⟨by kernel_rfl, ?hy137⟩) (by assumption) ?rest137; (case hy137 => (intro w hSw; (try dsimp only at hSw); go_simp) <;> with_reducible rfl); go_frame
                    refine wpAnyH_ready (rs := [38]) (by kernel_rfl) (by simp) ?_; refine AllReadyH.cons rfl (fun K hK => ?_) AllReadyH.nil; go_simp
                    have hS2 := hS.out _ D2.out
                    refine hK.out _ _ ⟨(World.cell?_setCell_far _ _ _ _ hne2).trans hS2.1, (World.cell?_setCell_far _ _ _ _ hne2).trans hS2.2.1, (World.cell?_setCell_far _ _ _ _ hbT2).trans hS2.2.2.1, (World.cell?_setCell_far _ _ _ _ hbT2).trans hS2.2.2.2⟩ (fun hHeld => ?_)
                    clear hK K hS2 hHeld
                    try go_frame
                    refine wpAnyH_done (by kernel_rfl) ?_ _
                    all_goals
                      rw [hcat.out]
                      have hP := hid ((hXl.out _ D2.out).push k hlenT.out hkn' (nodeT ns (textsD ns k) x))
                      rw [← htx.out] at hP
                      have hBP := hid ((hlow.out _ D2.out).setCell (p := ⟨TB, k, none⟩) htb.out (.string ⟨(nodeT ns (textsD ns k) x).toArray⟩))
                      obtain ⟨P6, hP6⟩ : ∃ P6, X2.setCell ⟨TB, k, none⟩ (.string ⟨(nodeT ns (textsD ns k) x).toArray⟩) = P6 := ⟨_, rfl⟩
                      rw [hP6] at hP hBP ⊢
                      have cT := hP.out.get (k := k) (x := nodeT ns (textsD ns k) x) (by rw [htx.out, List.getElem?_append_right (by rw [hlenT.out]; omega), hlenT.out, Nat.sub_self]; rfl)
                      have hbad2 := hbad
                      have hgood2 := hgood
                      clear hP6 hbad hgood htx hE hcat hXl hlow hlowV
                      generalize nodeT ns (textsD ns k) x = E at *
                      by_cases hlong : 20000 < E.length
                      · have hd := hbad2.out hlong
                        subst hd
                        have q5 : decide ((20000 : Int) < (E.length : Int)) = true := decide_eq_true (by omega)
                        go_wp2
                        go_ret
                        exact ⟨rfl, hBP.out⟩
                      · have q5 : decide ((20000 : Int) < (E.length : Int)) = false := decide_eq_false (by omega)
                        have hg := hid (hgood2.out (by omega))
                        clear hbad2 hgood2
                        go_wp2
                        exact ⟨⟨k + 1, by simp, by omega, hBP, hP, hg⟩, by simp [intOf]; omega⟩
                  · as_aux_lemma =>
                    have ptl2 : (yl.kind == 2) = true := (kind_eqD yl.kind 2).symm.trans htl2
                    have ptr1 : (yr.kind == 1) = false := (kind_eqD yr.kind 1).symm.trans htr1
                    have ptr2 : (yr.kind == 2) = true := (kind_eqD yr.kind 2).symm.trans htr2
                    have hE : Hid (nodeT ns (textsD ns k) x = sideT (txAt (textsD ns k) li) true ++ (32 :: 97 :: 110 :: 100 :: 32 :: sideT (txAt (textsD ns k) ri) true)) := by
                      show _ = _
                      rw [nodeT, if_neg hk0, if_pos hk1, hli, hri, Int.toNat_natCast, Int.toNat_natCast, hkl, hkr]
                      simp [ptl2, ptr1, ptr2]
                    have c1 := hid (fun W hb => cSd.out W hb li hlk true)
                    have c2 := hid (fun W hb => cSd.out W hb ri hrk true)
                    have lS1 := sideT_len (txAt (textsD ns k) li) true
                    have lS2 := sideT_len (txAt (textsD ns k) ri) true
                    have hTl' := hTl.out
                    have hTr' := hTr.out
                    have hcat := hid (and_cat (sideT (txAt (textsD ns k) li) true) (sideT (txAt (textsD ns k) ri) true))
                    rw [← hE.out] at hcat
                    generalize sideT (txAt (textsD ns k) li) true = SL at *
                    generalize sideT (txAt (textsD ns k) ri) true = SR at *
                    have k1 : (9223372036854775807 < SL.length + 5) = False := eq_false (by omega)
                    have k2 : (9223372036854775807 < SL.length + 5 + SR.length) = False := eq_false (by omega)
                    clear hcells cSd ny hTl
                    clear hmsH
                    go_wp2_with fail
                    refine wp_region_held_drew (S := fun w' : World => w'.cell? ⟨V.heap.size, 6, none⟩ = some (.int .i64 (li : Int)) ∧ w'.cell? ⟨V.heap.size, 7, none⟩ = some (.int .i64 (ri : Int)) ∧ w'.cell? ⟨b, off + li * 8, none⟩ = some (.int .u8 (yl.kind.toNat : Int)) ∧ w'.cell? ⟨b, off + ri * 8, none⟩ = some (.int .u8 (yr.kind.toNat : Int))) (by kernel_rfl) (hS.out _ d0.out) (fun hHeld => ?_)
                    refine wpAnyH_take (i := 0) (v := ?v138) (by simp only [List.getElem?_toArray, List.getElem?_cons_zero]; rfl) (by kernel_rfl) (by kernel_rfl) (by kernel_rfl) (by exact fun _ _ _ h => h) (Or.inl ⟨by kernel_rfl, ?hy138⟩) (by assumption) ?rest138; (case hy138 => (intro w hSw; (try dsimp only at hSw); go_simp) <;> with_reducible rfl); go_frame; refine wpAnyH_take (i := 1) (v := ?v139) (by simp only [List.getElem?_toArray, List.getElem?_cons_succ, List.getElem?_cons_zero]; rfl) (by kernel_rfl) (by kernel_rfl) (by kernel_rfl) (by exact fun _ _ _ h => h) (Or.inl ⟨by kernel_rfl, ?hy139⟩) (by assumption) ?rest139; (case hy139 => (intro w hSw; (try dsimp only at hSw); go_simp) <;> with_reducible rfl); go_frame; refine wpAnyH_take (i := 2) (v := ?v140) (by simp only [List.getElem?_toArray, List.getElem?_cons_succ, List.getElem?_cons_zero]; rfl) (by kernel_rfl) (by kernel_rfl) (by kernel_rfl) (by exact fun _ _ _ h => h) (Or.inl ⟨by kernel_rfl, ?hy140⟩) (by assumption) ?rest140; (case hy140 => (intro w hSw; (try dsimp only at hSw); go_simp) <;> with_reducible rfl); go_frame; refine wpAnyH_take (i := 3) (v := ?v141) (by simp only [List.getElem?_toArray, List.getElem?_cons_succ, List.getElem?_cons_zero]; rfl) (by kernel_rfl) (by kernel_rfl) (by kernel_rfl) (by exact fun _ _ _ h => h) (Or.inl ⟨by kernel_rfl, ?hy141⟩) (by assumption) ?rest141; (case hy141 => (intro w hSw; (try dsimp only at hSw); go_simp) <;> with_reducible rfl); go_frame; refine wpAnyH_take (i := 4) (v := ?v142) (by simp only [List.getElem?_toArray, List.getElem?_cons_succ, List.getElem?_cons_zero]; rfl) (by kernel_rfl) (by kernel_rfl) (by kernel_rfl) (by exact fun _ _ _ h => h) (Or.inl ⟨by kernel_rfl, ?hy142⟩) (by assumption) ?rest142; (case hy142 => (intro w hSw; (try dsimp only at hSw); go_simp) <;> with_reducible rfl); go_frame; refine wpAnyH_take (i := 5) (v := ?v143) (by simp only [List.getElem?_toArray, List.getElem?_cons_succ, List.getElem?_cons_zero]; rfl) (by kernel_rfl) (by kernel_rfl) (by kernel_rfl) (by exact fun _ _ _ h => h) (Or.inl ⟨by kernel_rfl, ?hy143⟩) (by assumption) ?rest143; (case hy143 => (intro w hSw; (try dsimp only at hSw); go_simp) <;> with_reducible rfl); go_frame; refine wpAnyH_take (i := 6) (v := ?v144) (by simp only [List.getElem?_toArray, List.getElem?_cons_succ, List.getElem?_cons_zero]; rfl) (by kernel_rfl) (by kernel_rfl) (by kernel_rfl) (by exact fun _ _ _ h => h) (Or.inl ⟨by kernel_rfl, ?hy144⟩) (by assumption) ?rest144; (case hy144 => (intro w hSw; (try dsimp only at hSw); go_simp) <;> with_reducible rfl); go_frame; refine wpAnyH_take (i := 7) (v := ?v145) (by simp only [List.getElem?_toArray, List.getElem?_cons_succ, List.getElem?_cons_zero]; rfl) (by kernel_rfl) (by kernel_rfl) (by kernel_rfl) (by exact fun _ _ _ h => h) (Or.inl ⟨by kernel_rfl, ?hy145⟩) (by assumption) ?rest145; (case hy145 => (intro w hSw; (try dsimp only at hSw); go_simp) <;> with_reducible rfl); go_frame; refine wpAnyH_take (i := 8) (v := ?v146) (by simp only [List.getElem?_toArray, List.getElem?_cons_succ, List.getElem?_cons_zero]; rfl) (by kernel_rfl) (by kernel_rfl) (by kernel_rfl) (by exact fun _ _ _ h => h) (Or.inl ⟨by kernel_rfl, ?hy146⟩) (by assumption) ?rest146; (case hy146 => (intro w hSw; (try dsimp only at hSw); go_simp) <;> with_reducible rfl); go_frame; refine wpAnyH_take (i := 9) (v := ?v147) (by simp only [List.getElem?_toArray, List.getElem?_cons_succ, List.getElem?_cons_zero]; rfl) (by kernel_rfl) (by kernel_rfl) (by kernel_rfl) (by exact fun _ _ _ h => h) (Or.inl ⟨by kernel_rfl, ?hy147⟩) (by assumption) ?rest147; (case hy147 => (intro w hSw; (try dsimp only at hSw); go_simp) <;> with_reducible rfl); go_frame; refine wpAnyH_take (i := 10) (v := ?v148) (by simp only [List.getElem?_toArray, List.getElem?_cons_succ, List.getElem?_cons_zero]; rfl) (by kernel_rfl) (by kernel_rfl) (by kernel_rfl) (by exact fun _ _ _ h => h) (Or.inl ⟨by kernel_rfl, ?hy148⟩) (by assumption) ?rest148; (case hy148 => (intro w hSw; (try dsimp only at hSw); go_simp) <;> with_reducible rfl); go_frame; refine wpAnyH_take (i := 11) (v := ?v149) (by simp only [List.getElem?_toArray, List.getElem?_cons_succ, List.getElem?_cons_zero]; rfl) (by kernel_rfl) (by kernel_rfl) (by kernel_rfl) (by exact fun _ _ _ h => h) (Or.inl ⟨by kernel_rfl, ?hy149⟩) (by assumption) ?rest149; (case hy149 => (intro w hSw; (try dsimp only at hSw); go_simp) <;> with_reducible rfl); go_frame; refine wpAnyH_take (i := 12) (v := ?v150) (by simp only [List.getElem?_toArray, List.getElem?_cons_succ, List.getElem?_cons_zero]; rfl) (by kernel_rfl) (by kernel_rfl) (by kernel_rfl) (by exact fun _ _ _ h => h) (Or.inl ⟨by kernel_rfl, ?hy150⟩) (by assumption) ?rest150; (case hy150 => (intro w hSw; (try dsimp only at hSw); go_simp) <;> with_reducible rfl); go_frame; refine wpAnyH_take (i := 15) (v := ?v151) (by simp only [List.getElem?_toArray, List.getElem?_cons_succ, List.getElem?_cons_zero]; rfl) (by kernel_rfl) (by kernel_rfl) (by kernel_rfl) (by exact fun _ _ _ h => h) (Or.inl ⟨by kernel_rfl, ?hy151⟩) (by assumption) ?rest151; (case hy151 => (intro w hSw; (try dsimp only at hSw); go_simp) <;> with_reducible rfl); go_frame; refine wpAnyH_take (i := 16) (v := ?v152) (by simp only [List.getElem?_toArray, List.getElem?_cons_succ, List.getElem?_cons_zero]; rfl) (by kernel_rfl) (by kernel_rfl) (by kernel_rfl) (by exact fun _ _ _ h => h) (Or.inl ⟨by kernel_rfl, ?hy152⟩) (by assumption) ?rest152; (case hy152 => (intro w hSw; (try dsimp only at hSw); go_simp) <;> with_reducible rfl); go_frame; refine wpAnyH_take (i := 17) (v := ?v153) (by simp only [List.getElem?_toArray, List.getElem?_cons_succ, List.getElem?_cons_zero]; rfl) (by kernel_rfl) (by kernel_rfl) (by kernel_rfl) (by exact fun _ _ _ h => h) (Or.inl ⟨by kernel_rfl, ?hy153⟩) (by assumption) ?rest153; (case hy153 => (intro w hSw; (try dsimp only at hSw); go_simp) <;> with_reducible rfl); go_frame; refine wpAnyH_take (i := 18) (v := ?v154) (by simp only [List.getElem?_toArray, List.getElem?_cons_succ, List.getElem?_cons_zero]; rfl) (by kernel_rfl) (by kernel_rfl) (by kernel_rfl) (by exact fun _ _ _ h => h) (Or.inl ⟨by kernel_rfl, ?hy154⟩) (by assumption) ?rest154; (case hy154 => (intro w hSw; (try dsimp only at hSw); go_simp) <;> with_reducible rfl); go_frame; refine wpAnyH_take (i := 19) (v := ?v155) (by simp only [List.getElem?_toArray, List.getElem?_cons_succ, List.getElem?_cons_zero]; rfl) (by kernel_rfl) (by kernel_rfl) (by kernel_rfl) (by exact fun _ _ _ h => h) (Or.inl ⟨by kernel_rfl, ?hy155⟩) (by assumption) ?rest155; (case hy155 => (intro w hSw; (try dsimp only at hSw); go_simp) <;> with_reducible rfl); go_frame; refine wpAnyH_take (i := 20) (v := ?v156) (by simp only [List.getElem?_toArray, List.getElem?_cons_succ, List.getElem?_cons_zero]; rfl) (by kernel_rfl) (by kernel_rfl) (by kernel_rfl) (by exact fun _ _ _ h => h) (Or.inl ⟨by kernel_rfl, ?hy156⟩) (by assumption) ?rest156; (case hy156 => (intro w hSw; (try dsimp only at hSw); go_simp) <;> with_reducible rfl); go_frame; refine wpAnyH_take (i := 21) (v := ?v157) (by simp only [List.getElem?_toArray, List.getElem?_cons_succ, List.getElem?_cons_zero]; rfl) (by kernel_rfl) (by kernel_rfl) (by kernel_rfl) (by exact fun _ _ _ h => h) (Or.inl ⟨by kernel_rfl, ?hy157⟩) (by assumption) ?rest157; (case hy157 => (intro w hSw; (try dsimp only at hSw); go_simp) <;> with_reducible rfl); go_frame; refine wpAnyH_take (i := 22) (v := ?v158) (by simp only [List.getElem?_toArray, List.getElem?_cons_succ, List.getElem?_cons_zero]; rfl) (by kernel_rfl) (by kernel_rfl) (by kernel_rfl) (by exact fun _ _ _ h => h) (Or.inl ⟨by kernel_rfl, ?hy158⟩) (by assumption) ?rest158; (case hy158 => (intro w hSw; (try dsimp only at hSw); go_simp) <;> with_reducible rfl); go_frame; refine wpAnyH_take (i := 23) (v := ?v159) (by simp only [List.getElem?_toArray, List.getElem?_cons_succ, List.getElem?_cons_zero]; rfl) (by kernel_rfl) (by kernel_rfl) (by kernel_rfl) (by exact fun _ _ _ h => h) (Or.inl ⟨by kernel_rfl, ?hy159⟩) (by assumption) ?rest159; (case hy159 => (intro w hSw; (try dsimp only at hSw); go_simp) <;> with_reducible rfl); go_frame; refine wpAnyH_take (i := 24) (v := ?v160) (by simp only [List.getElem?_toArray, List.getElem?_cons_succ, List.getElem?_cons_zero]; rfl) (by kernel_rfl) (by kernel_rfl) (by kernel_rfl) (by exact fun _ _ _ h => h) (Or.inl ⟨by kernel_rfl, ?hy160⟩) (by assumption) ?rest160; (case hy160 => (intro w hSw; (try dsimp only at hSw); go_simp) <;> with_reducible rfl); go_frame; refine wpAnyH_take (i := 25) (v := ?v161) (by simp only [List.getElem?_toArray, List.getElem?_cons_succ, List.getElem?_cons_zero]; rfl) (by kernel_rfl) (by kernel_rfl) (by kernel_rfl) (by exact fun _ _ _ h => h) (Or.inl ⟨by kernel_rfl, ?hy161⟩) (by assumption) ?rest161; (case hy161 => (intro w hSw; (try dsimp only at hSw); go_simp) <;> with_reducible rfl); go_frame
                    refine wpAnyH_ready (rs := [13]) (by kernel_rfl) (by simp) ?_; refine AllReadyH.cons rfl (fun K hK => ?_) AllReadyH.nil; go_simp
                    refine (c1.out _ d0.out).mono ?_
                    rintro e X1 ⟨rfl, b1⟩
                    have D1 := hid (low' d0.out b1)
                    have hS1 := hS.out _ D1.out
                    clear hHeld b1
                    go_wp2
                    refine hK.out _ _ hS1 (fun hHeld => ?_)
                    clear hK K hS1
                    try go_frame
                    refine wpAnyH_take (i := 14) (v := ?v162) (by simp only [List.getElem?_toArray, List.getElem?_cons_succ, List.getElem?_cons_zero]; rfl) (by kernel_rfl) (by kernel_rfl) (by kernel_rfl) (by exact fun _ _ _ h => h) (Or.inl ⟨by kernel_rfl, ?hy162⟩) (by assumption) ?rest162; (case hy162 => (intro w hSw; (try dsimp only at hSw); go_simp) <;> with_reducible rfl); go_frame; refine wpAnyH_take (i := 26) (v := ?v163) (by simp only [List.getElem?_toArray, List.getElem?_cons_succ, List.getElem?_cons_zero]; rfl) (by kernel_rfl) (by kernel_rfl) (by kernel_rfl) (by exact fun _ _ _ h => h) (Or.inl ⟨by kernel_rfl, ?hy163⟩) (by assumption) ?rest163; (case hy163 => (intro w hSw; (try dsimp only at hSw); go_simp) <;> with_reducible rfl); go_frame
                    refine wpAnyH_take (i := 27) (v := ?v164) (by simp only [List.getElem?_toArray, List.getElem?_cons_succ, List.getElem?_cons_zero]; rfl) (by kernel_rfl) (by kernel_rfl) (by kernel_rfl) (by exact fun _ _ _ h => h) (Or.inl ⟨by kernel_rfl, ?hy164⟩) (by assumption) ?rest164; (case hy164 => (intro w hSw; (try dsimp only at hSw); go_simp) <;> with_reducible rfl); go_frame; refine wpAnyH_take (i := 28) (v := ?v165) (by simp only [List.getElem?_toArray, List.getElem?_cons_succ, List.getElem?_cons_zero]; rfl) (by kernel_rfl) (by kernel_rfl) (by kernel_rfl) (by exact fun _ _ _ h => h) (Or.inl ⟨by kernel_rfl, ?hy165⟩) (by assumption) ?rest165; (case hy165 => (intro w hSw; (try dsimp only at hSw); go_simp) <;> with_reducible rfl); go_frame; refine wpAnyH_take (i := 29) (v := ?v166) (by simp only [List.getElem?_toArray, List.getElem?_cons_succ, List.getElem?_cons_zero]; rfl) (by kernel_rfl) (by kernel_rfl) (by kernel_rfl) (by exact fun _ _ _ h => h) (Or.inl ⟨by kernel_rfl, ?hy166⟩) (by assumption) ?rest166; (case hy166 => (intro w hSw; (try dsimp only at hSw); go_simp) <;> with_reducible rfl); go_frame; refine wpAnyH_take (i := 30) (v := ?v167) (by simp only [List.getElem?_toArray, List.getElem?_cons_succ, List.getElem?_cons_zero]; rfl) (by kernel_rfl) (by kernel_rfl) (by kernel_rfl) (by exact fun _ _ _ h => h) (Or.inl ⟨by kernel_rfl, ?hy167⟩) (by assumption) ?rest167; (case hy167 => (intro w hSw; (try dsimp only at hSw); go_simp) <;> with_reducible rfl); go_frame; refine wpAnyH_take (i := 31) (v := ?v168) (by simp only [List.getElem?_toArray, List.getElem?_cons_succ, List.getElem?_cons_zero]; rfl) (by kernel_rfl) (by kernel_rfl) (by kernel_rfl) (by exact fun _ _ _ h => h) (Or.inl ⟨by kernel_rfl, ?hy168⟩) (by assumption) ?rest168; (case hy168 => (intro w hSw; (try dsimp only at hSw); go_simp) <;> with_reducible rfl); go_frame; refine wpAnyH_take (i := 32) (v := ?v169) (by simp only [List.getElem?_toArray, List.getElem?_cons_succ, List.getElem?_cons_zero]; rfl) (by kernel_rfl) (by kernel_rfl) (by kernel_rfl) (by exact fun _ _ _ h => h) (Or.inl ⟨by kernel_rfl, ?hy169⟩) (by assumption) ?rest169; (case hy169 => (intro w hSw; (try dsimp only at hSw); go_simp) <;> with_reducible rfl); go_frame; refine wpAnyH_take (i := 33) (v := ?v170) (by simp only [List.getElem?_toArray, List.getElem?_cons_succ, List.getElem?_cons_zero]; rfl) (by kernel_rfl) (by kernel_rfl) (by kernel_rfl) (by exact fun _ _ _ h => h) (Or.inl ⟨by kernel_rfl, ?hy170⟩) (by assumption) ?rest170; (case hy170 => (intro w hSw; (try dsimp only at hSw); go_simp) <;> with_reducible rfl); go_frame
                    refine wpAnyH_take (i := 34) (v := ?v171) (by simp only [List.getElem?_toArray, List.getElem?_cons_succ, List.getElem?_cons_zero]; rfl) (by kernel_rfl) (by kernel_rfl) (by kernel_rfl) (by exact fun _ _ _ h => h) (Or.inl ⟨by kernel_rfl, ?hy171⟩) (by assumption) ?rest171; (case hy171 => (intro w hSw; (try dsimp only at hSw); go_simp) <;> with_reducible rfl); go_frame
                    refine wpAnyH_ready (rs := [35]) (by kernel_rfl) (by simp) ?_; refine AllReadyH.cons rfl (fun K hK => ?_) AllReadyH.nil; go_simp
                    refine (c2.out _ D1.out).mono ?_
                    rintro e X2 ⟨rfl, b2⟩
                    have D2 := hid (low' D1.out b2)
                    have hS1 := hS.out _ D2.out
                    obtain ⟨ut, ct, ft⟩ := (hXl.out _ D2.out).cell k hkn'
                    clear hHeld b2
                    go_wp2
                    refine hK.out _ _ hS1 (fun hHeld => ?_)
                    clear hK K hS1
                    try go_frame
                    refine wpAnyH_take (i := 36) (v := ?v172) (by simp only [List.getElem?_toArray, List.getElem?_cons_succ, List.getElem?_cons_zero]; rfl) (by kernel_rfl) (by kernel_rfl) (by kernel_rfl) (by exact fun _ _ _ h => h) (Or.inl ⟨by kernel_rfl, ?hy172⟩) (by assumption) ?rest172; (case hy172 => (intro w hSw; (try dsimp only at hSw); go_simp) <;> with_reducible rfl); go_frame; refine wpAnyH_take (i := 37) (v := ?v173) (by simp only [List.getElem?_toArray, List.getElem?_cons_succ, List.getElem?_cons_zero]; rfl) (by kernel_rfl) (by kernel_rfl) (by kernel_rfl) (by exact fun _ _ _ h => h) (Or.inl ⟨by kernel_rfl, ?hy173⟩) (by assumption) ?rest173; (case hy173 => (intro w hSw; (try dsimp only at hSw); go_simp) <;> with_reducible rfl); go_frame
                    refine wpAnyH_ready (rs := [38]) (by kernel_rfl) (by simp) ?_; refine AllReadyH.cons rfl (fun K hK => ?_) AllReadyH.nil; go_simp
                    have hS2 := hS.out _ D2.out
                    refine hK.out _ _ ⟨(World.cell?_setCell_far _ _ _ _ hne2).trans hS2.1, (World.cell?_setCell_far _ _ _ _ hne2).trans hS2.2.1, (World.cell?_setCell_far _ _ _ _ hbT2).trans hS2.2.2.1, (World.cell?_setCell_far _ _ _ _ hbT2).trans hS2.2.2.2⟩ (fun hHeld => ?_)
                    clear hK K hS2 hHeld
                    try go_frame
                    refine wpAnyH_done (by kernel_rfl) ?_ _
                    all_goals
                      rw [hcat.out]
                      have hP := hid ((hXl.out _ D2.out).push k hlenT.out hkn' (nodeT ns (textsD ns k) x))
                      rw [← htx.out] at hP
                      have hBP := hid ((hlow.out _ D2.out).setCell (p := ⟨TB, k, none⟩) htb.out (.string ⟨(nodeT ns (textsD ns k) x).toArray⟩))
                      obtain ⟨P6, hP6⟩ : ∃ P6, X2.setCell ⟨TB, k, none⟩ (.string ⟨(nodeT ns (textsD ns k) x).toArray⟩) = P6 := ⟨_, rfl⟩
                      rw [hP6] at hP hBP ⊢
                      have cT := hP.out.get (k := k) (x := nodeT ns (textsD ns k) x) (by rw [htx.out, List.getElem?_append_right (by rw [hlenT.out]; omega), hlenT.out, Nat.sub_self]; rfl)
                      have hbad2 := hbad
                      have hgood2 := hgood
                      clear hP6 hbad hgood htx hE hcat hXl hlow hlowV
                      generalize nodeT ns (textsD ns k) x = E at *
                      by_cases hlong : 20000 < E.length
                      · have hd := hbad2.out hlong
                        subst hd
                        have q5 : decide ((20000 : Int) < (E.length : Int)) = true := decide_eq_true (by omega)
                        go_wp2
                        go_ret
                        exact ⟨rfl, hBP.out⟩
                      · have q5 : decide ((20000 : Int) < (E.length : Int)) = false := decide_eq_false (by omega)
                        have hg := hid (hgood2.out (by omega))
                        clear hbad2 hgood2
                        go_wp2
                        exact ⟨⟨k + 1, by simp, by omega, hBP, hP, hg⟩, by simp [intOf]; omega⟩
                · as_aux_lemma =>
                  have ptl2 : (yl.kind == 2) = true := (kind_eqD yl.kind 2).symm.trans htl2
                  have ptr1 : (yr.kind == 1) = true := (kind_eqD yr.kind 1).symm.trans htr1
                  have hE : Hid (nodeT ns (textsD ns k) x = sideT (txAt (textsD ns k) li) true ++ (32 :: 97 :: 110 :: 100 :: 32 :: sideT (txAt (textsD ns k) ri) true)) := by
                    show _ = _
                    rw [nodeT, if_neg hk0, if_pos hk1, hli, hri, Int.toNat_natCast, Int.toNat_natCast, hkl, hkr]
                    simp [ptl2, ptr1]
                  have c1 := hid (fun W hb => cSd.out W hb li hlk true)
                  have c2 := hid (fun W hb => cSd.out W hb ri hrk true)
                  have lS1 := sideT_len (txAt (textsD ns k) li) true
                  have lS2 := sideT_len (txAt (textsD ns k) ri) true
                  have hTl' := hTl.out
                  have hTr' := hTr.out
                  have hcat := hid (and_cat (sideT (txAt (textsD ns k) li) true) (sideT (txAt (textsD ns k) ri) true))
                  rw [← hE.out] at hcat
                  generalize sideT (txAt (textsD ns k) li) true = SL at *
                  generalize sideT (txAt (textsD ns k) ri) true = SR at *
                  have k1 : (9223372036854775807 < SL.length + 5) = False := eq_false (by omega)
                  have k2 : (9223372036854775807 < SL.length + 5 + SR.length) = False := eq_false (by omega)
                  clear hcells cSd ny hTl
                  clear hmsH
                  go_wp2_with fail
                  refine wp_region_held_drew (S := fun w' : World => w'.cell? ⟨V.heap.size, 6, none⟩ = some (.int .i64 (li : Int)) ∧ w'.cell? ⟨V.heap.size, 7, none⟩ = some (.int .i64 (ri : Int)) ∧ w'.cell? ⟨b, off + li * 8, none⟩ = some (.int .u8 (yl.kind.toNat : Int)) ∧ w'.cell? ⟨b, off + ri * 8, none⟩ = some (.int .u8 (yr.kind.toNat : Int))) (by kernel_rfl) (hS.out _ d0.out) (fun hHeld => ?_)
                  refine wpAnyH_take (i := 0) (v := ?v174) (by simp only [List.getElem?_toArray, List.getElem?_cons_zero]; rfl) (by kernel_rfl) (by kernel_rfl) (by kernel_rfl) (by exact fun _ _ _ h => h) (Or.inl ⟨by kernel_rfl, ?hy174⟩) (by assumption) ?rest174; (case hy174 => (intro w hSw; (try dsimp only at hSw); go_simp) <;> with_reducible rfl); go_frame; refine wpAnyH_take (i := 1) (v := ?v175) (by simp only [List.getElem?_toArray, List.getElem?_cons_succ, List.getElem?_cons_zero]; rfl) (by kernel_rfl) (by kernel_rfl) (by kernel_rfl) (by exact fun _ _ _ h => h) (Or.inl ⟨by kernel_rfl, ?hy175⟩) (by assumption) ?rest175; (case hy175 => (intro w hSw; (try dsimp only at hSw); go_simp) <;> with_reducible rfl); go_frame; refine wpAnyH_take (i := 2) (v := ?v176) (by simp only [List.getElem?_toArray, List.getElem?_cons_succ, List.getElem?_cons_zero]; rfl) (by kernel_rfl) (by kernel_rfl) (by kernel_rfl) (by exact fun _ _ _ h => h) (Or.inl ⟨by kernel_rfl, ?hy176⟩) (by assumption) ?rest176; (case hy176 => (intro w hSw; (try dsimp only at hSw); go_simp) <;> with_reducible rfl); go_frame; refine wpAnyH_take (i := 3) (v := ?v177) (by simp only [List.getElem?_toArray, List.getElem?_cons_succ, List.getElem?_cons_zero]; rfl) (by kernel_rfl) (by kernel_rfl) (by kernel_rfl) (by exact fun _ _ _ h => h) (Or.inl ⟨by kernel_rfl, ?hy177⟩) (by assumption) ?rest177; (case hy177 => (intro w hSw; (try dsimp only at hSw); go_simp) <;> with_reducible rfl); go_frame; refine wpAnyH_take (i := 4) (v := ?v178) (by simp only [List.getElem?_toArray, List.getElem?_cons_succ, List.getElem?_cons_zero]; rfl) (by kernel_rfl) (by kernel_rfl) (by kernel_rfl) (by exact fun _ _ _ h => h) (Or.inl ⟨by kernel_rfl, ?hy178⟩) (by assumption) ?rest178; (case hy178 => (intro w hSw; (try dsimp only at hSw); go_simp) <;> with_reducible rfl); go_frame; refine wpAnyH_take (i := 5) (v := ?v179) (by simp only [List.getElem?_toArray, List.getElem?_cons_succ, List.getElem?_cons_zero]; rfl) (by kernel_rfl) (by kernel_rfl) (by kernel_rfl) (by exact fun _ _ _ h => h) (Or.inl ⟨by kernel_rfl, ?hy179⟩) (by assumption) ?rest179; (case hy179 => (intro w hSw; (try dsimp only at hSw); go_simp) <;> with_reducible rfl); go_frame; refine wpAnyH_take (i := 6) (v := ?v180) (by simp only [List.getElem?_toArray, List.getElem?_cons_succ, List.getElem?_cons_zero]; rfl) (by kernel_rfl) (by kernel_rfl) (by kernel_rfl) (by exact fun _ _ _ h => h) (Or.inl ⟨by kernel_rfl, ?hy180⟩) (by assumption) ?rest180; (case hy180 => (intro w hSw; (try dsimp only at hSw); go_simp) <;> with_reducible rfl); go_frame; refine wpAnyH_take (i := 7) (v := ?v181) (by simp only [List.getElem?_toArray, List.getElem?_cons_succ, List.getElem?_cons_zero]; rfl) (by kernel_rfl) (by kernel_rfl) (by kernel_rfl) (by exact fun _ _ _ h => h) (Or.inl ⟨by kernel_rfl, ?hy181⟩) (by assumption) ?rest181; (case hy181 => (intro w hSw; (try dsimp only at hSw); go_simp) <;> with_reducible rfl); go_frame; refine wpAnyH_take (i := 8) (v := ?v182) (by simp only [List.getElem?_toArray, List.getElem?_cons_succ, List.getElem?_cons_zero]; rfl) (by kernel_rfl) (by kernel_rfl) (by kernel_rfl) (by exact fun _ _ _ h => h) (Or.inl ⟨by kernel_rfl, ?hy182⟩) (by assumption) ?rest182; (case hy182 => (intro w hSw; (try dsimp only at hSw); go_simp) <;> with_reducible rfl); go_frame; refine wpAnyH_take (i := 9) (v := ?v183) (by simp only [List.getElem?_toArray, List.getElem?_cons_succ, List.getElem?_cons_zero]; rfl) (by kernel_rfl) (by kernel_rfl) (by kernel_rfl) (by exact fun _ _ _ h => h) (Or.inl ⟨by kernel_rfl, ?hy183⟩) (by assumption) ?rest183; (case hy183 => (intro w hSw; (try dsimp only at hSw); go_simp) <;> with_reducible rfl); go_frame; refine wpAnyH_take (i := 10) (v := ?v184) (by simp only [List.getElem?_toArray, List.getElem?_cons_succ, List.getElem?_cons_zero]; rfl) (by kernel_rfl) (by kernel_rfl) (by kernel_rfl) (by exact fun _ _ _ h => h) (Or.inl ⟨by kernel_rfl, ?hy184⟩) (by assumption) ?rest184; (case hy184 => (intro w hSw; (try dsimp only at hSw); go_simp) <;> with_reducible rfl); go_frame; refine wpAnyH_take (i := 11) (v := ?v185) (by simp only [List.getElem?_toArray, List.getElem?_cons_succ, List.getElem?_cons_zero]; rfl) (by kernel_rfl) (by kernel_rfl) (by kernel_rfl) (by exact fun _ _ _ h => h) (Or.inl ⟨by kernel_rfl, ?hy185⟩) (by assumption) ?rest185; (case hy185 => (intro w hSw; (try dsimp only at hSw); go_simp) <;> with_reducible rfl); go_frame; refine wpAnyH_take (i := 12) (v := ?v186) (by simp only [List.getElem?_toArray, List.getElem?_cons_succ, List.getElem?_cons_zero]; rfl) (by kernel_rfl) (by kernel_rfl) (by kernel_rfl) (by exact fun _ _ _ h => h) (Or.inl ⟨by kernel_rfl, ?hy186⟩) (by assumption) ?rest186; (case hy186 => (intro w hSw; (try dsimp only at hSw); go_simp) <;> with_reducible rfl); go_frame; refine wpAnyH_take (i := 15) (v := ?v187) (by simp only [List.getElem?_toArray, List.getElem?_cons_succ, List.getElem?_cons_zero]; rfl) (by kernel_rfl) (by kernel_rfl) (by kernel_rfl) (by exact fun _ _ _ h => h) (Or.inl ⟨by kernel_rfl, ?hy187⟩) (by assumption) ?rest187; (case hy187 => (intro w hSw; (try dsimp only at hSw); go_simp) <;> with_reducible rfl); go_frame; refine wpAnyH_take (i := 16) (v := ?v188) (by simp only [List.getElem?_toArray, List.getElem?_cons_succ, List.getElem?_cons_zero]; rfl) (by kernel_rfl) (by kernel_rfl) (by kernel_rfl) (by exact fun _ _ _ h => h) (Or.inl ⟨by kernel_rfl, ?hy188⟩) (by assumption) ?rest188; (case hy188 => (intro w hSw; (try dsimp only at hSw); go_simp) <;> with_reducible rfl); go_frame; refine wpAnyH_take (i := 17) (v := ?v189) (by simp only [List.getElem?_toArray, List.getElem?_cons_succ, List.getElem?_cons_zero]; rfl) (by kernel_rfl) (by kernel_rfl) (by kernel_rfl) (by exact fun _ _ _ h => h) (Or.inl ⟨by kernel_rfl, ?hy189⟩) (by assumption) ?rest189; (case hy189 => (intro w hSw; (try dsimp only at hSw); go_simp) <;> with_reducible rfl); go_frame; refine wpAnyH_take (i := 18) (v := ?v190) (by simp only [List.getElem?_toArray, List.getElem?_cons_succ, List.getElem?_cons_zero]; rfl) (by kernel_rfl) (by kernel_rfl) (by kernel_rfl) (by exact fun _ _ _ h => h) (Or.inl ⟨by kernel_rfl, ?hy190⟩) (by assumption) ?rest190; (case hy190 => (intro w hSw; (try dsimp only at hSw); go_simp) <;> with_reducible rfl); go_frame; refine wpAnyH_take (i := 19) (v := ?v191) (by simp only [List.getElem?_toArray, List.getElem?_cons_succ, List.getElem?_cons_zero]; rfl) (by kernel_rfl) (by kernel_rfl) (by kernel_rfl) (by exact fun _ _ _ h => h) (Or.inl ⟨by kernel_rfl, ?hy191⟩) (by assumption) ?rest191; (case hy191 => (intro w hSw; (try dsimp only at hSw); go_simp) <;> with_reducible rfl); go_frame; refine wpAnyH_take (i := 20) (v := ?v192) (by simp only [List.getElem?_toArray, List.getElem?_cons_succ, List.getElem?_cons_zero]; rfl) (by kernel_rfl) (by kernel_rfl) (by kernel_rfl) (by exact fun _ _ _ h => h) (Or.inl ⟨by kernel_rfl, ?hy192⟩) (by assumption) ?rest192; (case hy192 => (intro w hSw; (try dsimp only at hSw); go_simp) <;> with_reducible rfl); go_frame; refine wpAnyH_take (i := 21) (v := ?v193) (by simp only [List.getElem?_toArray, List.getElem?_cons_succ, List.getElem?_cons_zero]; rfl) (by kernel_rfl) (by kernel_rfl) (by kernel_rfl) (by exact fun _ _ _ h => h) (Or.inl ⟨by kernel_rfl, ?hy193⟩) (by assumption) ?rest193; (case hy193 => (intro w hSw; (try dsimp only at hSw); go_simp) <;> with_reducible rfl); go_frame; refine wpAnyH_take (i := 22) (v := ?v194) (by simp only [List.getElem?_toArray, List.getElem?_cons_succ, List.getElem?_cons_zero]; rfl) (by kernel_rfl) (by kernel_rfl) (by kernel_rfl) (by exact fun _ _ _ h => h) (Or.inl ⟨by kernel_rfl, ?hy194⟩) (by assumption) ?rest194; (case hy194 => (intro w hSw; (try dsimp only at hSw); go_simp) <;> with_reducible rfl); go_frame; refine wpAnyH_take (i := 23) (v := ?v195) (by simp only [List.getElem?_toArray, List.getElem?_cons_succ, List.getElem?_cons_zero]; rfl) (by kernel_rfl) (by kernel_rfl) (by kernel_rfl) (by exact fun _ _ _ h => h) (Or.inl ⟨by kernel_rfl, ?hy195⟩) (by assumption) ?rest195; (case hy195 => (intro w hSw; (try dsimp only at hSw); go_simp) <;> with_reducible rfl); go_frame; refine wpAnyH_take (i := 24) (v := ?v196) (by simp only [List.getElem?_toArray, List.getElem?_cons_succ, List.getElem?_cons_zero]; rfl) (by kernel_rfl) (by kernel_rfl) (by kernel_rfl) (by exact fun _ _ _ h => h) (Or.inl ⟨by kernel_rfl, ?hy196⟩) (by assumption) ?rest196; (case hy196 => (intro w hSw; (try dsimp only at hSw); go_simp) <;> with_reducible rfl); go_frame; refine wpAnyH_take (i := 25) (v := ?v197) (by simp only [List.getElem?_toArray, List.getElem?_cons_succ, List.getElem?_cons_zero]; rfl) (by kernel_rfl) (by kernel_rfl) (by kernel_rfl) (by exact fun _ _ _ h => h) (Or.inl ⟨by kernel_rfl, ?hy197⟩) (by assumption) ?rest197; (case hy197 => (intro w hSw; (try dsimp only at hSw); go_simp) <;> with_reducible rfl); go_frame
                  refine wpAnyH_ready (rs := [13]) (by kernel_rfl) (by simp) ?_; refine AllReadyH.cons rfl (fun K hK => ?_) AllReadyH.nil; go_simp
                  refine (c1.out _ d0.out).mono ?_
                  rintro e X1 ⟨rfl, b1⟩
                  have D1 := hid (low' d0.out b1)
                  have hS1 := hS.out _ D1.out
                  clear hHeld b1
                  go_wp2
                  refine hK.out _ _ hS1 (fun hHeld => ?_)
                  clear hK K hS1
                  try go_frame
                  refine wpAnyH_take (i := 14) (v := ?v198) (by simp only [List.getElem?_toArray, List.getElem?_cons_succ, List.getElem?_cons_zero]; rfl) (by kernel_rfl) (by kernel_rfl) (by kernel_rfl) (by exact fun _ _ _ h => h) (Or.inl ⟨by kernel_rfl, ?hy198⟩) (by assumption) ?rest198; (case hy198 => (intro w hSw; (try dsimp only at hSw); go_simp) <;> with_reducible rfl); go_frame; refine wpAnyH_take (i := 26) (v := ?v199) (by simp only [List.getElem?_toArray, List.getElem?_cons_succ, List.getElem?_cons_zero]; rfl) (by kernel_rfl) (by kernel_rfl) (by kernel_rfl) (by exact fun _ _ _ h => h) (Or.inl ⟨by kernel_rfl, ?hy199⟩) (by assumption) ?rest199; (case hy199 => (intro w hSw; (try dsimp only at hSw); go_simp) <;> with_reducible rfl); go_frame
                  refine wpAnyH_take (i := 27) (v := undef) (by simp only [List.getElem?_toArray, List.getElem?_cons_succ, List.getElem?_cons_zero]; rfl) (by kernel_rfl) (by kernel_rfl) (by kernel_rfl) (by exact fun _ _ _ h => h) (Or.inr ⟨by kernel_rfl, rfl⟩) (by assumption) ?_; go_frame; refine wpAnyH_take (i := 28) (v := undef) (by simp only [List.getElem?_toArray, List.getElem?_cons_succ, List.getElem?_cons_zero]; rfl) (by kernel_rfl) (by kernel_rfl) (by kernel_rfl) (by exact fun _ _ _ h => h) (Or.inr ⟨by kernel_rfl, rfl⟩) (by assumption) ?_; go_frame; refine wpAnyH_take (i := 29) (v := undef) (by simp only [List.getElem?_toArray, List.getElem?_cons_succ, List.getElem?_cons_zero]; rfl) (by kernel_rfl) (by kernel_rfl) (by kernel_rfl) (by exact fun _ _ _ h => h) (Or.inr ⟨by kernel_rfl, rfl⟩) (by assumption) ?_; go_frame; refine wpAnyH_take (i := 30) (v := undef) (by simp only [List.getElem?_toArray, List.getElem?_cons_succ, List.getElem?_cons_zero]; rfl) (by kernel_rfl) (by kernel_rfl) (by kernel_rfl) (by exact fun _ _ _ h => h) (Or.inr ⟨by kernel_rfl, rfl⟩) (by assumption) ?_; go_frame; refine wpAnyH_take (i := 31) (v := undef) (by simp only [List.getElem?_toArray, List.getElem?_cons_succ, List.getElem?_cons_zero]; rfl) (by kernel_rfl) (by kernel_rfl) (by kernel_rfl) (by exact fun _ _ _ h => h) (Or.inr ⟨by kernel_rfl, rfl⟩) (by assumption) ?_; go_frame; refine wpAnyH_take (i := 32) (v := undef) (by simp only [List.getElem?_toArray, List.getElem?_cons_succ, List.getElem?_cons_zero]; rfl) (by kernel_rfl) (by kernel_rfl) (by kernel_rfl) (by exact fun _ _ _ h => h) (Or.inr ⟨by kernel_rfl, rfl⟩) (by assumption) ?_; go_frame; refine wpAnyH_take (i := 33) (v := undef) (by simp only [List.getElem?_toArray, List.getElem?_cons_succ, List.getElem?_cons_zero]; rfl) (by kernel_rfl) (by kernel_rfl) (by kernel_rfl) (by exact fun _ _ _ h => h) (Or.inr ⟨by kernel_rfl, rfl⟩) (by assumption) ?_; go_frame
                  refine wpAnyH_take (i := 34) (v := ?v200) (by simp only [List.getElem?_toArray, List.getElem?_cons_succ, List.getElem?_cons_zero]; rfl) (by kernel_rfl) (by kernel_rfl) (by kernel_rfl) (by exact fun _ _ _ h => h) (Or.inl ⟨by kernel_rfl, ?hy200⟩) (by assumption) ?rest200; (case hy200 => (intro w hSw; (try dsimp only at hSw); go_simp) <;> with_reducible rfl); go_frame
                  refine wpAnyH_ready (rs := [35]) (by kernel_rfl) (by simp) ?_; refine AllReadyH.cons rfl (fun K hK => ?_) AllReadyH.nil; go_simp
                  refine (c2.out _ D1.out).mono ?_
                  rintro e X2 ⟨rfl, b2⟩
                  have D2 := hid (low' D1.out b2)
                  have hS1 := hS.out _ D2.out
                  obtain ⟨ut, ct, ft⟩ := (hXl.out _ D2.out).cell k hkn'
                  clear hHeld b2
                  go_wp2
                  refine hK.out _ _ hS1 (fun hHeld => ?_)
                  clear hK K hS1
                  try go_frame
                  refine wpAnyH_take (i := 36) (v := ?v201) (by simp only [List.getElem?_toArray, List.getElem?_cons_succ, List.getElem?_cons_zero]; rfl) (by kernel_rfl) (by kernel_rfl) (by kernel_rfl) (by exact fun _ _ _ h => h) (Or.inl ⟨by kernel_rfl, ?hy201⟩) (by assumption) ?rest201; (case hy201 => (intro w hSw; (try dsimp only at hSw); go_simp) <;> with_reducible rfl); go_frame; refine wpAnyH_take (i := 37) (v := ?v202) (by simp only [List.getElem?_toArray, List.getElem?_cons_succ, List.getElem?_cons_zero]; rfl) (by kernel_rfl) (by kernel_rfl) (by kernel_rfl) (by exact fun _ _ _ h => h) (Or.inl ⟨by kernel_rfl, ?hy202⟩) (by assumption) ?rest202; (case hy202 => (intro w hSw; (try dsimp only at hSw); go_simp) <;> with_reducible rfl); go_frame
                  refine wpAnyH_ready (rs := [38]) (by kernel_rfl) (by simp) ?_; refine AllReadyH.cons rfl (fun K hK => ?_) AllReadyH.nil; go_simp
                  have hS2 := hS.out _ D2.out
                  refine hK.out _ _ ⟨(World.cell?_setCell_far _ _ _ _ hne2).trans hS2.1, (World.cell?_setCell_far _ _ _ _ hne2).trans hS2.2.1, (World.cell?_setCell_far _ _ _ _ hbT2).trans hS2.2.2.1, (World.cell?_setCell_far _ _ _ _ hbT2).trans hS2.2.2.2⟩ (fun hHeld => ?_)
                  clear hK K hS2 hHeld
                  try go_frame
                  refine wpAnyH_done (by kernel_rfl) ?_ _
                  all_goals
                    rw [hcat.out]
                    have hP := hid ((hXl.out _ D2.out).push k hlenT.out hkn' (nodeT ns (textsD ns k) x))
                    rw [← htx.out] at hP
                    have hBP := hid ((hlow.out _ D2.out).setCell (p := ⟨TB, k, none⟩) htb.out (.string ⟨(nodeT ns (textsD ns k) x).toArray⟩))
                    obtain ⟨P6, hP6⟩ : ∃ P6, X2.setCell ⟨TB, k, none⟩ (.string ⟨(nodeT ns (textsD ns k) x).toArray⟩) = P6 := ⟨_, rfl⟩
                    rw [hP6] at hP hBP ⊢
                    have cT := hP.out.get (k := k) (x := nodeT ns (textsD ns k) x) (by rw [htx.out, List.getElem?_append_right (by rw [hlenT.out]; omega), hlenT.out, Nat.sub_self]; rfl)
                    have hbad2 := hbad
                    have hgood2 := hgood
                    clear hP6 hbad hgood htx hE hcat hXl hlow hlowV
                    generalize nodeT ns (textsD ns k) x = E at *
                    by_cases hlong : 20000 < E.length
                    · have hd := hbad2.out hlong
                      subst hd
                      have q5 : decide ((20000 : Int) < (E.length : Int)) = true := decide_eq_true (by omega)
                      go_wp2
                      go_ret
                      exact ⟨rfl, hBP.out⟩
                    · have q5 : decide ((20000 : Int) < (E.length : Int)) = false := decide_eq_false (by omega)
                      have hg := hid (hgood2.out (by omega))
                      clear hbad2 hgood2
                      go_wp2
                      exact ⟨⟨k + 1, by simp, by omega, hBP, hP, hg⟩, by simp [intOf]; omega⟩
            · rw [hk1] at x0 hV1
              rw [hli, hri] at hV1
              simp at x0
              simp only [show ((2 : UInt8).toNat : Int) = 2 from rfl] at hV1
              obtain ⟨y0, y1, y2, y3, y4, y5, y6, y7⟩ := hcells.out V1 (Below.refl _ _)
              rw [hk1] at y0
              rw [hli] at y6
              rw [hri] at y7
              simp at y0
              clear y1 y2 y3 y4 y5
              have hrk : ri < k := by
                rcases r1' with e | e
                · exact absurd (hk1.symm.trans e) (by decide)
                · omega
              have hrI0 : (0 : Int) ≤ (ri : Int) := by omega
              have hrI1 : (ri : Int) < (ns.length : Int) := by omega
              obtain ⟨yr, hyr⟩ : ∃ y, ns[ri]? = some y := ⟨_, List.getElem?_eq_getElem (by omega)⟩
              have hkr : kindAt ns ri = yr.kind := by unfold kindAt; rw [hyr]
              have ny2 := hid (fun W' (hb : Below V1.heap.size V1 W') => hcsH.out W' (hlowV.out W' hb) ri yr hyr)
              have hTr := hid (hsh.out _ (List.mem_of_getElem? (txAt_get (tx := textsD ns k) (i := ri) (by rw [hlenT.out]; exact hrk))))
              have hS := hid (fun W' (hb : Below V1.heap.size V1 W') => show W'.cell? ⟨V.heap.size, 6, none⟩ = some (.int .i64 (li : Int)) ∧ W'.cell? ⟨V.heap.size, 7, none⟩ = some (.int .i64 (ri : Int)) ∧ W'.cell? ⟨b, off + li * 8, none⟩ = some (.int .u8 (yl.kind.toNat : Int)) ∧ W'.cell? ⟨b, off + ri * 8, none⟩ = some (.int .u8 (yr.kind.toNat : Int)) from by
                obtain ⟨-, -, -, -, -, -, e6, e7⟩ := hcells.out W' hb
                exact ⟨by rw [e6, hli], by rw [e7, hri], ny.out W' hb, ny2.out W' hb⟩)
              obtain ⟨-, -, nl0, nr0⟩ := hS.out V1 (Below.refl _ _)
              cases htr2 : ((yr.kind.toNat : Int) == 2)
              · as_aux_lemma =>
                have ptr2 : (yr.kind == 2) = false := (kind_eqD yr.kind 2).symm.trans htr2
                have hE : Hid (nodeT ns (textsD ns k) x = txAt (textsD ns k) li ++ (32 :: 111 :: 114 :: 32 :: sideT (txAt (textsD ns k) ri) false)) := by
                  show _ = _
                  rw [nodeT, if_neg hk0, if_neg (by rw [hk1]; decide), if_pos hk1, hli, hri, Int.toNat_natCast, Int.toNat_natCast, hkr]
                  simp [ptr2]
                have c2 := hid (fun W hb => cSd.out W hb ri hrk false)
                have lS2 := sideT_len (txAt (textsD ns k) ri) false
                have hTl' := hTl.out
                have hTr' := hTr.out
                have hTc := hid (fun W' (hb : Below V1.heap.size V1 W') => (hXl.out W' hb).get (txAt_get (tx := textsD ns k) (i := li) (by rw [hlenT.out]; exact hlk)))
                have t0 := hTc.out V1 (Below.refl _ _)
                have hcat := hid (or_cat (txAt (textsD ns k) li) (sideT (txAt (textsD ns k) ri) false))
                rw [← hE.out] at hcat
                generalize sideT (txAt (textsD ns k) ri) false = SR at *
                have k1 : (9223372036854775807 < (txAt (textsD ns k) li).length + 4) = False := eq_false (by omega)
                have k2 : (9223372036854775807 < (txAt (textsD ns k) li).length + 4 + SR.length) = False := eq_false (by omega)
                have hlI2 : li < ns.length := by omega
                have hlk2 : ¬ li = k := by omega
                have hlk3 : ¬ k = li := by omega
                have hset := fun (W : World) (v : Value) => set_off W TB k li v hlk2
                clear hcells cSd ny hTl
                clear hmsH
                go_wp2_with fail
                go_region_held3 (fun w' => w'.cell? ⟨V.heap.size, 6, none⟩ = some (.int .i64 (li : Int)) ∧ w'.cell? ⟨V.heap.size, 7, none⟩ = some (.int .i64 (ri : Int)) ∧ w'.cell? ⟨TB, li, none⟩ = some (.string ⟨(txAt (textsD ns k) li).toArray⟩) ∧ w'.cell? ⟨b, off + ri * 8, none⟩ = some (.int .u8 (yr.kind.toNat : Int))) (go_keep) (first
                  | (go_at_call 32; refine (c2.out _ d0.out).mono ?_; rintro e X1 ⟨rfl, b1⟩; have D1 := hid (low' d0.out b1); obtain ⟨z1, z2, z3, z4⟩ := hS.out _ D1.out; have z5 := hTc.out _ D1.out; obtain ⟨ut, ct, ft⟩ := (hXl.out _ D1.out).cell k hkn'; clear b1))
                all_goals
                  rw [hcat.out]
                  have hP := hid ((hXl.out _ D1.out).push k hlenT.out hkn' (nodeT ns (textsD ns k) x))
                  rw [← htx.out] at hP
                  have hBP := hid ((hlow.out _ D1.out).setCell (p := ⟨TB, k, none⟩) htb.out (.string ⟨(nodeT ns (textsD ns k) x).toArray⟩))
                  obtain ⟨P6, hP6⟩ : ∃ P6, X1.setCell ⟨TB, k, none⟩ (.string ⟨(nodeT ns (textsD ns k) x).toArray⟩) = P6 := ⟨_, rfl⟩
                  rw [hP6] at hP hBP ⊢
                  have cT := hP.out.get (k := k) (x := nodeT ns (textsD ns k) x) (by rw [htx.out, List.getElem?_append_right (by rw [hlenT.out]; omega), hlenT.out, Nat.sub_self]; rfl)
                  have hbad2 := hbad
                  have hgood2 := hgood
                  clear hP6 hbad hgood htx hE hcat hXl hlow hlowV
                  generalize nodeT ns (textsD ns k) x = E at *
                  by_cases hlong : 20000 < E.length
                  · have hd := hbad2.out hlong
                    subst hd
                    have q5 : decide ((20000 : Int) < (E.length : Int)) = true := decide_eq_true (by omega)
                    go_wp2
                    go_ret
                    exact ⟨rfl, hBP.out⟩
                  · have q5 : decide ((20000 : Int) < (E.length : Int)) = false := decide_eq_false (by omega)
                    have hg := hid (hgood2.out (by omega))
                    clear hbad2 hgood2
                    go_wp2
                    exact ⟨⟨k + 1, by simp, by omega, hBP, hP, hg⟩, by simp [intOf]; omega⟩
              · as_aux_lemma =>
                have ptr2 : (yr.kind == 2) = true := (kind_eqD yr.kind 2).symm.trans htr2
                have hE : Hid (nodeT ns (textsD ns k) x = txAt (textsD ns k) li ++ (32 :: 111 :: 114 :: 32 :: sideT (txAt (textsD ns k) ri) true)) := by
                  show _ = _
                  rw [nodeT, if_neg hk0, if_neg (by rw [hk1]; decide), if_pos hk1, hli, hri, Int.toNat_natCast, Int.toNat_natCast, hkr]
                  simp [ptr2]
                have c2 := hid (fun W hb => cSd.out W hb ri hrk true)
                have lS2 := sideT_len (txAt (textsD ns k) ri) true
                have hTl' := hTl.out
                have hTr' := hTr.out
                have hTc := hid (fun W' (hb : Below V1.heap.size V1 W') => (hXl.out W' hb).get (txAt_get (tx := textsD ns k) (i := li) (by rw [hlenT.out]; exact hlk)))
                have t0 := hTc.out V1 (Below.refl _ _)
                have hcat := hid (or_cat (txAt (textsD ns k) li) (sideT (txAt (textsD ns k) ri) true))
                rw [← hE.out] at hcat
                generalize sideT (txAt (textsD ns k) ri) true = SR at *
                have k1 : (9223372036854775807 < (txAt (textsD ns k) li).length + 4) = False := eq_false (by omega)
                have k2 : (9223372036854775807 < (txAt (textsD ns k) li).length + 4 + SR.length) = False := eq_false (by omega)
                have hlI2 : li < ns.length := by omega
                have hlk2 : ¬ li = k := by omega
                have hlk3 : ¬ k = li := by omega
                have hset := fun (W : World) (v : Value) => set_off W TB k li v hlk2
                clear hcells cSd ny hTl
                clear hmsH
                go_wp2_with fail
                go_region_held3 (fun w' => w'.cell? ⟨V.heap.size, 6, none⟩ = some (.int .i64 (li : Int)) ∧ w'.cell? ⟨V.heap.size, 7, none⟩ = some (.int .i64 (ri : Int)) ∧ w'.cell? ⟨TB, li, none⟩ = some (.string ⟨(txAt (textsD ns k) li).toArray⟩) ∧ w'.cell? ⟨b, off + ri * 8, none⟩ = some (.int .u8 (yr.kind.toNat : Int))) (go_keep) (first
                  | (go_at_call 32; refine (c2.out _ d0.out).mono ?_; rintro e X1 ⟨rfl, b1⟩; have D1 := hid (low' d0.out b1); obtain ⟨z1, z2, z3, z4⟩ := hS.out _ D1.out; have z5 := hTc.out _ D1.out; obtain ⟨ut, ct, ft⟩ := (hXl.out _ D1.out).cell k hkn'; clear b1))
                all_goals
                  rw [hcat.out]
                  have hP := hid ((hXl.out _ D1.out).push k hlenT.out hkn' (nodeT ns (textsD ns k) x))
                  rw [← htx.out] at hP
                  have hBP := hid ((hlow.out _ D1.out).setCell (p := ⟨TB, k, none⟩) htb.out (.string ⟨(nodeT ns (textsD ns k) x).toArray⟩))
                  obtain ⟨P6, hP6⟩ : ∃ P6, X1.setCell ⟨TB, k, none⟩ (.string ⟨(nodeT ns (textsD ns k) x).toArray⟩) = P6 := ⟨_, rfl⟩
                  rw [hP6] at hP hBP ⊢
                  have cT := hP.out.get (k := k) (x := nodeT ns (textsD ns k) x) (by rw [htx.out, List.getElem?_append_right (by rw [hlenT.out]; omega), hlenT.out, Nat.sub_self]; rfl)
                  have hbad2 := hbad
                  have hgood2 := hgood
                  clear hP6 hbad hgood htx hE hcat hXl hlow hlowV
                  generalize nodeT ns (textsD ns k) x = E at *
                  by_cases hlong : 20000 < E.length
                  · have hd := hbad2.out hlong
                    subst hd
                    have q5 : decide ((20000 : Int) < (E.length : Int)) = true := decide_eq_true (by omega)
                    go_wp2
                    go_ret
                    exact ⟨rfl, hBP.out⟩
                  · have q5 : decide ((20000 : Int) < (E.length : Int)) = false := decide_eq_false (by omega)
                    have hg := hid (hgood2.out (by omega))
                    clear hbad2 hgood2
                    go_wp2
                    exact ⟨⟨k + 1, by simp, by omega, hBP, hP, hg⟩, by simp [intOf]; omega⟩
            · rw [hk1] at x0 hV1
              rw [hli, hri] at hV1
              simp at x0
              simp only [show ((3 : UInt8).toNat : Int) = 3 from rfl] at hV1
              obtain ⟨y0, y1, y2, y3, y4, y5, y6, y7⟩ := hcells.out V1 (Below.refl _ _)
              rw [hk1] at y0
              rw [hli] at y6
              rw [hri] at y7
              simp at y0
              clear y1 y2 y3 y4 y5
              have hS := hid (fun W' (hb : Below V1.heap.size V1 W') => show W'.cell? ⟨V.heap.size, 6, none⟩ = some (.int .i64 (li : Int)) ∧ W'.cell? ⟨b, off + li * 8, none⟩ = some (.int .u8 (yl.kind.toNat : Int)) from by
                obtain ⟨-, -, -, -, -, -, e6, e7⟩ := hcells.out W' hb
                exact ⟨by rw [e6, hli], ny.out W' hb⟩)
              obtain ⟨-, nl0⟩ := hS.out V1 (Below.refl _ _)
              cases htl1 : ((yl.kind.toNat : Int) == 1)
              · cases htl2 : ((yl.kind.toNat : Int) == 2)
                · as_aux_lemma =>
                  have ptl1 : (yl.kind == 1) = false := (kind_eqD yl.kind 1).symm.trans htl1
                  have ptl2 : (yl.kind == 2) = false := (kind_eqD yl.kind 2).symm.trans htl2
                  have hE : Hid (nodeT ns (textsD ns k) x = 110 :: 111 :: 116 :: 32 :: sideT (txAt (textsD ns k) li) false) := by
                    show _ = _
                    rw [nodeT, if_neg hk0, if_neg (by rw [hk1]; decide), if_neg (by rw [hk1]; decide), hli, Int.toNat_natCast, hkl]
                    simp [ptl1, ptl2]
                  have c1 := hid (fun W hb => cSd.out W hb li hlk false)
                  have lS1 := sideT_len (txAt (textsD ns k) li) false
                  have hTl' := hTl.out
                  have hcat := hid (not_cat (sideT (txAt (textsD ns k) li) false))
                  rw [← hE.out] at hcat
                  generalize sideT (txAt (textsD ns k) li) false = SL at *
                  have k1 : (9223372036854775807 < 4 + SL.length) = False := eq_false (by omega)
                  clear hcells cSd ny hTl
                  clear hmsH
                  go_wp2_with fail
                  go_region_held3 (fun w' => w'.cell? ⟨V.heap.size, 6, none⟩ = some (.int .i64 (li : Int)) ∧ w'.cell? ⟨b, off + li * 8, none⟩ = some (.int .u8 (yl.kind.toNat : Int))) (go_keep) (first
                    | (go_at_call 32; refine (c1.out _ d0.out).mono ?_; rintro e X1 ⟨rfl, b1⟩; have D1 := hid (low' d0.out b1); obtain ⟨z1, z2⟩ := hS.out _ D1.out; obtain ⟨ut, ct, ft⟩ := (hXl.out _ D1.out).cell k hkn'; clear b1))
                  all_goals
                    rw [hcat.out]
                    have hP := hid ((hXl.out _ D1.out).push k hlenT.out hkn' (nodeT ns (textsD ns k) x))
                    rw [← htx.out] at hP
                    have hBP := hid ((hlow.out _ D1.out).setCell (p := ⟨TB, k, none⟩) htb.out (.string ⟨(nodeT ns (textsD ns k) x).toArray⟩))
                    obtain ⟨P6, hP6⟩ : ∃ P6, X1.setCell ⟨TB, k, none⟩ (.string ⟨(nodeT ns (textsD ns k) x).toArray⟩) = P6 := ⟨_, rfl⟩
                    rw [hP6] at hP hBP ⊢
                    have cT := hP.out.get (k := k) (x := nodeT ns (textsD ns k) x) (by rw [htx.out, List.getElem?_append_right (by rw [hlenT.out]; omega), hlenT.out, Nat.sub_self]; rfl)
                    have hbad2 := hbad
                    have hgood2 := hgood
                    clear hP6 hbad hgood htx hE hcat hXl hlow hlowV
                    generalize nodeT ns (textsD ns k) x = E at *
                    by_cases hlong : 20000 < E.length
                    · have hd := hbad2.out hlong
                      subst hd
                      have q5 : decide ((20000 : Int) < (E.length : Int)) = true := decide_eq_true (by omega)
                      go_wp2
                      go_ret
                      exact ⟨rfl, hBP.out⟩
                    · have q5 : decide ((20000 : Int) < (E.length : Int)) = false := decide_eq_false (by omega)
                      have hg := hid (hgood2.out (by omega))
                      clear hbad2 hgood2
                      go_wp2
                      exact ⟨⟨k + 1, by simp, by omega, hBP, hP, hg⟩, by simp [intOf]; omega⟩
                · as_aux_lemma =>
                  have ptl1 : (yl.kind == 1) = false := (kind_eqD yl.kind 1).symm.trans htl1
                  have ptl2 : (yl.kind == 2) = true := (kind_eqD yl.kind 2).symm.trans htl2
                  have hE : Hid (nodeT ns (textsD ns k) x = 110 :: 111 :: 116 :: 32 :: sideT (txAt (textsD ns k) li) true) := by
                    show _ = _
                    rw [nodeT, if_neg hk0, if_neg (by rw [hk1]; decide), if_neg (by rw [hk1]; decide), hli, Int.toNat_natCast, hkl]
                    simp [ptl1, ptl2]
                  have c1 := hid (fun W hb => cSd.out W hb li hlk true)
                  have lS1 := sideT_len (txAt (textsD ns k) li) true
                  have hTl' := hTl.out
                  have hcat := hid (not_cat (sideT (txAt (textsD ns k) li) true))
                  rw [← hE.out] at hcat
                  generalize sideT (txAt (textsD ns k) li) true = SL at *
                  have k1 : (9223372036854775807 < 4 + SL.length) = False := eq_false (by omega)
                  clear hcells cSd ny hTl
                  clear hmsH
                  go_wp2_with fail
                  go_region_held3 (fun w' => w'.cell? ⟨V.heap.size, 6, none⟩ = some (.int .i64 (li : Int)) ∧ w'.cell? ⟨b, off + li * 8, none⟩ = some (.int .u8 (yl.kind.toNat : Int))) (go_keep) (first
                    | (go_at_call 32; refine (c1.out _ d0.out).mono ?_; rintro e X1 ⟨rfl, b1⟩; have D1 := hid (low' d0.out b1); obtain ⟨z1, z2⟩ := hS.out _ D1.out; obtain ⟨ut, ct, ft⟩ := (hXl.out _ D1.out).cell k hkn'; clear b1))
                  all_goals
                    rw [hcat.out]
                    have hP := hid ((hXl.out _ D1.out).push k hlenT.out hkn' (nodeT ns (textsD ns k) x))
                    rw [← htx.out] at hP
                    have hBP := hid ((hlow.out _ D1.out).setCell (p := ⟨TB, k, none⟩) htb.out (.string ⟨(nodeT ns (textsD ns k) x).toArray⟩))
                    obtain ⟨P6, hP6⟩ : ∃ P6, X1.setCell ⟨TB, k, none⟩ (.string ⟨(nodeT ns (textsD ns k) x).toArray⟩) = P6 := ⟨_, rfl⟩
                    rw [hP6] at hP hBP ⊢
                    have cT := hP.out.get (k := k) (x := nodeT ns (textsD ns k) x) (by rw [htx.out, List.getElem?_append_right (by rw [hlenT.out]; omega), hlenT.out, Nat.sub_self]; rfl)
                    have hbad2 := hbad
                    have hgood2 := hgood
                    clear hP6 hbad hgood htx hE hcat hXl hlow hlowV
                    generalize nodeT ns (textsD ns k) x = E at *
                    by_cases hlong : 20000 < E.length
                    · have hd := hbad2.out hlong
                      subst hd
                      have q5 : decide ((20000 : Int) < (E.length : Int)) = true := decide_eq_true (by omega)
                      go_wp2
                      go_ret
                      exact ⟨rfl, hBP.out⟩
                    · have q5 : decide ((20000 : Int) < (E.length : Int)) = false := decide_eq_false (by omega)
                      have hg := hid (hgood2.out (by omega))
                      clear hbad2 hgood2
                      go_wp2
                      exact ⟨⟨k + 1, by simp, by omega, hBP, hP, hg⟩, by simp [intOf]; omega⟩
              · as_aux_lemma =>
                have ptl1 : (yl.kind == 1) = true := (kind_eqD yl.kind 1).symm.trans htl1
                have hE : Hid (nodeT ns (textsD ns k) x = 110 :: 111 :: 116 :: 32 :: sideT (txAt (textsD ns k) li) true) := by
                  show _ = _
                  rw [nodeT, if_neg hk0, if_neg (by rw [hk1]; decide), if_neg (by rw [hk1]; decide), hli, Int.toNat_natCast, hkl]
                  simp [ptl1]
                have c1 := hid (fun W hb => cSd.out W hb li hlk true)
                have lS1 := sideT_len (txAt (textsD ns k) li) true
                have hTl' := hTl.out
                have hcat := hid (not_cat (sideT (txAt (textsD ns k) li) true))
                rw [← hE.out] at hcat
                generalize sideT (txAt (textsD ns k) li) true = SL at *
                have k1 : (9223372036854775807 < 4 + SL.length) = False := eq_false (by omega)
                clear hcells cSd ny hTl
                clear hmsH
                go_wp2_with fail
                refine wp_region_held_drew (S := fun w' : World => w'.cell? ⟨V.heap.size, 6, none⟩ = some (.int .i64 (li : Int)) ∧ w'.cell? ⟨b, off + li * 8, none⟩ = some (.int .u8 (yl.kind.toNat : Int))) (by kernel_rfl) (hS.out _ d0.out) (fun hHeld => ?_)
                refine wpAnyH_take (i := 0) (v := ?v203) (by simp only [List.getElem?_toArray, List.getElem?_cons_zero]; rfl) (by kernel_rfl) (by kernel_rfl) (by kernel_rfl) (by exact fun _ _ _ h => h) (Or.inl ⟨by kernel_rfl, ?hy203⟩) (by assumption) ?rest203; (case hy203 => (intro w hSw; (try dsimp only at hSw); go_simp) <;> with_reducible rfl); go_frame; refine wpAnyH_take (i := 1) (v := ?v204) (by simp only [List.getElem?_toArray, List.getElem?_cons_succ, List.getElem?_cons_zero]; rfl) (by kernel_rfl) (by kernel_rfl) (by kernel_rfl) (by exact fun _ _ _ h => h) (Or.inl ⟨by kernel_rfl, ?hy204⟩) (by assumption) ?rest204; (case hy204 => (intro w hSw; (try dsimp only at hSw); go_simp) <;> with_reducible rfl); go_frame; refine wpAnyH_take (i := 2) (v := ?v205) (by simp only [List.getElem?_toArray, List.getElem?_cons_succ, List.getElem?_cons_zero]; rfl) (by kernel_rfl) (by kernel_rfl) (by kernel_rfl) (by exact fun _ _ _ h => h) (Or.inl ⟨by kernel_rfl, ?hy205⟩) (by assumption) ?rest205; (case hy205 => (intro w hSw; (try dsimp only at hSw); go_simp) <;> with_reducible rfl); go_frame; refine wpAnyH_take (i := 3) (v := ?v206) (by simp only [List.getElem?_toArray, List.getElem?_cons_succ, List.getElem?_cons_zero]; rfl) (by kernel_rfl) (by kernel_rfl) (by kernel_rfl) (by exact fun _ _ _ h => h) (Or.inl ⟨by kernel_rfl, ?hy206⟩) (by assumption) ?rest206; (case hy206 => (intro w hSw; (try dsimp only at hSw); go_simp) <;> with_reducible rfl); go_frame; refine wpAnyH_take (i := 4) (v := ?v207) (by simp only [List.getElem?_toArray, List.getElem?_cons_succ, List.getElem?_cons_zero]; rfl) (by kernel_rfl) (by kernel_rfl) (by kernel_rfl) (by exact fun _ _ _ h => h) (Or.inl ⟨by kernel_rfl, ?hy207⟩) (by assumption) ?rest207; (case hy207 => (intro w hSw; (try dsimp only at hSw); go_simp) <;> with_reducible rfl); go_frame; refine wpAnyH_take (i := 5) (v := ?v208) (by simp only [List.getElem?_toArray, List.getElem?_cons_succ, List.getElem?_cons_zero]; rfl) (by kernel_rfl) (by kernel_rfl) (by kernel_rfl) (by exact fun _ _ _ h => h) (Or.inl ⟨by kernel_rfl, ?hy208⟩) (by assumption) ?rest208; (case hy208 => (intro w hSw; (try dsimp only at hSw); go_simp) <;> with_reducible rfl); go_frame; refine wpAnyH_take (i := 6) (v := ?v209) (by simp only [List.getElem?_toArray, List.getElem?_cons_succ, List.getElem?_cons_zero]; rfl) (by kernel_rfl) (by kernel_rfl) (by kernel_rfl) (by exact fun _ _ _ h => h) (Or.inl ⟨by kernel_rfl, ?hy209⟩) (by assumption) ?rest209; (case hy209 => (intro w hSw; (try dsimp only at hSw); go_simp) <;> with_reducible rfl); go_frame; refine wpAnyH_take (i := 7) (v := ?v210) (by simp only [List.getElem?_toArray, List.getElem?_cons_succ, List.getElem?_cons_zero]; rfl) (by kernel_rfl) (by kernel_rfl) (by kernel_rfl) (by exact fun _ _ _ h => h) (Or.inl ⟨by kernel_rfl, ?hy210⟩) (by assumption) ?rest210; (case hy210 => (intro w hSw; (try dsimp only at hSw); go_simp) <;> with_reducible rfl); go_frame; refine wpAnyH_take (i := 8) (v := ?v211) (by simp only [List.getElem?_toArray, List.getElem?_cons_succ, List.getElem?_cons_zero]; rfl) (by kernel_rfl) (by kernel_rfl) (by kernel_rfl) (by exact fun _ _ _ h => h) (Or.inl ⟨by kernel_rfl, ?hy211⟩) (by assumption) ?rest211; (case hy211 => (intro w hSw; (try dsimp only at hSw); go_simp) <;> with_reducible rfl); go_frame; refine wpAnyH_take (i := 9) (v := ?v212) (by simp only [List.getElem?_toArray, List.getElem?_cons_succ, List.getElem?_cons_zero]; rfl) (by kernel_rfl) (by kernel_rfl) (by kernel_rfl) (by exact fun _ _ _ h => h) (Or.inl ⟨by kernel_rfl, ?hy212⟩) (by assumption) ?rest212; (case hy212 => (intro w hSw; (try dsimp only at hSw); go_simp) <;> with_reducible rfl); go_frame; refine wpAnyH_take (i := 10) (v := ?v213) (by simp only [List.getElem?_toArray, List.getElem?_cons_succ, List.getElem?_cons_zero]; rfl) (by kernel_rfl) (by kernel_rfl) (by kernel_rfl) (by exact fun _ _ _ h => h) (Or.inl ⟨by kernel_rfl, ?hy213⟩) (by assumption) ?rest213; (case hy213 => (intro w hSw; (try dsimp only at hSw); go_simp) <;> with_reducible rfl); go_frame; refine wpAnyH_take (i := 11) (v := ?v214) (by simp only [List.getElem?_toArray, List.getElem?_cons_succ, List.getElem?_cons_zero]; rfl) (by kernel_rfl) (by kernel_rfl) (by kernel_rfl) (by exact fun _ _ _ h => h) (Or.inl ⟨by kernel_rfl, ?hy214⟩) (by assumption) ?rest214; (case hy214 => (intro w hSw; (try dsimp only at hSw); go_simp) <;> with_reducible rfl); go_frame; refine wpAnyH_take (i := 12) (v := ?v215) (by simp only [List.getElem?_toArray, List.getElem?_cons_succ, List.getElem?_cons_zero]; rfl) (by kernel_rfl) (by kernel_rfl) (by kernel_rfl) (by exact fun _ _ _ h => h) (Or.inl ⟨by kernel_rfl, ?hy215⟩) (by assumption) ?rest215; (case hy215 => (intro w hSw; (try dsimp only at hSw); go_simp) <;> with_reducible rfl); go_frame; refine wpAnyH_take (i := 13) (v := ?v216) (by simp only [List.getElem?_toArray, List.getElem?_cons_succ, List.getElem?_cons_zero]; rfl) (by kernel_rfl) (by kernel_rfl) (by kernel_rfl) (by exact fun _ _ _ h => h) (Or.inl ⟨by kernel_rfl, ?hy216⟩) (by assumption) ?rest216; (case hy216 => (intro w hSw; (try dsimp only at hSw); go_simp) <;> with_reducible rfl); go_frame
                refine wpAnyH_take (i := 14) (v := undef) (by simp only [List.getElem?_toArray, List.getElem?_cons_succ, List.getElem?_cons_zero]; rfl) (by kernel_rfl) (by kernel_rfl) (by kernel_rfl) (by exact fun _ _ _ h => h) (Or.inr ⟨by kernel_rfl, rfl⟩) (by assumption) ?_; go_frame; refine wpAnyH_take (i := 15) (v := undef) (by simp only [List.getElem?_toArray, List.getElem?_cons_succ, List.getElem?_cons_zero]; rfl) (by kernel_rfl) (by kernel_rfl) (by kernel_rfl) (by exact fun _ _ _ h => h) (Or.inr ⟨by kernel_rfl, rfl⟩) (by assumption) ?_; go_frame; refine wpAnyH_take (i := 16) (v := undef) (by simp only [List.getElem?_toArray, List.getElem?_cons_succ, List.getElem?_cons_zero]; rfl) (by kernel_rfl) (by kernel_rfl) (by kernel_rfl) (by exact fun _ _ _ h => h) (Or.inr ⟨by kernel_rfl, rfl⟩) (by assumption) ?_; go_frame; refine wpAnyH_take (i := 17) (v := undef) (by simp only [List.getElem?_toArray, List.getElem?_cons_succ, List.getElem?_cons_zero]; rfl) (by kernel_rfl) (by kernel_rfl) (by kernel_rfl) (by exact fun _ _ _ h => h) (Or.inr ⟨by kernel_rfl, rfl⟩) (by assumption) ?_; go_frame; refine wpAnyH_take (i := 18) (v := undef) (by simp only [List.getElem?_toArray, List.getElem?_cons_succ, List.getElem?_cons_zero]; rfl) (by kernel_rfl) (by kernel_rfl) (by kernel_rfl) (by exact fun _ _ _ h => h) (Or.inr ⟨by kernel_rfl, rfl⟩) (by assumption) ?_; go_frame; refine wpAnyH_take (i := 19) (v := undef) (by simp only [List.getElem?_toArray, List.getElem?_cons_succ, List.getElem?_cons_zero]; rfl) (by kernel_rfl) (by kernel_rfl) (by kernel_rfl) (by exact fun _ _ _ h => h) (Or.inr ⟨by kernel_rfl, rfl⟩) (by assumption) ?_; go_frame; refine wpAnyH_take (i := 20) (v := undef) (by simp only [List.getElem?_toArray, List.getElem?_cons_succ, List.getElem?_cons_zero]; rfl) (by kernel_rfl) (by kernel_rfl) (by kernel_rfl) (by exact fun _ _ _ h => h) (Or.inr ⟨by kernel_rfl, rfl⟩) (by assumption) ?_; go_frame
                refine wpAnyH_take (i := 21) (v := ?v217) (by simp only [List.getElem?_toArray, List.getElem?_cons_succ, List.getElem?_cons_zero]; rfl) (by kernel_rfl) (by kernel_rfl) (by kernel_rfl) (by exact fun _ _ _ h => h) (Or.inl ⟨by kernel_rfl, ?hy217⟩) (by assumption) ?rest217; (case hy217 => (intro w hSw; (try dsimp only at hSw); go_simp) <;> with_reducible rfl); go_frame
                refine wpAnyH_ready (rs := [22]) (by kernel_rfl) (by simp) ?_; refine AllReadyH.cons rfl (fun K hK => ?_) AllReadyH.nil; go_simp
                refine (c1.out _ d0.out).mono ?_
                rintro e X1 ⟨rfl, b1⟩
                have D1 := hid (low' d0.out b1)
                have hS1 := hS.out _ D1.out
                obtain ⟨ut, ct, ft⟩ := (hXl.out _ D1.out).cell k hkn'
                clear hHeld b1
                go_wp2
                refine hK.out _ _ hS1 (fun hHeld => ?_)
                clear hK K hS1
                try go_frame
                refine wpAnyH_take (i := 23) (v := ?v218) (by simp only [List.getElem?_toArray, List.getElem?_cons_succ, List.getElem?_cons_zero]; rfl) (by kernel_rfl) (by kernel_rfl) (by kernel_rfl) (by exact fun _ _ _ h => h) (Or.inl ⟨by kernel_rfl, ?hy218⟩) (by assumption) ?rest218; (case hy218 => (intro w hSw; (try dsimp only at hSw); go_simp) <;> with_reducible rfl); go_frame; refine wpAnyH_take (i := 24) (v := ?v219) (by simp only [List.getElem?_toArray, List.getElem?_cons_succ, List.getElem?_cons_zero]; rfl) (by kernel_rfl) (by kernel_rfl) (by kernel_rfl) (by exact fun _ _ _ h => h) (Or.inl ⟨by kernel_rfl, ?hy219⟩) (by assumption) ?rest219; (case hy219 => (intro w hSw; (try dsimp only at hSw); go_simp) <;> with_reducible rfl); go_frame
                refine wpAnyH_ready (rs := [25]) (by kernel_rfl) (by simp) ?_; refine AllReadyH.cons rfl (fun K hK => ?_) AllReadyH.nil; go_simp
                have hS2 := hS.out _ D1.out
                refine hK.out _ _ ⟨(World.cell?_setCell_far _ _ _ _ hne2).trans hS2.1, (World.cell?_setCell_far _ _ _ _ hbT2).trans hS2.2⟩ (fun hHeld => ?_)
                clear hK K hS2 hHeld
                try go_frame
                refine wpAnyH_done (by kernel_rfl) ?_ _
                all_goals
                  rw [hcat.out]
                  have hP := hid ((hXl.out _ D1.out).push k hlenT.out hkn' (nodeT ns (textsD ns k) x))
                  rw [← htx.out] at hP
                  have hBP := hid ((hlow.out _ D1.out).setCell (p := ⟨TB, k, none⟩) htb.out (.string ⟨(nodeT ns (textsD ns k) x).toArray⟩))
                  obtain ⟨P6, hP6⟩ : ∃ P6, X1.setCell ⟨TB, k, none⟩ (.string ⟨(nodeT ns (textsD ns k) x).toArray⟩) = P6 := ⟨_, rfl⟩
                  rw [hP6] at hP hBP ⊢
                  have cT := hP.out.get (k := k) (x := nodeT ns (textsD ns k) x) (by rw [htx.out, List.getElem?_append_right (by rw [hlenT.out]; omega), hlenT.out, Nat.sub_self]; rfl)
                  have hbad2 := hbad
                  have hgood2 := hgood
                  clear hP6 hbad hgood htx hE hcat hXl hlow hlowV
                  generalize nodeT ns (textsD ns k) x = E at *
                  by_cases hlong : 20000 < E.length
                  · have hd := hbad2.out hlong
                    subst hd
                    have q5 : decide ((20000 : Int) < (E.length : Int)) = true := decide_eq_true (by omega)
                    go_wp2
                    go_ret
                    exact ⟨rfl, hBP.out⟩
                  · have q5 : decide ((20000 : Int) < (E.length : Int)) = false := decide_eq_false (by omega)
                    have hg := hid (hgood2.out (by omega))
                    clear hbad2 hgood2
                    go_wp2
                    exact ⟨⟨k + 1, by simp, by omega, hBP, hP, hg⟩, by simp [intOf]; omega⟩
        · as_aux_lemma =>
          skip
          obtain rfl : k = ns.length := by omega
          obtain ⟨m, hm⟩ : ∃ m, m = ns.length - 1 := ⟨_, rfl⟩
          have hTn := txAt_get (tx := textsD ns ns.length) (i := m) (by rw [textsD_len]; omega)
          have cL := hX.out.get hTn
          have hSl := hsh.out _ (List.mem_of_getElem? hTn)
          have wl : IntKind.i64.wrap ((ns.length : Int) - 1) = (m : Int) := by rw [IntKind.wrap_i64]; omega
          have m0 : (0 : Int) ≤ (m : Int) := by omega
          have m1 : (m : Int) < (ns.length : Int) := by omega
          obtain ⟨S, hS⟩ : ∃ S, S = txAt (textsD ns ns.length) m := ⟨_, rfl⟩
          rw [← hS] at cL hSl
          rw [hm] at hS
          have z1 := hid (fun h => hno.out (end_none hS h))
          have z2 := hid (fun ts h hp => hno.out (end_fail (ts := ts) hS h hp))
          have z3 := hid (fun ts u j h hp hj => hno.out (end_short (ts := ts) (u := u) (j := j) hS h hp hj))
          have z4 := hid (fun ts u j h hp hne => hno.out (end_other (ts := ts) (u := u) (j := j) hS h hp hne))
          have z5 := hid (fun ts u r hp he => hdp.out.trans (end_same (ts := ts) (u := u) (r := r) hS l31 hp he))
          have cT := hid (fun W => allTok_any S (by omega) W)
          have cN := hid (fun W => cond_any (isTsD_nil W) (by simp) (by intro t ht; cases ht) 0 0 (by simp) (by simp))
          clear hTn hX hsh hS hm hOK hs hw hlg hfl
          unfold str at cT
          go_wp2_with fail
          refine (cT.out _).mono ?_
          rintro e X1 ⟨b1, ⟨ha, kk, hk0, rfl⟩ | ⟨ts, ha, htl, ta, tc, rfl, ho⟩⟩
          · have hB1 := hid (low' hB.out b1)
            have hd := z1.out ha
            subst hd
            have qk : (kk != 0) = true := by simp [hk0]
            clear b1 ha z1 z2 z3 z4 z5 cT hno hdp
            go_wp2_with fail
            refine (cN.out _).mono ?_
            intro e X2 hr
            obtain ⟨na, n, nc, nx, ms, rfl, -, -, -, b2, -⟩ := rowD_out hr
            have hB2 := hid (low' hB1.out b2)
            clear hr b2 hk0 cN
            go_wp2
            go_ret
            exact ⟨rfl, hB2.out⟩
          · have hB1 := hid (low' hB.out b1)
            have hsmall := atF_small _ _ _ ha
            have cC := hid (cond_any ho.isD (by omega) hsmall 0 0 (by omega) (by omega))
            have hN1 := hid (hN.out.below hB1.out)
            replace ha := hid ha
            clear b1 ho hsmall cT cN
            go_wp2_with fail
            refine cC.out.mono ?_
            rintro e X2 ⟨b2, ⟨g1, vn, ms, rfl, g2, g3⟩ | ⟨u, j, vn, g1, g2, g3, g4, rfl, g5⟩⟩
            · have hB2 := hid (low' hB1.out b2)
              obtain ⟨ma, mc, rfl⟩ := g2.slice
              have hd := z2.out ts ha.out g1
              subst hd
              have q6 : ((-1 : Int) != (ts.length : Int)) = true := by rw [bne_iff_ne]; omega
              clear b2 g1 g2 g3 z1 z2 z3 z4 z5 hno hdp cC
              go_wp2
              go_ret
              exact ⟨rfl, hB2.out⟩
            · have hB2 := hid (low' hB1.out b2)
              obtain ⟨ma, mc, rfl⟩ := g5.slice
              by_cases hjl : j = ts.length
              · have q6 : ((j : Int) != (ts.length : Int)) = false := by simp [hjl]
                have cS := hid (rsame_any g5.isN (hN1.out.below b2))
                replace hjl := hid hjl
                cases hsame : sameN (flat 0 u) ns
                · have hd := z4.out ts u j ha.out g1 (fun e => by rw [e, sameN_refl] at hsame; cases hsame)
                  subst hd
                  rw [hsame] at cS
                  clear b2 g1 g2 g3 g4 g5 z1 z2 z3 z4 z5 hno hdp cC hsame
                  go_wp2_with fail
                  refine cS.out.mono ?_
                  rintro e X3 ⟨rfl, b3⟩
                  have hB3 := hid (low' hB2.out b3)
                  clear cS b3
                  go_wp2
                  go_ret
                  exact ⟨rfl, hB3.out⟩
                · have hd := hid (z5.out ts u _ g1 (sameN_iff.1 hsame))
                  rw [hsame] at cS
                  clear b2 g1 g2 g3 g4 g5 z1 z2 z3 z4 z5 hno hdp cC hsame
                  go_wp2_with fail
                  refine cS.out.mono ?_
                  rintro e X3 ⟨rfl, b3⟩
                  have hB3 := hid (low' hB2.out b3)
                  clear cS b3
                  go_wp2
                  go_ret
                  exact ⟨by rw [hd.out]; rfl, hB3.out⟩
              · have q6 : ((j : Int) != (ts.length : Int)) = true := by rw [bne_iff_ne]; omega
                have hd := z3.out ts u j ha.out g1 (by omega)
                subst hd
                clear b2 g1 g2 g4 g5 z1 z2 z3 z4 z5 hno hdp cC hjl
                go_wp2
                go_ret
                exact ⟨rfl, hB2.out⟩
end Go.Proofs.YtjhodmpgggaknaaGreatDoor
