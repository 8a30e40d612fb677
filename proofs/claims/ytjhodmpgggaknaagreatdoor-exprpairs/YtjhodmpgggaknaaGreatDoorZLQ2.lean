/- The walk of ExprPairs where both have room. -/
import Derived.Test.YtjhodmpgggaknaaGreatDoorZLQ1
import Derived.Deep.RegionHeld3
namespace Go.Proofs.YtjhodmpgggaknaaGreatDoor
open Go.ChangeShapes Go.WideShapes Go.ChangeAt Go.RowKit Go.Shelf Go.Maps
namespace Pairs

set_option maxRecDepth 100000 in
set_option maxHeartbeats 4000000 in
theorem walk_andG (s t : Tx) (w : World) (hE : Env w) (hs : s.length ≤ 1500) (ht : t.length ≤ 1500) (hz : (parseR s).2 = 0) (hz2 : (parseR t).2 = 0) (hg : (parseR s).1.length + (parseR t).1.length + 1 ≤ 31) : Calls Tryz.prog 7 #[str s, str t, .bool false] w fun e w' => e = .returned (.bool true) ∧ Below w.heap.size w w' := by
  have cA := hid (awake_any w hE)
  have q1 : decide ((1500 : Int) < (s.length : Int)) = false := decide_eq_false (by omega)
  have q2 : decide ((1500 : Int) < (t.length : Int)) = false := decide_eq_false (by omega)
  have q1n : decide (1500 < s.length) = false := decide_eq_false (by omega)
  have q2n : decide (1500 < t.length) = false := decide_eq_false (by omega)
  have hP := hid (fun W (hb : Below w.heap.size w W) => Parse_any s (hE.below hb).e (hE.below hb).o (by omega))
  have hQ := hid (fun W (hb : Below w.heap.size w W) => Parse_any t (hE.below hb).e (hE.below hb).o (by omega))
  have hpl : (pairX false s t).length ≤ 4096 := by simp [pairX, wordX]; omega
  have hnl : (negX s).length ≤ 4096 := by simp [negX]; omega
  have hX := hid (fun W (hb : Below w.heap.size w W) => Parse_any (pairX false s t) (hE.below hb).e (hE.below hb).o (by omega))
  have hY := hid (fun W (hb : Below w.heap.size w W) => Parse_any (negX s) (hE.below hb).e (hE.below hb).o (by omega))
  obtain ⟨a, b, -, -, ea, eb, sa, sb, ep⟩ := par_pair false hpl hz hz2
  obtain ⟨a', ea', en⟩ := par_neg hnl hz
  have ha' : flat 0 a' = flat 0 a := by rw [ea] at ea'; exact (Prod.mk.inj ea').1.symm
  have hsz : a'.size = a.size := by rw [← flat_len a' 0, ha', flat_len]
  have hPF := pair_facts a b false
  have hNF := neg_facts a'
  rw [ha'] at hNF
  have hbd := hid (fun x (hx : x ∈ flat 0 b) => flat_bd b 0 x hx)
  have hpa := a.pos
  have hpb := b.pos
  have hbs := sb
  rw [ea, eb] at hg
  rw [ea] at hP
  rw [eb] at hQ
  rw [ep] at hX
  rw [en, hsz] at hY
  have la := flat_len a 0
  have lb := flat_len b 0
  rw [← la] at sa hpa hX hY
  rw [← lb] at sb hpb hX
  generalize b.size = bz at hbd hbs lb
  replace lb := hid lb
  have hcat := hid (cat_pair_and s t)
  have hcat2 := hid (cat_neg s)
  generalize pairX false s t = zp at *
  generalize negX s = zn at *
  generalize flat 0 (.bin false a b) = bo at *
  generalize flat 0 (.neg a') = no at *
  clear ea eb ep en ea' ha' hsz hz hz2 hnl hpl la
  generalize flat 0 a = na at *
  generalize flat 0 b = nb at *
  simp only at hP hQ hg
  rw [if_pos hg] at hX
  rw [if_pos (show na.length + 1 ≤ 31 by omega)] at hY
  clear hE
  have lbo := hPF.len
  have lno := hNF.len
  generalize hm : na.length = m at *
  generalize hk : nb.length = k at *
  replace hm := hid hm
  replace hk := hid hk
  replace hPF := hid hPF
  replace hNF := hid hNF
  obtain ⟨p, hp⟩ : ∃ p, p = m + k := ⟨_, rfl⟩
  obtain ⟨q, hq⟩ : ∃ q, q = m + k + 1 := ⟨_, rfl⟩
  obtain ⟨r, hr⟩ : ∃ r, r = m + 1 := ⟨_, rfl⟩
  rw [← hq] at lbo
  rw [← hr] at lno
  replace lbo := hid lbo
  replace lno := hid lno
  have v1 : IntKind.i64.wrap ((m : Int) + (k : Int)) = (p : Int) := by rw [IntKind.wrap_i64]; omega
  have v2 : IntKind.i64.wrap ((m : Int) + 1) = (r : Int) := by rw [IntKind.wrap_i64]; omega
  have v3 : IntKind.i64.wrap ((m : Int) - 1) = (m : Int) - 1 := by rw [IntKind.wrap_i64]; omega
  have v4 : IntKind.i64.wrap ((q : Int) - 1) = (p : Int) := by rw [IntKind.wrap_i64]; omega
  have v5 : IntKind.i64.wrap ((p : Int) + 1) = (q : Int) := by rw [IntKind.wrap_i64]; omega
  have v6 : IntKind.i64.wrap ((q : Int) - 2) = (q : Int) - 2 := by rw [IntKind.wrap_i64]; omega
  have d1 : decide ((p : Int) < 31) = true := decide_eq_true (by omega)
  have d2 : decide ((m : Int) < 31) = true := decide_eq_true (by omega)
  have q0 : (0 : Int) ≤ (p : Int) := by omega
  have q00 : (p : Int) < (q : Int) := by omega
  have q01 : (m : Int) < (r : Int) := by omega
  have q02 : (0 : Int) ≤ (m : Int) := by omega
  replace hp := hid hp
  replace hq := hid hq
  replace hr := hid hr
  have k1 : (9223372036854775807 < 1 + s.length) = False := eq_false (by omega)
  have k2 : (9223372036854775807 < 1 + s.length + 2) = False := eq_false (by omega)
  have k3 : (9223372036854775807 < 1 + s.length + 2 + 5) = False := eq_false (by omega)
  have k4 : (9223372036854775807 < 1 + s.length + 2 + 5 + 1) = False := eq_false (by omega)
  have k5 : (9223372036854775807 < 1 + s.length + 2 + 5 + 1 + t.length) = False := eq_false (by omega)
  have k6 : (9223372036854775807 < 1 + s.length + 2 + 5 + 1 + t.length + 2) = False := eq_false (by omega)
  have k7 : (9223372036854775807 < 5 + s.length) = False := eq_false (by omega)
  have k8 : (9223372036854775807 < 5 + s.length + 2) = False := eq_false (by omega)
  unfold str at *
  go_enter Tryz.func7, Tryz.ntmps7
  go_wp2_with fail
  refine cA.out.mono ?_
  rintro e w1 ⟨rfl, b1⟩
  have B1 := hid b1
  clear cA b1
  go_wp2_with fail
  refine (hP.out _ B1.out).mono ?_
  rintro e w2 ⟨v2, rfl, o2, b2⟩
  obtain ⟨a2, c2, rfl⟩ := o2.sliceL hm.out
  have B2 := hid (low2 B1.out b2)
  have A2 := hid o2.isN
  clear hP b2 B1 o2
  go_wp2_with fail
  refine (hQ.out _ B2.out).mono ?_
  rintro e w3 ⟨v3, rfl, o3, b3⟩
  obtain ⟨a3, c3, rfl⟩ := o3.sliceL hk.out
  have B3 := hid (low2 B2.out b3)
  have A3 := hid (A2.out.below b3)
  have E3 := hid o3.isN
  clear hQ b3 B2 o3 A2
  go_wp2_with fail
  rw [hcat.out]
  refine (hX.out _ B3.out).mono ?_
  rintro e w4 ⟨v4, rfl, o4, b4⟩
  obtain ⟨a4, c4, rfl⟩ := o4.sliceL lbo.out
  have B4 := hid (low2 B3.out b4)
  have A4 := hid (A3.out.below b4)
  have E4 := hid (E3.out.below b4)
  have X4 := hid o4.isN
  clear hX b4 B3 o4 A3 E3
  go_wp2_with fail
  rw [hcat2.out]
  refine (hY.out _ B4.out).mono ?_
  rintro e w5 ⟨v5, rfl, o5, b5⟩
  obtain ⟨a5, c5, rfl⟩ := o5.sliceL lno.out
  have B5 := hid (low2 B4.out b5)
  have hA := hid (A4.out.below b5)
  have hB := hid (E4.out.below b5)
  have hX := hid (X4.out.below b5)
  have hY := hid o5.isN
  clear b5 B4 o5 A4 E4 X4 k1 k2 k3 k4 k5 k6 k7 k8 hcat hcat2 q1 q2 q1n q2n
  obtain ⟨b5, f5, rfl, hc5⟩ := hY.out.at (k := m) (by have := lno.out; have := hr.out; omega)
  have hcap5 := hY.out.bound.2.1
  have hlast5 := hNF.out.last
  rw [hm.out] at hlast5
  obtain ⟨s5, ⟨n0, -, -, -, -, -, n6, -⟩, -⟩ := hc5 m _ hlast5
  simp [negNd] at n0 n6
  have hmc5 : m ≤ c5 := by have := hr.out; omega
  have cS1 := hid (fun W (hb : Below w5.heap.size w5 W) => by
    have h1 := (hY.out.below hb).part 0 m (by omega) (by have := hr.out; omega) m c5 rfl hmc5 (by have := hY.out.bound.2.2; unfold maxLen; omega)
    rw [Nat.zero_mul, Nat.add_zero, List.drop_zero, ← hm.out, hNF.out.take, hm.out] at h1
    have h2 := rsame_any h1 (hA.out.below hb)
    rw [sameN_refl] at h2
    exact h2)
  have hn0 := hid (fun W (hb : Below w5.heap.size w5 W) => (hb.cell (p := ⟨b5, f5 + m * 8, none⟩) (World.block_lt_of_cell? w5 _ n0)).trans n0)
  have hn6 := hid (fun W (hb : Below w5.heap.size w5 W) => (hb.cell (p := ⟨b5, f5 + m * 8 + 6, none⟩) (World.block_lt_of_cell? w5 _ n6)).trans n6)
  clear hc5 hlast5 hcap5 n0 n6
  go_wp2_with fail
  refine (cS1.out _ (Below.refl _ _)).mono ?_
  rintro e w6 ⟨rfl, b6⟩
  have n0 := hn0.out _ b6
  have n6 := hn6.out _ b6
  have B6 := hid (low2 B5.out b6)
  have hb6 := hid b6
  have B5' := B5
  clear b6 cS1 hn0 hn6 B5
  obtain ⟨b4, f4, rfl, hc4⟩ := hX.out.at (k := p) (by have := lbo.out; omega)
  have hcap4 := hX.out.bound.2.1
  have hcap4' := hX.out.bound.2.2
  have hmq : m ≤ q := by have := hq.out; omega
  have hmc4 : m ≤ c4 := by omega
  have hlast4 := hPF.out.last
  rw [hm.out, hk.out, ← hp.out] at hlast4
  obtain ⟨s4, ⟨l0, l1, l2, l3, l4, l5, l6, l7⟩, hms4⟩ := hc4 p _ hlast4
  obtain ⟨sa4, sc4, rfl⟩ := hms4.slice
  rw [show (m : Int) + (k : Int) - 1 = (q : Int) - 2 by have := hq.out; omega] at l7
  simp [binNd, opK] at l0 l1 l2 l3 l4 l5 l6
  simp only [binNd] at l7
  have hlt4 := World.block_lt_of_cell? w5 _ l0
  have hcell4 := hid (fun W (hb : Below w5.heap.size w5 W) o => hb.cell (p := ⟨b4, o, none⟩) hlt4)
  have m0 := (hcell4.out _ hb6.out _).trans l0
  have m1 := (hcell4.out _ hb6.out _).trans l1
  have m2 := (hcell4.out _ hb6.out _).trans l2
  have m3 := (hcell4.out _ hb6.out _).trans l3
  have m4 := (hcell4.out _ hb6.out _).trans l4
  have m5 := (hcell4.out _ hb6.out _).trans l5
  have m6 := (hcell4.out _ hb6.out _).trans l6
  have m7 := (hcell4.out _ hb6.out _).trans l7
  have cS2 := hid (fun W (hb : Below w5.heap.size w5 W) => by
    have h1 := (hX.out.below hb).part 0 m (by omega) hmq m c4 rfl hmc4 (by unfold maxLen; omega)
    rw [Nat.zero_mul, Nat.add_zero, List.drop_zero, ← hm.out, hPF.out.take, hm.out] at h1
    have h2 := rsame_any h1 (hA.out.below hb)
    rw [sameN_refl] at h2
    exact h2)
  clear l0 l1 l2 l3 l4 l5 l6 l7 hlast4 hms4 hmq
  go_wp2_with fail
  have hbx := new_block w6 (.cells #[.int .u8 1, .int .u8 0, .slice sa4 0 sc4, .int .i64 0, .int .u8 0, .int .i64 0, .int .i64 ((m : Int) - 1), .int .i64 ((q : Int) - 2)] 31)
  have hb7 := alloc_below w6 (.cells #[.int .u8 1, .int .u8 0, .slice sa4 0 sc4, .int .i64 0, .int .u8 0, .int .i64 0, .int .i64 ((m : Int) - 1), .int .i64 ((q : Int) - 2)] 31)
  obtain ⟨W7, hW7⟩ : ∃ W7, w6.alloc (.cells #[.int .u8 1, .int .u8 0, .slice sa4 0 sc4, .int .i64 0, .int .u8 0, .int .i64 0, .int .i64 ((m : Int) - 1), .int .i64 ((q : Int) - 2)] 31) = W7 := ⟨_, rfl⟩
  rw [hW7] at hbx hb7 ⊢
  clear hW7 m0 m1 m2 m3 m4 m5 m6 m7
  refine (cS2.out _ (low2 hb6.out hb7)).mono ?_
  rintro e w8 ⟨rfl, b8⟩
  have hx8 := (b8.block _ (lt_of_block hbx)).trans hbx
  have r0 : w8.cell? ⟨w6.heap.size, 0, none⟩ = some (.int .u8 1) := by rw [cell_of hx8]; rfl
  have r6 : w8.cell? ⟨w6.heap.size, 6, none⟩ = some (.int .i64 ((m : Int) - 1)) := by rw [cell_of hx8]; rfl
  have r7 : w8.cell? ⟨w6.heap.size, 7, none⟩ = some (.int .i64 ((q : Int) - 2)) := by rw [cell_of hx8]; rfl
  have B8 := hid (low2 B6.out (low2 hb7 b8))
  have hb8 := hid (low2 hb6.out (low2 hb7 b8))
  clear hx8 hbx hb7 b8 cS2
  go_wp2_with fail
  clear r0 r6 r7 n0 n6
  go_loopw [18] (fun jv wr => ∃ j : Nat, jv = .int .i64 (j : Int) ∧ j ≤ k ∧ Hid (Below w5.heap.size w5 wr)) (fun jv _ => k - (intOf jv).toNat)
  case atStart => exact ⟨0, rfl, by omega, hb8⟩
  case round =>
    clear hb8
    obtain ⟨j, rfl, hj, hbj⟩ := hrel
    obtain ⟨V, rfl⟩ : ∃ V : World, V = wr := ⟨_, rfl⟩
    by_cases hjk : (j : Int) < (k : Int)
    · have hjk' : j < k := by omega
      obtain ⟨x, hx⟩ : ∃ x, nb[j]? = some x := ⟨_, List.getElem?_eq_getElem (by have := hk.out; omega)⟩
      have hy := hPF.out.mid j x hx
      rw [hm.out] at hy
      obtain ⟨z, hz⟩ : ∃ z, z = m + j := ⟨_, rfl⟩
      rw [← hz] at hy
      have v7 : IntKind.i64.wrap ((m : Int) + (j : Int)) = (z : Int) := by rw [IntKind.wrap_i64]; omega
      have z0 : (0 : Int) ≤ (z : Int) := by omega
      have z1 : (z : Int) < (q : Int) := by have := hq.out; omega
      have j0 : (0 : Int) ≤ (j : Int) := by omega
      obtain ⟨xl0, xl1, xr0, xr1⟩ := hbd.out x (List.mem_of_getElem? hx)
      obtain ⟨b3, f3, rfl, hc3⟩ := hB.out.at (k := j) (by have := hk.out; omega)
      obtain ⟨sx, ⟨x0, -, -, -, -, -, x6, x7⟩, -⟩ := hc3 j x hx
      obtain ⟨sy, ⟨y0, y1, y2, y3, y4, y5, y6, y7⟩, hmy⟩ := hc4 z _ hy
      obtain ⟨sya, syc, rfl⟩ := hmy.slice
      have hlt3 := World.block_lt_of_cell? w5 _ x0
      have hal := hid (fun o => low2 hbj.out (alloc_below V o))
      have hcell3 := hid (fun W (hb : Below w5.heap.size w5 W) o => hb.cell (p := ⟨b3, o, none⟩) hlt3)
      have y0 := (hcell4.out _ hbj.out _).trans y0
      have y1 := (hcell4.out _ hbj.out _).trans y1
      have y2 := (hcell4.out _ hbj.out _).trans y2
      have y3 := (hcell4.out _ hbj.out _).trans y3
      have y4 := (hcell4.out _ hbj.out _).trans y4
      have y5 := (hcell4.out _ hbj.out _).trans y5
      have y6 := (hcell4.out _ hbj.out _).trans y6
      have y7 := (hcell4.out _ hbj.out _).trans y7
      have y0k : (shiftN m x).kind = x.kind := shift_kind m x
      rw [y0k] at y0
      have hsl := hid (fun h => shift_left (d := m) (x := x) h)
      have hsr := hid (fun h => shift_right (d := m) (x := x) h)
      have hx0 := hid (fun W (hb : Below w5.heap.size w5 W) => ((hcell3.out W hb _).trans x0))
      have hx6 := hid (fun W (hb : Below w5.heap.size w5 W) => ((hcell3.out W hb _).trans x6))
      have hx7 := hid (fun W (hb : Below w5.heap.size w5 W) => ((hcell3.out W hb _).trans x7))
      generalize (shiftN m x).left = yl at *
      generalize (shiftN m x).right = yr at *
      generalize (shiftN m x).agg = ya at *
      generalize (shiftN m x).sel.length = yn at *
      generalize (shiftN m x).win = yw at *
      generalize (shiftN m x).cmp = yc at *
      generalize (shiftN m x).val = yv at *
      clear x0 x6 x7 hc3 hmy hx hy y0k hz hcell3 hlt3
      go_wp2_with fail
      have hnb := new_block V (.cells #[.int .u8 (x.kind.toNat : Int), .int .u8 (ya.toNat : Int), .slice sya yn syc, .int .i64 yw, .int .u8 (yc.toNat : Int), .int .i64 yv, .int .i64 yl, .int .i64 yr] 31)
      have hb5 := hal.out (.cells #[.int .u8 (x.kind.toNat : Int), .int .u8 (ya.toNat : Int), .slice sya yn syc, .int .i64 yw, .int .u8 (yc.toNat : Int), .int .i64 yv, .int .i64 yl, .int .i64 yr] 31)
      obtain ⟨V1, hV1⟩ : ∃ V1, V.alloc (.cells #[.int .u8 (x.kind.toNat : Int), .int .u8 (ya.toNat : Int), .slice sya yn syc, .int .i64 yw, .int .u8 (yc.toNat : Int), .int .i64 yv, .int .i64 yl, .int .i64 yr] 31) = V1 := ⟨_, rfl⟩
      rw [hV1] at hnb hb5 ⊢
      clear hV1 y0 y1 y2 y3 y4 y5 y6 y7
      have u0 : V1.cell? ⟨V.heap.size, 0, none⟩ = some (.int .u8 (x.kind.toNat : Int)) := by rw [cell_of hnb]; rfl
      have u6 : V1.cell? ⟨V.heap.size, 6, none⟩ = some (.int .i64 yl) := by rw [cell_of hnb]; rfl
      have u7 : V1.cell? ⟨V.heap.size, 7, none⟩ = some (.int .i64 yr) := by rw [cell_of hnb]; rfl
      have x0 := hx0.out _ hb5
      have x6 := hx6.out _ hb5
      have x7 := hx7.out _ hb5
      replace hb5 := hid hb5
      clear hnb hx0 hx6 hx7 hal
      by_cases e0 : x.kind = 0
      · rw [e0] at u0 x0
        simp at u0 x0
        clear hsl hsr e0
        go_quiet (fail)
        go_wp2
        exact ⟨⟨j + 1, by simp, by omega, below_drewN hb5.out⟩, by simp [intOf]; omega⟩
      · have t0 : ((x.kind.toNat : Int) != 0) = true := by
          rw [bne_iff_ne]
          exact fun e => e0 (UInt8.toNat_inj.1 (show x.kind.toNat = 0 by omega))
        have t9 : ((x.kind.toNat : Int) != (x.kind.toNat : Int)) = false := by simp
        have ql := hsl.out e0
        subst ql
        have wl : IntKind.i64.wrap (x.left + (m : Int)) = x.left + (m : Int) := by rw [IntKind.wrap_i64]; omega
        have t8 : ((x.left + (m : Int)) != (x.left + (m : Int))) = false := by simp
        by_cases e1 : x.kind = 1
        · have ql := hsr.out (.inl e1)
          subst ql
          have wr' : IntKind.i64.wrap (x.right + (m : Int)) = x.right + (m : Int) := by rw [IntKind.wrap_i64]; omega
          have t7 : ((x.right + (m : Int)) != (x.right + (m : Int))) = false := by simp
          rw [e1] at u0 x0
          simp at u0 x0
          clear hsl hsr e0 e1 t0 t9
          go_quiet (fail)
          go_wp2
          exact ⟨⟨j + 1, by simp, by omega, below_drewN hb5.out⟩, by simp [intOf]; omega⟩
        by_cases e2 : x.kind = 2
        · have ql := hsr.out (.inr e2)
          subst ql
          have wr' : IntKind.i64.wrap (x.right + (m : Int)) = x.right + (m : Int) := by rw [IntKind.wrap_i64]; omega
          have t7 : ((x.right + (m : Int)) != (x.right + (m : Int))) = false := by simp
          rw [e2] at u0 x0
          simp at u0 x0
          clear hsl hsr e0 e1 e2 t0 t9
          go_quiet (fail)
          go_wp2
          exact ⟨⟨j + 1, by simp, by omega, below_drewN hb5.out⟩, by simp [intOf]; omega⟩
        have t1 : ((x.kind.toNat : Int) == 1) = false := by
          rw [beq_eq_false_iff_ne]
          exact fun e => e1 (UInt8.toNat_inj.1 (show x.kind.toNat = 1 by omega))
        have t2 : ((x.kind.toNat : Int) == 2) = false := by
          rw [beq_eq_false_iff_ne]
          exact fun e => e2 (UInt8.toNat_inj.1 (show x.kind.toNat = 2 by omega))
        clear hsl hsr e0 e1 e2
        go_quiet (fail)
        go_wp2
        exact ⟨⟨j + 1, by simp, by omega, below_drewN hb5.out⟩, by simp [intOf]; omega⟩
    · obtain rfl : j = k := by omega
      have B9 := hid (low2 B5'.out hbj.out)
      go_wp2
      go_ret
      exact ⟨rfl, B9.out⟩

end Pairs
end Go.Proofs.YtjhodmpgggaknaaGreatDoor
