/- The walk of ExprPairs. -/
import Derived.Test.YtjhodmpgggaknaaGreatDoorZLQP
import Derived.Deep.RegionHeld3
namespace Go.Proofs.YtjhodmpgggaknaaGreatDoor
open Go.ChangeShapes Go.WideShapes Go.ChangeAt Go.RowKit Go.Shelf Go.Maps
namespace Pairs
theorem _root_.Go.Proofs.YtjhodmpgggaknaaGreatDoor.OwnN.sliceL {B : Nat} {w : World} {v : Value} {ns : List Nd} {m : Nat} (h : OwnN B w v ns) (e : ns.length = m) : ∃ a c, v = .slice a m c := e ▸ h.slice

set_option maxRecDepth 100000 in
set_option maxHeartbeats 1000000 in
theorem walk_long (s t : Tx) (o : Bool) (w : World) (hE : Env w) (h1 : 1500 < s.length ∨ 1500 < t.length) : Calls Tryz.prog 7 #[str s, str t, .bool o] w fun e w' => e = .returned (.bool true) ∧ Below w.heap.size w w' := by
  have cA := hid (awake_any w hE)
  have h1' : Hid (1500 < s.length ∨ 1500 < t.length) := h1
  clear hE h1
  unfold str
  go_enter Tryz.func7, Tryz.ntmps7
  go_wp2_with fail
  refine cA.out.mono ?_
  rintro e w1 ⟨rfl, b1⟩
  have B1 := hid b1
  clear cA b1
  by_cases q1 : (1500 : Int) < (s.length : Int)
  · go_wp2
    go_ret
    exact ⟨rfl, B1.out⟩
  · have q2 : (1500 : Int) < (t.length : Int) := by have := h1'.out; omega
    go_wp2
    go_ret
    exact ⟨rfl, B1.out⟩

set_option maxRecDepth 100000 in
set_option maxHeartbeats 1000000 in
theorem walk_bad (s t : Tx) (o : Bool) (w : World) (hE : Env w) (hs : s.length ≤ 1500) (ht : t.length ≤ 1500) (hz : ¬ ((parseR s).2 = 0 ∧ (parseR t).2 = 0)) : Calls Tryz.prog 7 #[str s, str t, .bool o] w fun e w' => e = .returned (.bool true) ∧ Below w.heap.size w w' := by
  have cA := hid (awake_any w hE)
  have q1 : decide ((1500 : Int) < (s.length : Int)) = false := decide_eq_false (by omega)
  have q2 : decide ((1500 : Int) < (t.length : Int)) = false := decide_eq_false (by omega)
  have q1n : decide (1500 < s.length) = false := decide_eq_false (by omega)
  have q2n : decide (1500 < t.length) = false := decide_eq_false (by omega)
  have hP := hid (fun W (hb : Below w.heap.size w W) => Parse_any s (hE.below hb).e (hE.below hb).o (by omega))
  have hQ := hid (fun W (hb : Below w.heap.size w W) => Parse_any t (hE.below hb).e (hE.below hb).o (by omega))
  generalize parseR s = ps at *
  generalize parseR t = pt at *
  obtain ⟨pn, pc⟩ := ps
  obtain ⟨tn, tc⟩ := pt
  simp only at hP hQ hz
  clear hE
  unfold str at *
  go_enter Tryz.func7, Tryz.ntmps7
  go_wp2_with fail
  refine cA.out.mono ?_
  rintro e w1 ⟨rfl, b1⟩
  have B1 := hid b1
  clear cA b1
  go_wp2_with fail
  refine (hP.out _ B1.out).mono ?_
  rintro e w2 ⟨v2, rfl, o2, b2⟩
  obtain ⟨a2, c2, rfl⟩ := o2.slice
  have B2 := hid (low2 B1.out b2)
  clear hP b2 B1 o2
  go_wp2_with fail
  refine (hQ.out _ B2.out).mono ?_
  rintro e w3 ⟨v3, rfl, o3, b3⟩
  obtain ⟨a3, c3, rfl⟩ := o3.slice
  have B3 := hid (low2 B2.out b3)
  clear hQ b3 B2 o3
  by_cases h0 : pc = 0
  · subst h0
    have q4 : (tc != 0) = true := by simp; exact fun e => hz ⟨rfl, e⟩
    go_wp2
    go_ret
    exact ⟨rfl, B3.out⟩
  · have q4 : (pc != 0) = true := by simp [h0]
    go_wp2
    go_ret
    exact ⟨rfl, B3.out⟩

set_option maxRecDepth 100000 in
set_option maxHeartbeats 4000000 in
theorem walk_andZ (s t : Tx) (w : World) (hE : Env w) (hs : s.length ≤ 1500) (ht : t.length ≤ 1500) (hz : (parseR s).2 = 0) (hz2 : (parseR t).2 = 0) (hh : ¬ (parseR s).1.length + 1 ≤ 31) : Calls Tryz.prog 7 #[str s, str t, .bool false] w fun e w' => e = .returned (.bool true) ∧ Below w.heap.size w w' := by
  have cA := hid (awake_any w hE)
  have q1 : decide ((1500 : Int) < (s.length : Int)) = false := decide_eq_false (by omega)
  have q2 : decide ((1500 : Int) < (t.length : Int)) = false := decide_eq_false (by omega)
  have q1n : decide (1500 < s.length) = false := decide_eq_false (by omega)
  have q2n : decide (1500 < t.length) = false := decide_eq_false (by omega)
  have hP := hid (fun W (hb : Below w.heap.size w W) => Parse_any s (hE.below hb).e (hE.below hb).o (by omega))
  have hQ := hid (fun W (hb : Below w.heap.size w W) => Parse_any t (hE.below hb).e (hE.below hb).o (by omega))
  have hpl : (pairX false s t).length ≤ 4096 := by simp [pairX, wordX]; omega
  have hnl : (negX s).length ≤ 4096 := by simp [negX]; omega
  have hX := hid (fun W (hb : Below w.heap.size w W) => Parse_any (pairX false s t) (hE.below hb).e (hE.below hb).o (by omega))
  have hY := hid (fun W (hb : Below w.heap.size w W) => Parse_any (negX s) (hE.below hb).e (hE.below hb).o (by omega))
  obtain ⟨a, b, -, -, ea, eb, sa, sb, ep⟩ := par_pair false hpl hz hz2
  obtain ⟨a', ea', en⟩ := par_neg hnl hz
  have ha' : flat 0 a' = flat 0 a := by rw [ea] at ea'; exact (Prod.mk.inj ea').1.symm
  have hsz : a'.size = a.size := by rw [← flat_len a' 0, ha', flat_len]
  have hPF := pair_facts a b false
  have hNF := neg_facts a'
  rw [ha'] at hNF
  have hbd := hid (fun x (hx : x ∈ flat 0 b) => flat_bd b 0 x hx)
  have hpa := a.pos
  have hpb := b.pos
  have hbs := sb
  rw [ea] at hh
  rw [ea] at hP
  rw [eb] at hQ
  rw [ep] at hX
  rw [en, hsz] at hY
  have la := flat_len a 0
  have lb := flat_len b 0
  rw [← la] at sa hpa hX hY
  rw [← lb] at sb hpb hX
  generalize b.size = bz at hbd hbs lb
  replace lb := hid lb
  have hcat := hid (cat_pair_and s t)
  have hcat2 := hid (cat_neg s)
  generalize pairX false s t = zp at *
  generalize negX s = zn at *
  generalize flat 0 (.bin false a b) = bo at *
  generalize flat 0 (.neg a') = no at *
  clear ea eb ep en ea' ha' hsz hz hz2 hnl hpl la
  generalize flat 0 a = na at *
  generalize flat 0 b = nb at *
  simp only at hP hQ hh
  rw [if_neg (show ¬ na.length + nb.length + 1 ≤ 31 by omega)] at hX
  rw [if_neg hh] at hY
  clear hE
  have lbo := hPF.len
  have lno := hNF.len
  generalize hm : na.length = m at *
  generalize hk : nb.length = k at *
  replace hm := hid hm
  replace hk := hid hk
  replace hPF := hid hPF
  replace hNF := hid hNF
  obtain ⟨p, hp⟩ : ∃ p, p = m + k := ⟨_, rfl⟩
  obtain ⟨q, hq⟩ : ∃ q, q = m + k + 1 := ⟨_, rfl⟩
  obtain ⟨r, hr⟩ : ∃ r, r = m + 1 := ⟨_, rfl⟩
  rw [← hq] at lbo
  rw [← hr] at lno
  replace lbo := hid lbo
  replace lno := hid lno
  have v1 : IntKind.i64.wrap ((m : Int) + (k : Int)) = (p : Int) := by rw [IntKind.wrap_i64]; omega
  have v2 : IntKind.i64.wrap ((m : Int) + 1) = (r : Int) := by rw [IntKind.wrap_i64]; omega
  have v3 : IntKind.i64.wrap ((m : Int) - 1) = (m : Int) - 1 := by rw [IntKind.wrap_i64]; omega
  have v4 : IntKind.i64.wrap ((q : Int) - 1) = (p : Int) := by rw [IntKind.wrap_i64]; omega
  have v5 : IntKind.i64.wrap ((p : Int) + 1) = (q : Int) := by rw [IntKind.wrap_i64]; omega
  have v6 : IntKind.i64.wrap ((q : Int) - 2) = (q : Int) - 2 := by rw [IntKind.wrap_i64]; omega
  have d1 : decide ((p : Int) < 31) = false := decide_eq_false (by omega)
  have d2 : decide ((m : Int) < 31) = false := decide_eq_false (by omega)
  have q0 : (0 : Int) ≤ (p : Int) := by omega
  have q00 : (p : Int) < (q : Int) := by omega
  have q01 : (m : Int) < (r : Int) := by omega
  have q02 : (0 : Int) ≤ (m : Int) := by omega
  replace hp := hid hp
  replace hq := hid hq
  replace hr := hid hr
  have k1 : (9223372036854775807 < 1 + s.length) = False := eq_false (by omega)
  have k2 : (9223372036854775807 < 1 + s.length + 2) = False := eq_false (by omega)
  have k3 : (9223372036854775807 < 1 + s.length + 2 + 5) = False := eq_false (by omega)
  have k4 : (9223372036854775807 < 1 + s.length + 2 + 5 + 1) = False := eq_false (by omega)
  have k5 : (9223372036854775807 < 1 + s.length + 2 + 5 + 1 + t.length) = False := eq_false (by omega)
  have k6 : (9223372036854775807 < 1 + s.length + 2 + 5 + 1 + t.length + 2) = False := eq_false (by omega)
  have k7 : (9223372036854775807 < 5 + s.length) = False := eq_false (by omega)
  have k8 : (9223372036854775807 < 5 + s.length + 2) = False := eq_false (by omega)
  unfold str at *
  go_enter Tryz.func7, Tryz.ntmps7
  go_wp2_with fail
  refine cA.out.mono ?_
  rintro e w1 ⟨rfl, b1⟩
  have B1 := hid b1
  clear cA b1
  go_wp2_with fail
  refine (hP.out _ B1.out).mono ?_
  rintro e w2 ⟨v2, rfl, o2, b2⟩
  obtain ⟨a2, c2, rfl⟩ := o2.sliceL hm.out
  have B2 := hid (low2 B1.out b2)
  have A2 := hid o2.isN
  clear hP b2 B1 o2
  go_wp2_with fail
  refine (hQ.out _ B2.out).mono ?_
  rintro e w3 ⟨v3, rfl, o3, b3⟩
  obtain ⟨a3, c3, rfl⟩ := o3.sliceL hk.out
  have B3 := hid (low2 B2.out b3)
  have A3 := hid (A2.out.below b3)
  have E3 := hid o3.isN
  clear hQ b3 B2 o3 A2
  go_wp2_with fail
  rw [hcat.out]
  refine (hX.out _ B3.out).mono ?_
  rintro e w4 ⟨v4, rfl, o4, b4⟩
  obtain ⟨a4, c4, rfl⟩ := o4.slice
  have B4 := hid (low2 B3.out b4)
  have A4 := hid (A3.out.below b4)
  have E4 := hid (E3.out.below b4)
  have X4 := hid o4.isN
  clear hX b4 B3 o4 A3 E3
  go_wp2_with fail
  rw [hcat2.out]
  refine (hY.out _ B4.out).mono ?_
  rintro e w5 ⟨v5, rfl, o5, b5⟩
  obtain ⟨a5, c5, rfl⟩ := o5.slice
  have B5 := hid (low2 B4.out b5)
  have hA := hid (A4.out.below b5)
  have hB := hid (E4.out.below b5)
  have hX := hid (X4.out.below b5)
  have hY := hid o5.isN
  clear b5 B4 o5 A4 E4 X4 k1 k2 k3 k4 k5 k6 k7 k8 hcat hcat2 q1 q2 q1n q2n
  go_wp2
  go_ret
  exact ⟨rfl, B5.out⟩

set_option maxRecDepth 100000 in
set_option maxHeartbeats 4000000 in
theorem walk_andN (s t : Tx) (w : World) (hE : Env w) (hs : s.length ≤ 1500) (ht : t.length ≤ 1500) (hz : (parseR s).2 = 0) (hz2 : (parseR t).2 = 0) (hg : ¬ (parseR s).1.length + (parseR t).1.length + 1 ≤ 31) (hh : (parseR s).1.length + 1 ≤ 31) : Calls Tryz.prog 7 #[str s, str t, .bool false] w fun e w' => e = .returned (.bool true) ∧ Below w.heap.size w w' := by
  have cA := hid (awake_any w hE)
  have q1 : decide ((1500 : Int) < (s.length : Int)) = false := decide_eq_false (by omega)
  have q2 : decide ((1500 : Int) < (t.length : Int)) = false := decide_eq_false (by omega)
  have q1n : decide (1500 < s.length) = false := decide_eq_false (by omega)
  have q2n : decide (1500 < t.length) = false := decide_eq_false (by omega)
  have hP := hid (fun W (hb : Below w.heap.size w W) => Parse_any s (hE.below hb).e (hE.below hb).o (by omega))
  have hQ := hid (fun W (hb : Below w.heap.size w W) => Parse_any t (hE.below hb).e (hE.below hb).o (by omega))
  have hpl : (pairX false s t).length ≤ 4096 := by simp [pairX, wordX]; omega
  have hnl : (negX s).length ≤ 4096 := by simp [negX]; omega
  have hX := hid (fun W (hb : Below w.heap.size w W) => Parse_any (pairX false s t) (hE.below hb).e (hE.below hb).o (by omega))
  have hY := hid (fun W (hb : Below w.heap.size w W) => Parse_any (negX s) (hE.below hb).e (hE.below hb).o (by omega))
  obtain ⟨a, b, -, -, ea, eb, sa, sb, ep⟩ := par_pair false hpl hz hz2
  obtain ⟨a', ea', en⟩ := par_neg hnl hz
  have ha' : flat 0 a' = flat 0 a := by rw [ea] at ea'; exact (Prod.mk.inj ea').1.symm
  have hsz : a'.size = a.size := by rw [← flat_len a' 0, ha', flat_len]
  have hPF := pair_facts a b false
  have hNF := neg_facts a'
  rw [ha'] at hNF
  have hbd := hid (fun x (hx : x ∈ flat 0 b) => flat_bd b 0 x hx)
  have hpa := a.pos
  have hpb := b.pos
  have hbs := sb
  rw [ea, eb] at hg
  rw [ea] at hh
  rw [ea] at hP
  rw [eb] at hQ
  rw [ep] at hX
  rw [en, hsz] at hY
  have la := flat_len a 0
  have lb := flat_len b 0
  rw [← la] at sa hpa hX hY
  rw [← lb] at sb hpb hX
  generalize b.size = bz at hbd hbs lb
  replace lb := hid lb
  have hcat := hid (cat_pair_and s t)
  have hcat2 := hid (cat_neg s)
  generalize pairX false s t = zp at *
  generalize negX s = zn at *
  generalize flat 0 (.bin false a b) = bo at *
  generalize flat 0 (.neg a') = no at *
  clear ea eb ep en ea' ha' hsz hz hz2 hnl hpl la
  generalize flat 0 a = na at *
  generalize flat 0 b = nb at *
  simp only at hP hQ hg hh
  rw [if_neg hg] at hX
  rw [if_pos hh] at hY
  clear hE
  have lbo := hPF.len
  have lno := hNF.len
  generalize hm : na.length = m at *
  generalize hk : nb.length = k at *
  replace hm := hid hm
  replace hk := hid hk
  replace hPF := hid hPF
  replace hNF := hid hNF
  obtain ⟨p, hp⟩ : ∃ p, p = m + k := ⟨_, rfl⟩
  obtain ⟨q, hq⟩ : ∃ q, q = m + k + 1 := ⟨_, rfl⟩
  obtain ⟨r, hr⟩ : ∃ r, r = m + 1 := ⟨_, rfl⟩
  rw [← hq] at lbo
  rw [← hr] at lno
  replace lbo := hid lbo
  replace lno := hid lno
  have v1 : IntKind.i64.wrap ((m : Int) + (k : Int)) = (p : Int) := by rw [IntKind.wrap_i64]; omega
  have v2 : IntKind.i64.wrap ((m : Int) + 1) = (r : Int) := by rw [IntKind.wrap_i64]; omega
  have v3 : IntKind.i64.wrap ((m : Int) - 1) = (m : Int) - 1 := by rw [IntKind.wrap_i64]; omega
  have v4 : IntKind.i64.wrap ((q : Int) - 1) = (p : Int) := by rw [IntKind.wrap_i64]; omega
  have v5 : IntKind.i64.wrap ((p : Int) + 1) = (q : Int) := by rw [IntKind.wrap_i64]; omega
  have v6 : IntKind.i64.wrap ((q : Int) - 2) = (q : Int) - 2 := by rw [IntKind.wrap_i64]; omega
  have d1 : decide ((p : Int) < 31) = false := decide_eq_false (by omega)
  have d2 : decide ((m : Int) < 31) = true := decide_eq_true (by omega)
  have q0 : (0 : Int) ≤ (p : Int) := by omega
  have q00 : (p : Int) < (q : Int) := by omega
  have q01 : (m : Int) < (r : Int) := by omega
  have q02 : (0 : Int) ≤ (m : Int) := by omega
  replace hp := hid hp
  replace hq := hid hq
  replace hr := hid hr
  have k1 : (9223372036854775807 < 1 + s.length) = False := eq_false (by omega)
  have k2 : (9223372036854775807 < 1 + s.length + 2) = False := eq_false (by omega)
  have k3 : (9223372036854775807 < 1 + s.length + 2 + 5) = False := eq_false (by omega)
  have k4 : (9223372036854775807 < 1 + s.length + 2 + 5 + 1) = False := eq_false (by omega)
  have k5 : (9223372036854775807 < 1 + s.length + 2 + 5 + 1 + t.length) = False := eq_false (by omega)
  have k6 : (9223372036854775807 < 1 + s.length + 2 + 5 + 1 + t.length + 2) = False := eq_false (by omega)
  have k7 : (9223372036854775807 < 5 + s.length) = False := eq_false (by omega)
  have k8 : (9223372036854775807 < 5 + s.length + 2) = False := eq_false (by omega)
  unfold str at *
  go_enter Tryz.func7, Tryz.ntmps7
  go_wp2_with fail
  refine cA.out.mono ?_
  rintro e w1 ⟨rfl, b1⟩
  have B1 := hid b1
  clear cA b1
  go_wp2_with fail
  refine (hP.out _ B1.out).mono ?_
  rintro e w2 ⟨v2, rfl, o2, b2⟩
  obtain ⟨a2, c2, rfl⟩ := o2.sliceL hm.out
  have B2 := hid (low2 B1.out b2)
  have A2 := hid o2.isN
  clear hP b2 B1 o2
  go_wp2_with fail
  refine (hQ.out _ B2.out).mono ?_
  rintro e w3 ⟨v3, rfl, o3, b3⟩
  obtain ⟨a3, c3, rfl⟩ := o3.sliceL hk.out
  have B3 := hid (low2 B2.out b3)
  have A3 := hid (A2.out.below b3)
  have E3 := hid o3.isN
  clear hQ b3 B2 o3 A2
  go_wp2_with fail
  rw [hcat.out]
  refine (hX.out _ B3.out).mono ?_
  rintro e w4 ⟨v4, rfl, o4, b4⟩
  obtain ⟨a4, c4, rfl⟩ := o4.slice
  have B4 := hid (low2 B3.out b4)
  have A4 := hid (A3.out.below b4)
  have E4 := hid (E3.out.below b4)
  have X4 := hid o4.isN
  clear hX b4 B3 o4 A3 E3
  go_wp2_with fail
  rw [hcat2.out]
  refine (hY.out _ B4.out).mono ?_
  rintro e w5 ⟨v5, rfl, o5, b5⟩
  obtain ⟨a5, c5, rfl⟩ := o5.sliceL lno.out
  have B5 := hid (low2 B4.out b5)
  have hA := hid (A4.out.below b5)
  have hB := hid (E4.out.below b5)
  have hX := hid (X4.out.below b5)
  have hY := hid o5.isN
  clear b5 B4 o5 A4 E4 X4 k1 k2 k3 k4 k5 k6 k7 k8 hcat hcat2 q1 q2 q1n q2n
  obtain ⟨b5, f5, rfl, hc5⟩ := hY.out.at (k := m) (by have := lno.out; have := hr.out; omega)
  have hcap5 := hY.out.bound.2.1
  have hlast5 := hNF.out.last
  rw [hm.out] at hlast5
  obtain ⟨s5, ⟨n0, -, -, -, -, -, n6, -⟩, -⟩ := hc5 m _ hlast5
  simp [negNd] at n0 n6
  have hmc5 : m ≤ c5 := by have := hr.out; omega
  have cS1 := hid (fun W (hb : Below w5.heap.size w5 W) => by
    have h1 := (hY.out.below hb).part 0 m (by omega) (by have := hr.out; omega) m c5 rfl hmc5 (by have := hY.out.bound.2.2; unfold maxLen; omega)
    rw [Nat.zero_mul, Nat.add_zero, List.drop_zero, ← hm.out, hNF.out.take, hm.out] at h1
    have h2 := rsame_any h1 (hA.out.below hb)
    rw [sameN_refl] at h2
    exact h2)
  have hn0 := hid (fun W (hb : Below w5.heap.size w5 W) => (hb.cell (p := ⟨b5, f5 + m * 8, none⟩) (World.block_lt_of_cell? w5 _ n0)).trans n0)
  have hn6 := hid (fun W (hb : Below w5.heap.size w5 W) => (hb.cell (p := ⟨b5, f5 + m * 8 + 6, none⟩) (World.block_lt_of_cell? w5 _ n6)).trans n6)
  clear hc5 hlast5 hcap5 n0 n6
  go_wp2_with fail
  refine (cS1.out _ (Below.refl _ _)).mono ?_
  rintro e w6 ⟨rfl, b6⟩
  have n0 := hn0.out _ b6
  have n6 := hn6.out _ b6
  have B6 := hid (low2 B5.out b6)
  have hb6 := hid b6
  have B5' := B5
  clear b6 cS1 hn0 hn6 B5
  go_wp2
  go_ret
  exact ⟨rfl, B6.out⟩

set_option maxRecDepth 100000 in
set_option maxHeartbeats 4000000 in
theorem walk_orZ (s t : Tx) (w : World) (hE : Env w) (hs : s.length ≤ 1500) (ht : t.length ≤ 1500) (hz : (parseR s).2 = 0) (hz2 : (parseR t).2 = 0) (hh : ¬ (parseR s).1.length + 1 ≤ 31) : Calls Tryz.prog 7 #[str s, str t, .bool true] w fun e w' => e = .returned (.bool true) ∧ Below w.heap.size w w' := by
  have cA := hid (awake_any w hE)
  have q1 : decide ((1500 : Int) < (s.length : Int)) = false := decide_eq_false (by omega)
  have q2 : decide ((1500 : Int) < (t.length : Int)) = false := decide_eq_false (by omega)
  have q1n : decide (1500 < s.length) = false := decide_eq_false (by omega)
  have q2n : decide (1500 < t.length) = false := decide_eq_false (by omega)
  have hP := hid (fun W (hb : Below w.heap.size w W) => Parse_any s (hE.below hb).e (hE.below hb).o (by omega))
  have hQ := hid (fun W (hb : Below w.heap.size w W) => Parse_any t (hE.below hb).e (hE.below hb).o (by omega))
  have hpl : (pairX true s t).length ≤ 4096 := by simp [pairX, wordX]; omega
  have hnl : (negX s).length ≤ 4096 := by simp [negX]; omega
  have hX := hid (fun W (hb : Below w.heap.size w W) => Parse_any (pairX true s t) (hE.below hb).e (hE.below hb).o (by omega))
  have hY := hid (fun W (hb : Below w.heap.size w W) => Parse_any (negX s) (hE.below hb).e (hE.below hb).o (by omega))
  obtain ⟨a, b, -, -, ea, eb, sa, sb, ep⟩ := par_pair true hpl hz hz2
  obtain ⟨a', ea', en⟩ := par_neg hnl hz
  have ha' : flat 0 a' = flat 0 a := by rw [ea] at ea'; exact (Prod.mk.inj ea').1.symm
  have hsz : a'.size = a.size := by rw [← flat_len a' 0, ha', flat_len]
  have hPF := pair_facts a b true
  have hNF := neg_facts a'
  rw [ha'] at hNF
  have hbd := hid (fun x (hx : x ∈ flat 0 b) => flat_bd b 0 x hx)
  have hpa := a.pos
  have hpb := b.pos
  have hbs := sb
  rw [ea] at hh
  rw [ea] at hP
  rw [eb] at hQ
  rw [ep] at hX
  rw [en, hsz] at hY
  have la := flat_len a 0
  have lb := flat_len b 0
  rw [← la] at sa hpa hX hY
  rw [← lb] at sb hpb hX
  generalize b.size = bz at hbd hbs lb
  replace lb := hid lb
  have hcat := hid (cat_pair_or s t)
  have hcat2 := hid (cat_neg s)
  generalize pairX true s t = zp at *
  generalize negX s = zn at *
  generalize flat 0 (.bin true a b) = bo at *
  generalize flat 0 (.neg a') = no at *
  clear ea eb ep en ea' ha' hsz hz hz2 hnl hpl la
  generalize flat 0 a = na at *
  generalize flat 0 b = nb at *
  simp only at hP hQ hh
  rw [if_neg (show ¬ na.length + nb.length + 1 ≤ 31 by omega)] at hX
  rw [if_neg hh] at hY
  clear hE
  have lbo := hPF.len
  have lno := hNF.len
  generalize hm : na.length = m at *
  generalize hk : nb.length = k at *
  replace hm := hid hm
  replace hk := hid hk
  replace hPF := hid hPF
  replace hNF := hid hNF
  obtain ⟨p, hp⟩ : ∃ p, p = m + k := ⟨_, rfl⟩
  obtain ⟨q, hq⟩ : ∃ q, q = m + k + 1 := ⟨_, rfl⟩
  obtain ⟨r, hr⟩ : ∃ r, r = m + 1 := ⟨_, rfl⟩
  rw [← hq] at lbo
  rw [← hr] at lno
  replace lbo := hid lbo
  replace lno := hid lno
  have v1 : IntKind.i64.wrap ((m : Int) + (k : Int)) = (p : Int) := by rw [IntKind.wrap_i64]; omega
  have v2 : IntKind.i64.wrap ((m : Int) + 1) = (r : Int) := by rw [IntKind.wrap_i64]; omega
  have v3 : IntKind.i64.wrap ((m : Int) - 1) = (m : Int) - 1 := by rw [IntKind.wrap_i64]; omega
  have v4 : IntKind.i64.wrap ((q : Int) - 1) = (p : Int) := by rw [IntKind.wrap_i64]; omega
  have v5 : IntKind.i64.wrap ((p : Int) + 1) = (q : Int) := by rw [IntKind.wrap_i64]; omega
  have v6 : IntKind.i64.wrap ((q : Int) - 2) = (q : Int) - 2 := by rw [IntKind.wrap_i64]; omega
  have d1 : decide ((p : Int) < 31) = false := decide_eq_false (by omega)
  have d2 : decide ((m : Int) < 31) = false := decide_eq_false (by omega)
  have q0 : (0 : Int) ≤ (p : Int) := by omega
  have q00 : (p : Int) < (q : Int) := by omega
  have q01 : (m : Int) < (r : Int) := by omega
  have q02 : (0 : Int) ≤ (m : Int) := by omega
  replace hp := hid hp
  replace hq := hid hq
  replace hr := hid hr
  have k1 : (9223372036854775807 < 1 + s.length) = False := eq_false (by omega)
  have k2 : (9223372036854775807 < 1 + s.length + 2) = False := eq_false (by omega)
  have k3 : (9223372036854775807 < 1 + s.length + 2 + 4) = False := eq_false (by omega)
  have k4 : (9223372036854775807 < 1 + s.length + 2 + 4 + 1) = False := eq_false (by omega)
  have k5 : (9223372036854775807 < 1 + s.length + 2 + 4 + 1 + t.length) = False := eq_false (by omega)
  have k6 : (9223372036854775807 < 1 + s.length + 2 + 4 + 1 + t.length + 2) = False := eq_false (by omega)
  have k7 : (9223372036854775807 < 5 + s.length) = False := eq_false (by omega)
  have k8 : (9223372036854775807 < 5 + s.length + 2) = False := eq_false (by omega)
  unfold str at *
  go_enter Tryz.func7, Tryz.ntmps7
  go_wp2_with fail
  refine cA.out.mono ?_
  rintro e w1 ⟨rfl, b1⟩
  have B1 := hid b1
  clear cA b1
  go_wp2_with fail
  refine (hP.out _ B1.out).mono ?_
  rintro e w2 ⟨v2, rfl, o2, b2⟩
  obtain ⟨a2, c2, rfl⟩ := o2.sliceL hm.out
  have B2 := hid (low2 B1.out b2)
  have A2 := hid o2.isN
  clear hP b2 B1 o2
  go_wp2_with fail
  refine (hQ.out _ B2.out).mono ?_
  rintro e w3 ⟨v3, rfl, o3, b3⟩
  obtain ⟨a3, c3, rfl⟩ := o3.sliceL hk.out
  have B3 := hid (low2 B2.out b3)
  have A3 := hid (A2.out.below b3)
  have E3 := hid o3.isN
  clear hQ b3 B2 o3 A2
  go_wp2_with fail
  rw [hcat.out]
  refine (hX.out _ B3.out).mono ?_
  rintro e w4 ⟨v4, rfl, o4, b4⟩
  obtain ⟨a4, c4, rfl⟩ := o4.slice
  have B4 := hid (low2 B3.out b4)
  have A4 := hid (A3.out.below b4)
  have E4 := hid (E3.out.below b4)
  have X4 := hid o4.isN
  clear hX b4 B3 o4 A3 E3
  go_wp2_with fail
  rw [hcat2.out]
  refine (hY.out _ B4.out).mono ?_
  rintro e w5 ⟨v5, rfl, o5, b5⟩
  obtain ⟨a5, c5, rfl⟩ := o5.slice
  have B5 := hid (low2 B4.out b5)
  have hA := hid (A4.out.below b5)
  have hB := hid (E4.out.below b5)
  have hX := hid (X4.out.below b5)
  have hY := hid o5.isN
  clear b5 B4 o5 A4 E4 X4 k1 k2 k3 k4 k5 k6 k7 k8 hcat hcat2 q1 q2 q1n q2n
  go_wp2
  go_ret
  exact ⟨rfl, B5.out⟩

set_option maxRecDepth 100000 in
set_option maxHeartbeats 4000000 in
theorem walk_orN (s t : Tx) (w : World) (hE : Env w) (hs : s.length ≤ 1500) (ht : t.length ≤ 1500) (hz : (parseR s).2 = 0) (hz2 : (parseR t).2 = 0) (hg : ¬ (parseR s).1.length + (parseR t).1.length + 1 ≤ 31) (hh : (parseR s).1.length + 1 ≤ 31) : Calls Tryz.prog 7 #[str s, str t, .bool true] w fun e w' => e = .returned (.bool true) ∧ Below w.heap.size w w' := by
  have cA := hid (awake_any w hE)
  have q1 : decide ((1500 : Int) < (s.length : Int)) = false := decide_eq_false (by omega)
  have q2 : decide ((1500 : Int) < (t.length : Int)) = false := decide_eq_false (by omega)
  have q1n : decide (1500 < s.length) = false := decide_eq_false (by omega)
  have q2n : decide (1500 < t.length) = false := decide_eq_false (by omega)
  have hP := hid (fun W (hb : Below w.heap.size w W) => Parse_any s (hE.below hb).e (hE.below hb).o (by omega))
  have hQ := hid (fun W (hb : Below w.heap.size w W) => Parse_any t (hE.below hb).e (hE.below hb).o (by omega))
  have hpl : (pairX true s t).length ≤ 4096 := by simp [pairX, wordX]; omega
  have hnl : (negX s).length ≤ 4096 := by simp [negX]; omega
  have hX := hid (fun W (hb : Below w.heap.size w W) => Parse_any (pairX true s t) (hE.below hb).e (hE.below hb).o (by omega))
  have hY := hid (fun W (hb : Below w.heap.size w W) => Parse_any (negX s) (hE.below hb).e (hE.below hb).o (by omega))
  obtain ⟨a, b, -, -, ea, eb, sa, sb, ep⟩ := par_pair true hpl hz hz2
  obtain ⟨a', ea', en⟩ := par_neg hnl hz
  have ha' : flat 0 a' = flat 0 a := by rw [ea] at ea'; exact (Prod.mk.inj ea').1.symm
  have hsz : a'.size = a.size := by rw [← flat_len a' 0, ha', flat_len]
  have hPF := pair_facts a b true
  have hNF := neg_facts a'
  rw [ha'] at hNF
  have hbd := hid (fun x (hx : x ∈ flat 0 b) => flat_bd b 0 x hx)
  have hpa := a.pos
  have hpb := b.pos
  have hbs := sb
  rw [ea, eb] at hg
  rw [ea] at hh
  rw [ea] at hP
  rw [eb] at hQ
  rw [ep] at hX
  rw [en, hsz] at hY
  have la := flat_len a 0
  have lb := flat_len b 0
  rw [← la] at sa hpa hX hY
  rw [← lb] at sb hpb hX
  generalize b.size = bz at hbd hbs lb
  replace lb := hid lb
  have hcat := hid (cat_pair_or s t)
  have hcat2 := hid (cat_neg s)
  generalize pairX true s t = zp at *
  generalize negX s = zn at *
  generalize flat 0 (.bin true a b) = bo at *
  generalize flat 0 (.neg a') = no at *
  clear ea eb ep en ea' ha' hsz hz hz2 hnl hpl la
  generalize flat 0 a = na at *
  generalize flat 0 b = nb at *
  simp only at hP hQ hg hh
  rw [if_neg hg] at hX
  rw [if_pos hh] at hY
  clear hE
  have lbo := hPF.len
  have lno := hNF.len
  generalize hm : na.length = m at *
  generalize hk : nb.length = k at *
  replace hm := hid hm
  replace hk := hid hk
  replace hPF := hid hPF
  replace hNF := hid hNF
  obtain ⟨p, hp⟩ : ∃ p, p = m + k := ⟨_, rfl⟩
  obtain ⟨q, hq⟩ : ∃ q, q = m + k + 1 := ⟨_, rfl⟩
  obtain ⟨r, hr⟩ : ∃ r, r = m + 1 := ⟨_, rfl⟩
  rw [← hq] at lbo
  rw [← hr] at lno
  replace lbo := hid lbo
  replace lno := hid lno
  have v1 : IntKind.i64.wrap ((m : Int) + (k : Int)) = (p : Int) := by rw [IntKind.wrap_i64]; omega
  have v2 : IntKind.i64.wrap ((m : Int) + 1) = (r : Int) := by rw [IntKind.wrap_i64]; omega
  have v3 : IntKind.i64.wrap ((m : Int) - 1) = (m : Int) - 1 := by rw [IntKind.wrap_i64]; omega
  have v4 : IntKind.i64.wrap ((q : Int) - 1) = (p : Int) := by rw [IntKind.wrap_i64]; omega
  have v5 : IntKind.i64.wrap ((p : Int) + 1) = (q : Int) := by rw [IntKind.wrap_i64]; omega
  have v6 : IntKind.i64.wrap ((q : Int) - 2) = (q : Int) - 2 := by rw [IntKind.wrap_i64]; omega
  have d1 : decide ((p : Int) < 31) = false := decide_eq_false (by omega)
  have d2 : decide ((m : Int) < 31) = true := decide_eq_true (by omega)
  have q0 : (0 : Int) ≤ (p : Int) := by omega
  have q00 : (p : Int) < (q : Int) := by omega
  have q01 : (m : Int) < (r : Int) := by omega
  have q02 : (0 : Int) ≤ (m : Int) := by omega
  replace hp := hid hp
  replace hq := hid hq
  replace hr := hid hr
  have k1 : (9223372036854775807 < 1 + s.length) = False := eq_false (by omega)
  have k2 : (9223372036854775807 < 1 + s.length + 2) = False := eq_false (by omega)
  have k3 : (9223372036854775807 < 1 + s.length + 2 + 4) = False := eq_false (by omega)
  have k4 : (9223372036854775807 < 1 + s.length + 2 + 4 + 1) = False := eq_false (by omega)
  have k5 : (9223372036854775807 < 1 + s.length + 2 + 4 + 1 + t.length) = False := eq_false (by omega)
  have k6 : (9223372036854775807 < 1 + s.length + 2 + 4 + 1 + t.length + 2) = False := eq_false (by omega)
  have k7 : (9223372036854775807 < 5 + s.length) = False := eq_false (by omega)
  have k8 : (9223372036854775807 < 5 + s.length + 2) = False := eq_false (by omega)
  unfold str at *
  go_enter Tryz.func7, Tryz.ntmps7
  go_wp2_with fail
  refine cA.out.mono ?_
  rintro e w1 ⟨rfl, b1⟩
  have B1 := hid b1
  clear cA b1
  go_wp2_with fail
  refine (hP.out _ B1.out).mono ?_
  rintro e w2 ⟨v2, rfl, o2, b2⟩
  obtain ⟨a2, c2, rfl⟩ := o2.sliceL hm.out
  have B2 := hid (low2 B1.out b2)
  have A2 := hid o2.isN
  clear hP b2 B1 o2
  go_wp2_with fail
  refine (hQ.out _ B2.out).mono ?_
  rintro e w3 ⟨v3, rfl, o3, b3⟩
  obtain ⟨a3, c3, rfl⟩ := o3.sliceL hk.out
  have B3 := hid (low2 B2.out b3)
  have A3 := hid (A2.out.below b3)
  have E3 := hid o3.isN
  clear hQ b3 B2 o3 A2
  go_wp2_with fail
  rw [hcat.out]
  refine (hX.out _ B3.out).mono ?_
  rintro e w4 ⟨v4, rfl, o4, b4⟩
  obtain ⟨a4, c4, rfl⟩ := o4.slice
  have B4 := hid (low2 B3.out b4)
  have A4 := hid (A3.out.below b4)
  have E4 := hid (E3.out.below b4)
  have X4 := hid o4.isN
  clear hX b4 B3 o4 A3 E3
  go_wp2_with fail
  rw [hcat2.out]
  refine (hY.out _ B4.out).mono ?_
  rintro e w5 ⟨v5, rfl, o5, b5⟩
  obtain ⟨a5, c5, rfl⟩ := o5.sliceL lno.out
  have B5 := hid (low2 B4.out b5)
  have hA := hid (A4.out.below b5)
  have hB := hid (E4.out.below b5)
  have hX := hid (X4.out.below b5)
  have hY := hid o5.isN
  clear b5 B4 o5 A4 E4 X4 k1 k2 k3 k4 k5 k6 k7 k8 hcat hcat2 q1 q2 q1n q2n
  obtain ⟨b5, f5, rfl, hc5⟩ := hY.out.at (k := m) (by have := lno.out; have := hr.out; omega)
  have hcap5 := hY.out.bound.2.1
  have hlast5 := hNF.out.last
  rw [hm.out] at hlast5
  obtain ⟨s5, ⟨n0, -, -, -, -, -, n6, -⟩, -⟩ := hc5 m _ hlast5
  simp [negNd] at n0 n6
  have hmc5 : m ≤ c5 := by have := hr.out; omega
  have cS1 := hid (fun W (hb : Below w5.heap.size w5 W) => by
    have h1 := (hY.out.below hb).part 0 m (by omega) (by have := hr.out; omega) m c5 rfl hmc5 (by have := hY.out.bound.2.2; unfold maxLen; omega)
    rw [Nat.zero_mul, Nat.add_zero, List.drop_zero, ← hm.out, hNF.out.take, hm.out] at h1
    have h2 := rsame_any h1 (hA.out.below hb)
    rw [sameN_refl] at h2
    exact h2)
  have hn0 := hid (fun W (hb : Below w5.heap.size w5 W) => (hb.cell (p := ⟨b5, f5 + m * 8, none⟩) (World.block_lt_of_cell? w5 _ n0)).trans n0)
  have hn6 := hid (fun W (hb : Below w5.heap.size w5 W) => (hb.cell (p := ⟨b5, f5 + m * 8 + 6, none⟩) (World.block_lt_of_cell? w5 _ n6)).trans n6)
  clear hc5 hlast5 hcap5 n0 n6
  go_wp2_with fail
  refine (cS1.out _ (Below.refl _ _)).mono ?_
  rintro e w6 ⟨rfl, b6⟩
  have n0 := hn0.out _ b6
  have n6 := hn6.out _ b6
  have B6 := hid (low2 B5.out b6)
  have hb6 := hid b6
  have B5' := B5
  clear b6 cS1 hn0 hn6 B5
  go_wp2
  go_ret
  exact ⟨rfl, B6.out⟩

end Pairs
end Go.Proofs.YtjhodmpgggaknaaGreatDoor
