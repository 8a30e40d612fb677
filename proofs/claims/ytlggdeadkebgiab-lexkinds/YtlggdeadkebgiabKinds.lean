/- For any number and any bytes the law LexKinds of the program returns true: a word, digits, a sign, a text in quotes, alone, is one token of its kind. No condition. -/
import Derived.Test.YtlggdeadkebgiabKp
namespace Go.Proofs.Ytlggdeadkebgiab.lexKinds
open Go.ChangeShapes Go.WideShapes Go.ChangeAt Go.RowKit
set_option linter.unusedVariables false

theorem pow_lt {x k : Nat} (h : x * 10 ^ k < 18446744073709551616) (hx : 0 < x) : k ≤ 19 := by
  rcases Nat.lt_or_ge k 20 with h1 | h1
  · omega
  · have h2 : 10 ^ 20 ≤ 10 ^ k := Nat.pow_le_pow_right (by decide) h1
    have h3 : 1 * 10 ^ k ≤ x * 10 ^ k := Nat.mul_le_mul_right _ hx
    have h4 : (10 : Nat) ^ 20 = 100000000000000000000 := by decide
    omega
theorem pow_next {x k n : Nat} (h : x * 10 ^ k ≤ n) : x / 10 * 10 ^ (k + 1) ≤ n := by
  have h1 : x / 10 * 10 ≤ x := Nat.div_mul_le_self x 10
  rw [Nat.pow_succ, Nat.mul_comm (10 ^ k) 10, ← Nat.mul_assoc]
  exact Nat.le_trans (Nat.mul_le_mul_right _ h1) h
def emptyText : Value → Nat
  | .string s => if s.size = 0 then 1 else 0
  | _ => 0
set_option maxRecDepth 100000 in
set_option maxHeartbeats 4000000 in
theorem walk (n : Int) (v1 : Value) (z : List Int) (w : World) (h0 : (Lit.int .u64 n).wf = true) (h1 : IsB w v1 z) :
    Calls Try.prog 3 #[.int .u64 n, v1] w fun e w' => e = .returned (.bool true) ∧ Below w.heap.size w w' := by
  have hn := wf_u64 h0
  clear h0
  obtain ⟨a1, c1, rfl⟩ := h1.slice
  go_enter Try.func3, Try.ntmps3
  go_wp2_with fail
  refine (awake_any w).mono ?_
  rintro e w0 ⟨rfl, b0⟩
  have H1 := hid (h1.below b0)
  have B0 := hid b0
  clear b0 h1
  go_wp2
  go_loopw [5, 6] (fun sv xv wr => ∃ (ds : Tx) (x : Int), sv = .string ⟨ds.toArray⟩ ∧ xv = .int .u64 x ∧ 0 ≤ x ∧ x < 18446744073709551616 ∧ Hid (x.toNat * 10 ^ ds.length ≤ n.toNat) ∧ ds.length ≤ 20 ∧ Hid (AllD ds) ∧ Hid (Below w0.heap.size w0 wr)) (fun sv xv _ => (intOf xv).toNat + emptyText sv)
  case atStart => exact ⟨[], n, rfl, rfl, hn.1, hn.2, by unfold Hid; simp, by simp, (fun c hc => by cases hc), Below.refl _ _⟩
  case round =>
    obtain ⟨ds, x, rfl, rfl, x0, x1, hx, hl, hd, hB⟩ := hrel
    obtain ⟨V, rfl⟩ : ∃ V : World, V = wr := ⟨_, rfl⟩
    have hconv := conv_dgt V (x % 10) (by omega) (by omega)
    by_cases hgo : 0 < x ∨ ds = []
    · have hx2 : Hid ((x / 10).toNat * 10 ^ (dgt (x % 10) :: ds).length ≤ n.toNat) := by
        unfold Hid
        rw [List.length_cons, show (x / 10).toNat = x.toNat / 10 by omega]
        exact pow_next hx.out
      have hl2 : (dgt (x % 10) :: ds).length ≤ 20 := by
        rw [List.length_cons]
        rcases hgo with h | h
        · have := pow_lt (Nat.lt_of_le_of_lt hx.out (by omega)) (show 0 < x.toNat by omega)
          omega
        · rw [h]; simp
      have hd2 : Hid (AllD (dgt (x % 10) :: ds)) := fun c hc => by
        rcases List.mem_cons.1 hc with rfl | hc
        · exact dgt_dig (by omega) (by omega)
        · exact hd.out c hc
      have hB2 := hid (low' hB.out (alloc_below V (.cells #[.int .u8 (48 + x % 10)] 5)))
      have k1 : (9223372036854775807 < 1 + ds.length) = False := eq_false (by omega)
      have k1' : (9223372036854775807 < ds.length + 1) = False := eq_false (by omega)
      have hcat : (⟨([dgt (x % 10)] : Tx).toArray⟩ : ByteArray) ++ ⟨ds.toArray⟩ = ⟨(dgt (x % 10) :: ds : Tx).toArray⟩ := app_str _ _
      clear hx hd hB
      by_cases hu : 0 < x
      · clear hgo
        generalize hdd : dgt (x % 10) = dd at *
        replace hdd := hid hdd
        go_wp2
        go_roundw
        case rel => exact ⟨dd :: ds, x / 10, rfl, rfl, by omega, by omega, hx2, hl2, hd2, hB2.out⟩
        case measure =>
          simp [intOf, emptyText, ByteArray.size]; omega
      · have hl0 : ds = [] := by
          rcases hgo with h | h
          · exact absurd h hu
          · exact h
        subst hl0
        clear hgo
        generalize hdd : dgt (x % 10) = dd at *
        replace hdd := hid hdd
        have hcat0 : (⟨#[dd]⟩ : ByteArray) ++ ⟨#[]⟩ = ⟨#[dd]⟩ := hcat
        go_wp2
        go_roundw
        case rel => exact ⟨[dd], x / 10, rfl, rfl, by omega, by omega, hx2, hl2, hd2, hB2.out⟩
        case measure =>
          simp [intOf, emptyText, ByteArray.size]; omega
    · have hl0 : ds ≠ [] := fun h => hgo (.inr h)
      have hu : ¬ 0 < x := fun h => hgo (.inl h)
      have hu0 : x = 0 := by omega
      subst hu0
      have hemp : ds.isEmpty = false := by simpa using hl0
      clear hgo hconv hx
      go_wp2_with fail
      refine (all_ok ds V (sc_digits hl0 hd.out) (by omega)).mono ?_
      rintro e w1 ⟨a3, c3, rfl, o3, b3⟩
      obtain ⟨g3, rfl, hg3, k3⟩ := o3.cells (by simp)
      obtain ⟨p1, p2, p3⟩ := k3 0 _ rfl
      simp at p1 p2 p3
      have B3 := hid (low' hB.out b3)
      have B4 := hid (B0.out.trans (B3.out.mono B0.out.size))
      replace H1 := hid (H1.out.below B3.out)
      clear o3 b3 k3 hB B0 B3
      simp only [List.length_cons, List.length_nil, Nat.reduceAdd]
      have hzl : z.length ≤ 9223372036854775807 := by have := H1.out.1; unfold maxLen at this; exact this
      by_cases hz1 : z.length < 1
      · have t1 : decide ((z.length : Int) < 1) = true := by simp; omega
        go_wp2
        go_ret
        exact ⟨rfl, B4.out⟩
      have t1 : decide ((z.length : Int) < 1) = false := by simp; omega
      have t1' : z.isEmpty = false := by cases z <;> simp_all
      by_cases hz2 : 20 < z.length
      · have t2 : decide ((20 : Int) < (z.length : Int)) = true := by simp; omega
        have t2' : decide (20 < z.length) = true := by simp; omega
        go_wp2
        go_ret
        exact ⟨rfl, B4.out⟩
      have t2 : decide ((20 : Int) < (z.length : Int)) = false := by simp; omega
      have t2' : decide (20 < z.length) = false := by simp; omega
      have L0 := hid hl0
      clear hl0 hemp
      go_wp2
      go_loopw [10, 11] (fun sv iv wr => ∃ (l : Tx) (i : Nat), sv = .string ⟨l.toArray⟩ ∧ iv = .int .i64 (i : Int) ∧ i ≤ z.length ∧ Hid (l.length = i) ∧ Hid (AllL l) ∧ Hid (Below w1.heap.size w1 wr)) (fun _ iv _ => z.length - (intOf iv).toNat)
      case atStart => exact ⟨[], 0, rfl, rfl, by omega, rfl, (fun c hc => by cases hc), Below.refl _ _⟩
      case round =>
        obtain ⟨l, i, rfl, rfl, hi, hli, hal, hB⟩ := hrel
        obtain ⟨V2, rfl⟩ : ∃ V : World, V = wr := ⟨_, rfl⟩
        by_cases hlt : i < z.length
        · have hlt' : (i : Int) < (z.length : Int) := by omega
          obtain ⟨-, _, _, hat⟩ := (H1.out.below hB.out).at
          obtain ⟨g1, off, rfl, hcell⟩ := hat (by omega)
          have hc := hcell i hlt
          have hby := H1.out.byt.getD i hlt
          generalize hy : z.getD i 0 = y at *
          replace hy := hid hy
          clear hat hcell
          have hconv := conv_ltr V2 (y % 26) (by omega) (by omega)
          have hB2 := hid (low' hB.out (alloc_below V2 (.cells #[.int .u8 (97 + y % 26)] 5)))
          have hal2 : Hid (AllL (l ++ [ltr (y % 26)])) := fun c hc => by
            rcases List.mem_append.1 hc with hc | hc
            · exact hal.out c hc
            · simp at hc; subst hc; exact ltr_low (by omega) (by omega)
          have hli2 : Hid ((l ++ [ltr (y % 26)]).length = i + 1) := by unfold Hid; rw [List.length_append, hli.out]; rfl
          have hcat : (⟨l.toArray⟩ : ByteArray) ++ ⟨([ltr (y % 26)] : Tx).toArray⟩ = ⟨(l ++ [ltr (y % 26)] : Tx).toArray⟩ := app_str _ _
          have k1 : (9223372036854775807 < l.length + 1) = False := eq_false (by have := hli.out; omega)
          clear hal hli hB
          generalize hdd : ltr (y % 26) = dd at *
          replace hdd := hid hdd
          go_wp2
          exact ⟨⟨l ++ [dd], i + 1, rfl, by go_num, by omega, hli2, hal2, hB2.out⟩, by simp [intOf]; omega⟩
        · have hlt' : ¬ (i : Int) < (z.length : Int) := by omega
          obtain rfl : i = z.length := by omega
          have hll : l.length ≤ 20 := by have := hli.out; omega
          have hl0 : l ≠ [] := fun e => by have := hli.out; rw [e] at this; simp at this; omega
          have hscw := hid (fun w => all_ok (l ++ ds) w (sc_word hl0 hal.out hd.out) (by simp; omega))
          have hsct := hid (fun w => all_ok (34 :: (l ++ 32 :: (ds ++ [34]))) w (sc_text hal.out hd.out) (by simp; omega))
          have B5 := hid (B4.out.trans (hB.out.mono B4.out.size))
          have k1 : (9223372036854775807 < l.length + ds.length) = False := eq_false (by omega)
          have k2 : (9223372036854775807 < 1 + l.length) = False := eq_false (by omega)
          have k2' : (9223372036854775807 < l.length + 1) = False := eq_false (by omega)
          have k3 : (9223372036854775807 < 1 + l.length + 1) = False := eq_false (by omega)
          have k3' : (9223372036854775807 < l.length + 1 + 1) = False := eq_false (by omega)
          have k4 : (9223372036854775807 < 1 + l.length + 1 + ds.length) = False := eq_false (by omega)
          have k4' : (9223372036854775807 < l.length + 1 + 1 + ds.length) = False := eq_false (by omega)
          have k5 : (9223372036854775807 < 1 + l.length + 1 + ds.length + 1) = False := eq_false (by omega)
          have k5' : (9223372036854775807 < l.length + 1 + 1 + ds.length + 1) = False := eq_false (by omega)
          have k6 : (9223372036854775807 < l.length + 1 + ds.length) = False := eq_false (by omega)
          have hc1 : (⟨l.toArray⟩ : ByteArray) ++ ⟨ds.toArray⟩ = ⟨(l ++ ds : Tx).toArray⟩ := app_str _ _
          have hc2 : (⟨#[34]⟩ : ByteArray) ++ ⟨l.toArray⟩ ++ ⟨#[32]⟩ ++ ⟨ds.toArray⟩ ++ ⟨#[34]⟩ = ⟨(34 :: (l ++ 32 :: (ds ++ [34])) : Tx).toArray⟩ := by
            rw [show (⟨#[34]⟩ : ByteArray) = ⟨([34] : Tx).toArray⟩ from rfl, show (⟨#[32]⟩ : ByteArray) = ⟨([32] : Tx).toArray⟩ from rfl, app_str, app_str, app_str, app_str]
            simp
          have hc3 : (⟨l.toArray⟩ : ByteArray) ++ ⟨#[32]⟩ ++ ⟨ds.toArray⟩ = ⟨(l ++ 32 :: ds : Tx).toArray⟩ := by
            rw [show (⟨#[32]⟩ : ByteArray) = ⟨([32] : Tx).toArray⟩ from rfl, app_str, app_str]
            simp
          unfold str at hscw hsct
          clear hli hal hB B4 hd H1 L0 hl0
          generalize (34 :: (l ++ 32 :: (ds ++ [34])) : Tx) = T1 at *
          generalize (l ++ 32 :: ds : Tx) = T2 at *
          generalize (l ++ ds : Tx) = T3 at *
          go_wp2_with fail
          refine (hscw.out _).mono ?_
          rintro e w2 ⟨a5, c5, rfl, o5, b5⟩
          have B6 := hid (low' B5.out b5)
          have O5 := hid (o5.base (B' := 0) (by omega))
          clear o5 b5 hscw B5
          go_wp2_with fail
          refine (hsct.out _).mono ?_
          rintro e w3 ⟨a6, c6, rfl, o6, b6⟩
          obtain ⟨g5, rfl, hg5, k9⟩ := (O5.out.below b6).cells (by simp)
          obtain ⟨q1, q2, q3⟩ := k9 0 _ rfl
          obtain ⟨g6, rfl, hg6, k8⟩ := o6.cells (by simp)
          obtain ⟨r1, r2, r3⟩ := k8 0 _ rfl
          have B7 := hid (low' B6.out b6)
          clear k9 k8 o6 b6 O5 B6 hsct
          simp at q1 q2 q3 r1 r2 r3
          simp only [List.length_cons, List.length_nil, Nat.reduceAdd]
          go_wp2
          go_ret
          exact ⟨rfl, B7.out⟩

theorem own : ownKnob Try.prog.godebug = none := by kernel_rfl
theorem laidOut : laidOutB Try.prog = true := by kernel_rfl

set_option maxRecDepth 100000 in
theorem lifted (os : Os) (started : os.Started) (H : Type) (enc : TypeId × Value → H) :
    ReturnsInHanded {} Try.checked os 3 .any (Rows.lexKindsSpec.pre6 enc Try.prog Try.f3 Rows.lexKindsRow.domain false) (Rows.lexKindsSpec.post enc Try.prog Try.f3 false true false false) := by
  refine returnsInHanded_of_change (C := Try.checked) own started (by kernel_rfl) Try.func3
    (ChangeSpec.witness6 (enc := enc) (C := Try.checked) false ⟨#[], #[.int .u64 0, .slice none 0 0], []⟩ 8 (by kernel_rfl) (by kernel_rfl) (by kernel_rfl) (by kernel_rfl)) ?_
  intro W base args ds gs before hval0 hW hcnd _
  have hval : ∀ (j : Nat) t v, Try.f3.params[j]? = some t → args[j]? = some v → Value.okWide Try.prog W .any base t v := hval0
  have hW' := hW
  obtain ⟨p, q, hA0, hV, rfl, hfz, hnd⟩ := hW
  have hA : DataW.TrodAll enc Try.prog W 0 (fun _ => true) true Try.f3.params.toList args.toList ds p := hA0
  rw [Try.params3] at hA hval
  obtain ⟨v0, vs0, d0, ds0, p0, q0, hargs, rfl, rfl, h0, r0⟩ := trodAll_cons hA
  obtain ⟨v1, vs1, d1, ds1, p1, q1, rfl, rfl, rfl, h1, r1⟩ := trodAll_cons r0
  obtain ⟨rfl, rfl, rfl⟩ := trodAll_nil r1
  obtain rfl : args = #[v0, v1] := by cases args; simp_all
  obtain ⟨rfl, rfl⟩ := trodVars_none hV
  obtain ⟨a0, rfl, rfl, rfl, w0⟩ := open_int Try.underlying22 (hval 0 22 v0 rfl rfl) h0
  have k1 := h1
  have lt1 : ∀ x ∈ p1, x.block < W.heap.size := by obtain ⟨m, hm⟩ := k1; exact DataW.trod_lt m _ _ _ hm
  obtain ⟨z1, w1⟩ := open_bytes Try.underlying23 Try.underlying5 (by kernel_rfl) (hval 1 23 v1 rfl rfl) h1
  clear hA0 hval0
  refine (walk a0 v1 z1 W w0 w1).mono fun e W' ⟨he, bel⟩ => ?_
  subst he
  exact ⟨_, rfl, _, _, _, [], _, [], hW', trodAll_mk1 (shut_bool Try.underlying4 _), (trodAll_cons_mk (shut_int Try.underlying22 w0) (trodAll_cons_mk (Below.trod laidOut (by kernel_rfl) (of_decide_eq_true (by kernel_rfl)) k1 bel lt1) trodAll_mk0)), rfl, bel.frame _, fun h => by cases h⟩

theorem over : Rows.lexKindsRow.holds Try.pinned (OpenSpec.ofChange Rows.lexKindsSpec) :=
  OpenClaim.holds_of_wide 3 Try.f3 rfl rfl rfl rfl rfl rfl rfl ⟨rfl, rfl, rfl, rfl, rfl⟩ rfl rfl rfl rfl rfl (by kernel_rfl) Try.func3 (by kernel_rfl)
    (of_decide_eq_true (by kernel_rfl)) (by unfold Func.isWrapper; first | (rw [if_pos (by decide +kernel)]; kernel_rfl) | (rw [if_neg (by decide +kernel)]; exact ⟨rfl, rfl⟩))
    (fun os started H enc _ => lifted os started H enc)

theorem proved : Rows.LexKindsSaid := over
#print axioms proved

end Go.Proofs.Ytlggdeadkebgiab.lexKinds
