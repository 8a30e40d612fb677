/- For any slice of bytes and any number of 32 bits the law CrcWith of the program returns true and leaves the bytes as they were: bytes with their sum behind them have the sum 48674bc7, and with nothing else there. No condition. -/
import Derived.Test.YtfakplbgheljbabAwake
import Derived.Test.YtfakplbgheljbabOpen
import Derived.Test.YtfakplbgheljbabWithP
namespace Go.Proofs.Ytfakplbgheljbab.crcWith
open Go.ChangeShapes Go.WideShapes Go.ChangeAt Go.RowKit
set_option linter.unusedVariables false

theorem isB_four (w : World) (C : Array Value) (n : Int) (t : TypeId) (hC : C = ((four n).map (Value.int .u8)).toArray) : IsB (w.alloc (.cells C t)) (.slice (some ⟨w.heap.size, 0, none⟩) 4 4) (four n) :=
  isB_mark w C (four n) t (0, 0) 4 _ hC rfl rfl (by simp [four, maxLen]) (four_in n)

theorem last (s : R) : #[Value.int .u8 ((s.toNat : Int) % 256), Value.int .u8 ((s.toNat : Int) / 256 % 256), Value.int .u8 ((s.toNat : Int) / 65536 % 256), Value.int .u8 ((s.toNat : Int) / 16777216)] = ((four (s.toNat : Int)).map (Value.int .u8)).toArray := by
  have h := s.isLt
  have e : (s.toNat : Int) / 16777216 % 256 = (s.toNat : Int) / 16777216 := by omega
  simp [four, e]
theorem two_flat (a b : List Int) : [a, b].flatten = a ++ b := by simp

set_option maxHeartbeats 4000000 in
theorem walk_any (a0 : Option Addr) (la ca : Nat) (z0 : List Int) (o : R) (w : World) (h0 : IsB w (.slice a0 la ca) z0) :
    Calls Try.prog 3 #[.slice a0 la ca, .int .u32 (o.toNat : Int)] w fun e w' => e = .returned (.bool true) ∧ Below w.heap.size w w' := by
  have l0 : la ≤ ca ∧ ca ≤ maxLen := by obtain ⟨_, _, _, _, hv, h3, h4, _⟩ := h0; cases hv; omega
  unfold maxLen at l0
  obtain ⟨l00, l01⟩ := l0
  have H0 := hid h0
  clear h0
  by_cases h5 : 5000 < la
  · have h5' : (5000 : Int) < (la : Int) := by omega
    go_enter Try.func3, Try.ntmps3
    go_wp2_with (go_at_call 4; refine (awake_any _).mono ?_; rintro e w1 ⟨rfl, hb⟩)
    go_ret
    exact ⟨rfl, hb⟩
  · have h5' : ¬ (5000 : Int) < (la : Int) := by omega
    obtain ⟨s, hs⟩ : ∃ s : R, s = sum z0 := ⟨_, rfl⟩
    obtain ⟨t, ht⟩ : ∃ t : R, t = s ^^^ o := ⟨_, rfl⟩
    obtain ⟨p, hp⟩ : ∃ p : R, p = sum (z0 ++ four (s.toNat : Int)) := ⟨_, rfl⟩
    obtain ⟨q, hq⟩ : ∃ q : R, q = sum (z0 ++ four (t.toNat : Int)) := ⟨_, rfl⟩
    have t1 : ((p.toNat : Int) == 1214729159) = true := by rw [hp, hs, with_right]; rfl
    have t2 : (((q.toNat : Int) == (p.toNat : Int)) == ((o.toNat : Int) == 0)) = true := by
      have h1 : ((q.toNat : Int) == (p.toNat : Int)) = ((o.toNat : Int) == 0) := by
        rw [hp, hq, ht, hs, with_right, with_other, Bool.eq_iff_iff]
        have := other_iff o
        simp only [beq_iff_eq]
        constructor
        · intro h
          have h2 := this.1 (BitVec.eq_of_toNat_eq (by omega))
          rw [h2]; rfl
        · intro h
          have h2 : o = 0#32 := BitVec.eq_of_toNat_eq (by simpa using h)
          rw [this.2 h2]
      rw [h1]; simp
    have HS := hid hs
    have HT := hid ht
    have HP := hid hp
    have HQ := hid hq
    clear hs ht hp hq
    have hs32 := s.isLt
    have ht32 := t.isLt
    go_enter Try.func3, Try.ntmps3
    go_wp2_with fail
    refine (awake_any _).mono ?_
    rintro e w1 ⟨rfl, hb⟩
    have H1 := hid (H0.out.below hb)
    go_wp2_with fail
    refine (sum_any _ _ _ H1.out).mono ?_
    rintro e w2 ⟨he, hb2⟩
    rw [← HS.out] at he
    subst he
    have B2 : Below w.heap.size w w2 := hb.trans (hb2.mono hb.size)
    clear hb hb2 H1
    have H2 := hid (H0.out.below B2)
    go_wp2_with fail
    refine (of_any _ [z0, four (s.toNat : Int)] _ (isP_two _ _ (by simp) (H2.out.below ((Below.refl _ _).alloc (Nat.le_refl _) _)) (isB_four _ _ _ _ (last s)))).mono ?_
    rintro e w3 ⟨he, h3⟩
    rw [two_flat, ← HP.out] at he
    subst he
    have B3 : Below w.heap.size w w3 := by rw [h3]; exact (B2.alloc B2.size _).alloc (by have := B2.size; simp; omega) _
    clear h3 B2 H2
    have H3 := hid (H0.out.below B3)
    rw [bx, ← HT.out]
    go_wp2_with fail
    refine (of_any _ [z0, four (t.toNat : Int)] _ (isP_two _ _ (by simp) (H3.out.below ((Below.refl _ _).alloc (Nat.le_refl _) _)) (isB_four _ _ _ _ (last t)))).mono ?_
    rintro e w4 ⟨he, h4⟩
    rw [two_flat, ← HQ.out] at he
    subst he
    have B4 : Below w.heap.size w w4 := by rw [h4]; exact (B3.alloc B3.size _).alloc (by have := B3.size; simp; omega) _
    clear h4 B3 H3
    go_wp2_with fail
    go_ret
    exact ⟨rfl, B4⟩

theorem walk (v0 : Value) (z0 : List Int) (o : R) (w : World) (h0 : IsB w v0 z0) :
    Calls Try.prog 3 #[v0, .int .u32 (o.toNat : Int)] w fun e w' => e = .returned (.bool true) ∧ Below w.heap.size w w' := by
  obtain ⟨a0, ca, rfl⟩ : ∃ a cap, v0 = .slice a z0.length cap := by obtain ⟨_, _, a, cap, h, _⟩ := h0; exact ⟨a, cap, h⟩
  exact walk_any a0 _ ca z0 o w h0

theorem own : ownKnob Try.prog.godebug = none := by kernel_rfl
theorem laidOut : laidOutB Try.prog = true := by kernel_rfl

set_option maxRecDepth 100000 in
theorem lifted (os : Os) (started : os.Started) (H : Type) (enc : TypeId × Value → H) :
    ReturnsInHanded {} Try.checked os 3 .any (Rows.crcWithSpec.pre6 enc Try.prog Try.f3 Rows.crcWithRow.domain false) (Rows.crcWithSpec.post enc Try.prog Try.f3 false true false false) := by
  refine returnsInHanded_of_change (C := Try.checked) own started (by kernel_rfl) Try.func3
    (ChangeSpec.witness6 (enc := enc) (C := Try.checked) false ⟨#[], #[.slice none 0 0, .int .u32 0], []⟩ 8 (by kernel_rfl) (by kernel_rfl) (by kernel_rfl) (by kernel_rfl)) ?_
  intro W base args ds gs before hval0 hW hcnd _
  have hval : ∀ (j : Nat) t v, Try.f3.params[j]? = some t → args[j]? = some v → Value.okWide Try.prog W .any base t v := hval0
  have hW' := hW
  obtain ⟨p, q, hA0, hV, rfl, hfz, hnd⟩ := hW
  have hA : DataW.TrodAll enc Try.prog W 0 (fun _ => true) true Try.f3.params.toList args.toList ds p := hA0
  rw [Try.params3] at hA hval
  obtain ⟨v0, vs0, d0, ds0, p0, q0, hargs, rfl, rfl, h0, r0⟩ := trodAll_cons hA
  obtain ⟨v1, vs1, d1, ds1, p1, q1, rfl, rfl, rfl, h1, r1⟩ := trodAll_cons r0
  obtain ⟨rfl, rfl, rfl⟩ := trodAll_nil r1
  obtain rfl : args = #[v0, v1] := by cases args; simp_all
  obtain ⟨rfl, rfl⟩ := trodVars_none hV
  have k0 := h0
  have lt0 : ∀ x ∈ p0, x.block < W.heap.size := by obtain ⟨m, hm⟩ := k0; exact DataW.trod_lt m _ _ _ hm
  obtain ⟨z0, w0⟩ := open_bytes Try.underlying22 Try.underlying5 (by kernel_rfl) (hval 0 22 v0 rfl rfl) h0
  obtain ⟨a1, rfl, rfl, rfl, w1⟩ := open_int Try.underlying23 (hval 1 23 v1 rfl rfl) h1
  obtain ⟨x1, rfl⟩ := open_u32 a1 w1
  clear hA0 hval0
  refine (walk v0 z0 x1 W w0).mono fun e W' ⟨he, bel⟩ => ?_
  subst he
  exact ⟨_, rfl, _, _, _, [], _, [], hW', trodAll_mk1 (shut_bool Try.underlying4 _), (trodAll_cons_mk (Below.trod laidOut (by kernel_rfl) (of_decide_eq_true (by kernel_rfl)) k0 bel lt0) (trodAll_cons_mk (shut_int Try.underlying23 w1) trodAll_mk0)), rfl, bel.frame _, fun h => by cases h⟩

theorem over : Rows.crcWithRow.holds Try.pinned (OpenSpec.ofChange Rows.crcWithSpec) :=
  OpenClaim.holds_of_wide 3 Try.f3 rfl rfl rfl rfl rfl rfl rfl ⟨rfl, rfl, rfl, rfl, rfl⟩ rfl rfl rfl rfl rfl (by kernel_rfl) Try.func3 (by kernel_rfl)
    (of_decide_eq_true (by kernel_rfl)) (by unfold Func.isWrapper; first | (rw [if_pos (by decide +kernel)]; kernel_rfl) | (rw [if_neg (by decide +kernel)]; exact ⟨rfl, rfl⟩))
    (fun os started H enc _ => lifted os started H enc)

theorem proved : Rows.CrcWithSaid := over
#print axioms proved

end Go.Proofs.Ytfakplbgheljbab.crcWith
