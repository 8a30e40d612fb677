/- For any two slices of bytes the law CrcTurned of the program returns true and leaves them as they were: what the first bytes of both leave in one order, and in the other, differs by their difference, joined with itself. No condition. -/
import Derived.Test.YtfakplbgheljbaaAwake
import Derived.Test.YtfakplbgheljbaaOpen
import Derived.Deep.RegionHeld3
namespace Go.Proofs.Ytfakplbgheljbaa.crcTurned
open Go.ChangeShapes Go.WideShapes Go.ChangeAt Go.RowKit
set_option linter.unusedVariables false

theorem isB_take {w : World} {a : Option Addr} {len cap : Nat} {zs : List Int} (h : IsB w (.slice a len cap) zs) (n : Nat) (hn : n ≤ zs.length) : IsB w (.slice a n cap) (zs.take n) := by
  obtain ⟨h1, h2, a', cap', hv, h3, h4, h5⟩ := h
  cases hv
  have hl : (zs.take n).length = n := by simp; omega
  refine ⟨by omega, fun z hz => h2 z (List.mem_of_mem_take hz), a, cap, by rw [hl], by omega, h4, ?_⟩
  rcases h5 with rfl | ⟨b, off, rfl, hc⟩
  · left; simp
  · right
    refine ⟨b, off, rfl, fun i hi => ?_⟩
    rw [hl] at hi
    rw [getD_take zs n i hi]
    exact hc i (by omega)

/-- what stays while the last two lines are gone through. -/
def Kp (W : World) (va vb : Value) (za zb : List Int) (w : World) : Prop := IsB w va za ∧ IsB w vb zb ∧ Below W.heap.size W w
theorem Kp.on {W w w' : World} {va vb : Value} {za zb : List Int} (h : Kp W va vb za zb w) (hb : Below w.heap.size w w') : Kp W va vb za zb w' :=
  ⟨h.1.below hb, h.2.1.below hb, h.2.2.trans (hb.mono h.2.2.size)⟩
theorem Kp.drew {W w : World} {va vb : Value} {za zb : List Int} (h : Kp W va vb za zb w) : Kp W va vb za zb w.drew := h.on (Below.refl _ _).drew
theorem Kp.alloc {W w : World} {va vb : Value} {za zb : List Int} (h : Kp W va vb za zb w) (o : Obj) : Kp W va vb za zb (w.alloc o) := h.on ((Below.refl _ _).alloc (Nat.le_refl _) o)
theorem Kp.bel {W w : World} {va vb : Value} {za zb : List Int} (h : Kp W va vb za zb w) : Below W.heap.size W w := h.2.2
theorem sumA {W : World} {va vb : Value} {za zb : List Int} (w : World) (h : Kp W va vb za zb w) :
    Calls Try.prog 13 #[va] w fun e w' => e = .returned (.int .u32 ((sum za).toNat : Int)) ∧ Kp W va vb za zb w' :=
  (sum_any va za w h.1).mono fun e w' ⟨h1, h2⟩ => ⟨h1, h.on h2⟩
theorem sumB {W : World} {va vb : Value} {za zb : List Int} (w : World) (h : Kp W va vb za zb w) :
    Calls Try.prog 13 #[vb] w fun e w' => e = .returned (.int .u32 ((sum zb).toNat : Int)) ∧ Kp W va vb za zb w' :=
  (sum_any vb zb w h.2.1).mono fun e w' ⟨h1, h2⟩ => ⟨h1, h.on h2⟩
theorem isP_two_at {w : World} {v v' : Value} {zs zs' : List Int} (g : Nat) (h : IsB w v zs) (h' : IsB w v' zs') (h0 : w.cell? ⟨g, 0, none⟩ = some v) (h1 : w.cell? ⟨g, 1, none⟩ = some v') : IsP w (.slice (some ⟨g, 0, none⟩) 2 2) [zs, zs'] := by
  refine ⟨by simp [maxLen], _, _, rfl, .inr ⟨_, _, rfl, fun i hi => ?_⟩⟩
  match i, hi with
  | 0, _ => exact ⟨_, h0, h⟩
  | 1, _ => exact ⟨_, h1, h'⟩
theorem ofAB {W : World} {va vb : Value} {za zb : List Int} (g : Nat) (w : World) (h : Kp W va vb za zb w) (h0 : w.cell? ⟨g, 0, none⟩ = some va) (h1 : w.cell? ⟨g, 1, none⟩ = some vb) :
    Calls Try.prog 12 #[.slice (some ⟨g, 0, none⟩) 2 2] w fun e w' => e = .returned (.int .u32 ((sum (za ++ zb)).toNat : Int)) ∧ w' = w :=
  (of_any _ _ w (isP_two_at g h.1 h.2.1 h0 h1)).mono fun e w' ⟨h1, h2⟩ => ⟨by simpa using h1, h2⟩
theorem ofBA {W : World} {va vb : Value} {za zb : List Int} (g : Nat) (w : World) (h : Kp W va vb za zb w) (h0 : w.cell? ⟨g, 0, none⟩ = some vb) (h1 : w.cell? ⟨g, 1, none⟩ = some va) :
    Calls Try.prog 12 #[.slice (some ⟨g, 0, none⟩) 2 2] w fun e w' => e = .returned (.int .u32 ((sum (zb ++ za)).toNat : Int)) ∧ w' = w :=
  (of_any _ _ w (isP_two_at g h.2.1 h.1 h0 h1)).mono fun e w' ⟨h1, h2⟩ => ⟨by simpa using h1, h2⟩
theorem turned (a b : List Int) (n : Nat) (ha : a.length = n) (hb : b.length = n) : sum (a ++ b) ^^^ sum (b ++ a) = txn (8 * n) (sum a ^^^ sum b) ^^^ (sum a ^^^ sum b) := by
  rw [sum_append, sum_append, ha, hb, txn_xor]; ac_rfl

set_option maxHeartbeats 4000000 in
theorem walk_any (a0 a1 : Option Addr) (la lb ca cb : Nat) (z0 z1 : List Int) (w : World) (h0 : IsB w (.slice a0 la ca) z0) (h1 : IsB w (.slice a1 lb cb) z1) (e0 : la = z0.length) (e1 : lb = z1.length) :
    Calls Try.prog 6 #[.slice a0 la ca, .slice a1 lb cb] w fun e w' => e = .returned (.bool true) ∧ Below w.heap.size w w' := by
  have l0 : la ≤ ca ∧ ca ≤ maxLen := by obtain ⟨_, _, _, _, hv, h3, h4, _⟩ := h0; cases hv; omega
  have l1 : lb ≤ cb ∧ cb ≤ maxLen := by obtain ⟨_, _, _, _, hv, h3, h4, _⟩ := h1; cases hv; omega
  unfold maxLen at l0 l1
  obtain ⟨l00, l01⟩ := l0
  obtain ⟨l10, l11⟩ := l1
  have H0 := hid h0
  have H1 := hid h1
  have E0 := hid e0
  have E1 := hid e1
  clear h0 h1 e0 e1
  obtain ⟨n, hn, hna, hnb⟩ : ∃ n : Nat, (if lb < la then lb else la) = n ∧ n ≤ la ∧ n ≤ lb := ⟨_, rfl, by split <;> omega, by split <;> omega⟩
  have i0 : (n : Int) ≤ (ca : Int) := by omega
  have i1 : (n : Int) ≤ (cb : Int) := by omega
  have i2 : (0 : Int) ≤ (n : Int) := by omega
  by_cases hlt : lb < la
  · rw [if_pos hlt] at hn
    subst hn
    have hlt' : (lb : Int) < (la : Int) := by omega
    by_cases h5 : 5000 < lb
    · have h5' : (5000 : Int) < (lb : Int) := by omega
      go_enter Try.func6, Try.ntmps6
      go_wp2_with (go_at_call 16; refine (awake_any _).mono ?_; rintro e w1 ⟨rfl, hb⟩)
      go_ret
      exact ⟨rfl, hb⟩
    · have h5' : ¬ (5000 : Int) < (lb : Int) := by omega
      have ht := turned (z0.take lb) (z1.take lb) lb (by have := E0.out; simp; omega) (by have := E1.out; simp; omega)
      obtain ⟨p, hp⟩ : ∃ x, x = sum (z0.take lb ++ z1.take lb) := ⟨_, rfl⟩
      obtain ⟨q, hq⟩ : ∃ x, x = sum (z1.take lb ++ z0.take lb) := ⟨_, rfl⟩
      obtain ⟨d, hd⟩ : ∃ x, x = sum (z0.take lb) ^^^ sum (z1.take lb) := ⟨_, rfl⟩
      obtain ⟨j, hj⟩ : ∃ x, x = txn (8 * lb) d ^^^ d := ⟨_, rfl⟩
      have t : (bits .xor .u32 (p.toNat : Int) (q.toNat : Int) == (j.toNat : Int)) = true := by
        rw [bx, hj, hd, hp, hq, ht]; simp
      have HP := hid hp
      have HQ := hid hq
      have HD := hid hd
      have HJ := hid hj
      clear hp hq hd hj ht
      go_enter Try.func6, Try.ntmps6
      go_wp2_with (go_at_call 16; refine (awake_any _).mono ?_; rintro e w1 ⟨rfl, hb⟩)
      have K1 : Kp w (.slice a0 lb ca) (.slice a1 lb cb) (z0.take lb) (z1.take lb) w1 := ⟨isB_take (H0.out.below hb) _ (by have := E0.out; omega), isB_take (H1.out.below hb) _ (by have := E1.out; omega), hb⟩
      clear hb H0 H1
      go_region_held3 (fun w' => Kp w (.slice a0 lb ca) (.slice a1 lb cb) (z0.take lb) (z1.take lb) w') (repeat (first | assumption | apply Kp.drew | apply Kp.alloc))
        (first | (go_at_call_of 13 (Value.slice a0 lb ca); refine (sumA _ (by assumption)).mono ?_; rintro e w2 ⟨rfl, K2⟩) | (go_at_call_of 13 (Value.slice a1 lb cb); refine (sumB _ (by assumption)).mono ?_; rintro e w2 ⟨rfl, K2⟩))
      rw [bx, ← HD.out]
      go_wp2_with fail
      go_region_held3 (fun w' => Kp w (.slice a0 lb ca) (.slice a1 lb cb) (z0.take lb) (z1.take lb) w') (repeat (first | assumption | apply Kp.drew | apply Kp.alloc))
        (first | (go_at_call 12; refine (ofAB (W := w) (va := .slice a0 lb ca) (vb := .slice a1 lb cb) (za := z0.take lb) (zb := z1.take lb) _ _ ?_ ?_ ?_).mono ?_; (· (repeat (first | assumption | apply Kp.drew | apply Kp.alloc))); (· simp [go_sem]); (· simp [go_sem]); rintro e w3 ⟨he, rfl⟩; rw [← HP.out] at he; subst he) | (go_at_call 12; refine (ofBA (W := w) (va := .slice a0 lb ca) (vb := .slice a1 lb cb) (za := z0.take lb) (zb := z1.take lb) _ _ ?_ ?_ ?_).mono ?_; (· (repeat (first | assumption | apply Kp.drew | apply Kp.alloc))); (· simp [go_sem]); (· simp [go_sem]); rintro e w3 ⟨he, rfl⟩; rw [← HQ.out] at he; subst he) | (go_at_call 14; refine (join_any d d lb _ (by omega)).mono ?_; rintro e w4 ⟨he, rfl⟩; rw [← HJ.out] at he; subst he))
      all_goals
        go_wp2
        go_ret
        exact ⟨rfl, Kp.bel (va := .slice a0 lb ca) (vb := .slice a1 lb cb) (za := z0.take lb) (zb := z1.take lb) (by repeat (first | assumption | apply Kp.drew | apply Kp.alloc))⟩
  · rw [if_neg hlt] at hn
    subst hn
    have hlt' : ¬ (lb : Int) < (la : Int) := by omega
    by_cases h5 : 5000 < la
    · have h5' : (5000 : Int) < (la : Int) := by omega
      go_enter Try.func6, Try.ntmps6
      go_wp2_with (go_at_call 16; refine (awake_any _).mono ?_; rintro e w1 ⟨rfl, hb⟩)
      go_ret
      exact ⟨rfl, hb⟩
    · have h5' : ¬ (5000 : Int) < (la : Int) := by omega
      have ht := turned (z0.take la) (z1.take la) la (by have := E0.out; simp; omega) (by have := E1.out; simp; omega)
      obtain ⟨p, hp⟩ : ∃ x, x = sum (z0.take la ++ z1.take la) := ⟨_, rfl⟩
      obtain ⟨q, hq⟩ : ∃ x, x = sum (z1.take la ++ z0.take la) := ⟨_, rfl⟩
      obtain ⟨d, hd⟩ : ∃ x, x = sum (z0.take la) ^^^ sum (z1.take la) := ⟨_, rfl⟩
      obtain ⟨j, hj⟩ : ∃ x, x = txn (8 * la) d ^^^ d := ⟨_, rfl⟩
      have t : (bits .xor .u32 (p.toNat : Int) (q.toNat : Int) == (j.toNat : Int)) = true := by
        rw [bx, hj, hd, hp, hq, ht]; simp
      have HP := hid hp
      have HQ := hid hq
      have HD := hid hd
      have HJ := hid hj
      clear hp hq hd hj ht
      go_enter Try.func6, Try.ntmps6
      go_wp2_with (go_at_call 16; refine (awake_any _).mono ?_; rintro e w1 ⟨rfl, hb⟩)
      have K1 : Kp w (.slice a0 la ca) (.slice a1 la cb) (z0.take la) (z1.take la) w1 := ⟨isB_take (H0.out.below hb) _ (by have := E0.out; omega), isB_take (H1.out.below hb) _ (by have := E1.out; omega), hb⟩
      clear hb H0 H1
      go_region_held3 (fun w' => Kp w (.slice a0 la ca) (.slice a1 la cb) (z0.take la) (z1.take la) w') (repeat (first | assumption | apply Kp.drew | apply Kp.alloc))
        (first | (go_at_call_of 13 (Value.slice a0 la ca); refine (sumA _ (by assumption)).mono ?_; rintro e w2 ⟨rfl, K2⟩) | (go_at_call_of 13 (Value.slice a1 la cb); refine (sumB _ (by assumption)).mono ?_; rintro e w2 ⟨rfl, K2⟩))
      rw [bx, ← HD.out]
      go_wp2_with fail
      go_region_held3 (fun w' => Kp w (.slice a0 la ca) (.slice a1 la cb) (z0.take la) (z1.take la) w') (repeat (first | assumption | apply Kp.drew | apply Kp.alloc))
        (first | (go_at_call 12; refine (ofAB (W := w) (va := .slice a0 la ca) (vb := .slice a1 la cb) (za := z0.take la) (zb := z1.take la) _ _ ?_ ?_ ?_).mono ?_; (· (repeat (first | assumption | apply Kp.drew | apply Kp.alloc))); (· simp [go_sem]); (· simp [go_sem]); rintro e w3 ⟨he, rfl⟩; rw [← HP.out] at he; subst he) | (go_at_call 12; refine (ofBA (W := w) (va := .slice a0 la ca) (vb := .slice a1 la cb) (za := z0.take la) (zb := z1.take la) _ _ ?_ ?_ ?_).mono ?_; (· (repeat (first | assumption | apply Kp.drew | apply Kp.alloc))); (· simp [go_sem]); (· simp [go_sem]); rintro e w3 ⟨he, rfl⟩; rw [← HQ.out] at he; subst he) | (go_at_call 14; refine (join_any d d la _ (by omega)).mono ?_; rintro e w4 ⟨he, rfl⟩; rw [← HJ.out] at he; subst he))
      all_goals
        go_wp2
        go_ret
        exact ⟨rfl, Kp.bel (va := .slice a0 la ca) (vb := .slice a1 la cb) (za := z0.take la) (zb := z1.take la) (by repeat (first | assumption | apply Kp.drew | apply Kp.alloc))⟩

theorem walk (v0 : Value) (z0 : List Int) (v1 : Value) (z1 : List Int) (w : World) (h0 : IsB w v0 z0) (h1 : IsB w v1 z1) :
    Calls Try.prog 6 #[v0, v1] w fun e w' => e = .returned (.bool true) ∧ Below w.heap.size w w' := by
  obtain ⟨a0, ca, rfl⟩ : ∃ a cap, v0 = .slice a z0.length cap := by obtain ⟨_, _, a, cap, h, _⟩ := h0; exact ⟨a, cap, h⟩
  obtain ⟨a1, cb, rfl⟩ : ∃ a cap, v1 = .slice a z1.length cap := by obtain ⟨_, _, a, cap, h, _⟩ := h1; exact ⟨a, cap, h⟩
  exact walk_any a0 a1 _ _ ca cb z0 z1 w h0 h1 rfl rfl

theorem own : ownKnob Try.prog.godebug = none := by kernel_rfl
theorem laidOut : laidOutB Try.prog = true := by kernel_rfl

set_option maxRecDepth 100000 in
theorem lifted (os : Os) (started : os.Started) (H : Type) (enc : TypeId × Value → H) :
    ReturnsInHanded {} Try.checked os 6 .any (Rows.crcTurnedSpec.pre6 enc Try.prog Try.f6 Rows.crcTurnedRow.domain false) (Rows.crcTurnedSpec.post enc Try.prog Try.f6 false true false false) := by
  refine returnsInHanded_of_change (C := Try.checked) own started (by kernel_rfl) Try.func6
    (ChangeSpec.witness6 (enc := enc) (C := Try.checked) false ⟨#[], #[.slice none 0 0, .slice none 0 0], []⟩ 8 (by kernel_rfl) (by kernel_rfl) (by kernel_rfl) (by kernel_rfl)) ?_
  intro W base args ds gs before hval0 hW hcnd _
  have hval : ∀ (j : Nat) t v, Try.f6.params[j]? = some t → args[j]? = some v → Value.okWide Try.prog W .any base t v := hval0
  have hW' := hW
  obtain ⟨p, q, hA0, hV, rfl, hfz, hnd⟩ := hW
  have hA : DataW.TrodAll enc Try.prog W 0 (fun _ => true) true Try.f6.params.toList args.toList ds p := hA0
  rw [Try.params6] at hA hval
  obtain ⟨v0, vs0, d0, ds0, p0, q0, hargs, rfl, rfl, h0, r0⟩ := trodAll_cons hA
  obtain ⟨v1, vs1, d1, ds1, p1, q1, rfl, rfl, rfl, h1, r1⟩ := trodAll_cons r0
  obtain ⟨rfl, rfl, rfl⟩ := trodAll_nil r1
  obtain rfl : args = #[v0, v1] := by cases args; simp_all
  obtain ⟨rfl, rfl⟩ := trodVars_none hV
  have k0 := h0
  have lt0 : ∀ x ∈ p0, x.block < W.heap.size := by obtain ⟨m, hm⟩ := k0; exact DataW.trod_lt m _ _ _ hm
  obtain ⟨z0, w0⟩ := open_bytes Try.underlying24 Try.underlying5 (by kernel_rfl) (hval 0 24 v0 rfl rfl) h0
  have k1 := h1
  have lt1 : ∀ x ∈ p1, x.block < W.heap.size := by obtain ⟨m, hm⟩ := k1; exact DataW.trod_lt m _ _ _ hm
  obtain ⟨z1, w1⟩ := open_bytes Try.underlying24 Try.underlying5 (by kernel_rfl) (hval 1 24 v1 rfl rfl) h1
  clear hA0 hval0
  refine (walk v0 z0 v1 z1 W w0 w1).mono fun e W' ⟨he, bel⟩ => ?_
  subst he
  exact ⟨_, rfl, _, _, _, [], _, [], hW', trodAll_mk1 (shut_bool Try.underlying4 _), (trodAll_cons_mk (Below.trod laidOut (by kernel_rfl) (of_decide_eq_true (by kernel_rfl)) k0 bel lt0) (trodAll_cons_mk (Below.trod laidOut (by kernel_rfl) (of_decide_eq_true (by kernel_rfl)) k1 bel lt1) trodAll_mk0)), rfl, bel.frame _, fun h => by cases h⟩

theorem over : Rows.crcTurnedRow.holds Try.pinned (OpenSpec.ofChange Rows.crcTurnedSpec) :=
  OpenClaim.holds_of_wide 6 Try.f6 rfl rfl rfl rfl rfl rfl rfl ⟨rfl, rfl, rfl, rfl, rfl⟩ rfl rfl rfl rfl rfl (by kernel_rfl) Try.func6 (by kernel_rfl)
    (of_decide_eq_true (by kernel_rfl)) (by unfold Func.isWrapper; first | (rw [if_pos (by decide +kernel)]; kernel_rfl) | (rw [if_neg (by decide +kernel)]; exact ⟨rfl, rfl⟩))
    (fun os started H enc _ => lifted os started H enc)

theorem proved : Rows.CrcTurnedSaid := over
#print axioms proved

end Go.Proofs.Ytfakplbgheljbaa.crcTurned
