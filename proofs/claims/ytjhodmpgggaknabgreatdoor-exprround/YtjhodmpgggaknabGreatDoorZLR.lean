/- For any text and any number the law ExprRound of the program returns true: parentheses around a condition change nothing. The card ties the library's tables and variables that the row lists; no other condition. -/
import Derived.Test.YtjhodmpgggaknabGreatDoorZHK
import Derived.Test.YtjhodmpgggaknabGreatDoorZGQ
import Derived.Test.YtjhodmpgggaknabGreatDoorZSM
namespace Go.Proofs.YtjhodmpgggaknabGreatDoor
open Go.ChangeShapes Go.WideShapes Go.ChangeAt Go.RowKit Go.Shelf Go.Maps
open Go.ChangeMaps (open_string shut_string)
namespace Round

def repX (n : Nat) (c : UInt8) : Tx := List.replicate n c
theorem repX_len (n : Nat) (c : UInt8) : (repX n c).length = n := by simp [repX]
theorem repX_zero (c : UInt8) : (⟨(repX 0 c).toArray⟩ : ByteArray) = ⟨#[]⟩ := rfl
theorem app_one (n : Nat) (c : UInt8) : (⟨(repX n c).toArray⟩ : ByteArray) ++ ⟨#[c]⟩ = ⟨(repX (n + 1) c).toArray⟩ := by
  unfold repX
  rw [show (⟨#[c]⟩ : ByteArray) = ⟨([c] : Tx).toArray⟩ from rfl, app_str, List.replicate_succ']
theorem cat_round (n : Nat) (s : Tx) : (⟨(repX n 40).toArray⟩ : ByteArray) ++ ⟨s.toArray⟩ ++ ⟨#[10]⟩ ++ ⟨(repX n 41).toArray⟩ = ⟨(roundX n s).toArray⟩ := by
  unfold repX
  rw [show (⟨#[10]⟩ : ByteArray) = ⟨([10] : Tx).toArray⟩ from rfl, app_str, app_str, app_str]
  simp [roundX]
set_option maxRecDepth 100000 in
set_option maxHeartbeats 4000000 in
theorem walk1 (s : Tx) (n : Int) (w : World) (hE : Env w) (hs : s.length ≤ maxLen) : Calls Tryz.prog 4 #[str s, .int .i64 n] w fun e w' => e = .returned (.bool true) ∧ Below w.heap.size w w' := by
  unfold maxLen at hs
  have cA := hid (awake_any w hE)
  by_cases h1 : 1500 < s.length ∨ n < 0 ∨ 1000 < n
  · have h1' : Hid (1500 < s.length ∨ n < 0 ∨ 1000 < n) := h1
    clear hE h1
    unfold str
    go_enter Tryz.func4, Tryz.ntmps4
    go_wp2_with fail
    refine cA.out.mono ?_
    rintro e w1 ⟨rfl, b1⟩
    have B1 := hid b1
    clear cA b1
    by_cases q1 : (1500 : Int) < (s.length : Int)
    · go_wp2
      go_ret
      exact ⟨rfl, B1.out⟩
    · by_cases q2 : n < 0
      · go_wp2
        go_ret
        exact ⟨rfl, B1.out⟩
      · have q3 : (1000 : Int) < n := by have := h1'.out; omega
        go_wp2
        go_ret
        exact ⟨rfl, B1.out⟩
  have l1 : s.length ≤ 1500 := by omega
  obtain ⟨N, rfl, hN⟩ : ∃ N : Nat, n = N ∧ N ≤ 1000 := ⟨n.toNat, by omega, by omega⟩
  have q1 : decide ((1500 : Int) < (s.length : Int)) = false := decide_eq_false (by omega)
  have q2 : decide ((N : Int) < 0) = false := decide_eq_false (by omega)
  have q3 : decide ((1000 : Int) < (N : Int)) = false := decide_eq_false (by omega)
  have hP := hid (fun W (hb : Below w.heap.size w W) => Parse_any s (hE.below hb).e (hE.below hb).o (by omega))
  have hrl : (roundX N s).length ≤ 4096 := by unfold roundX; simp; omega
  have hQ := hid (fun W (hb : Below w.heap.size w W) => Parse_any (roundX N s) (hE.below hb).e (hE.below hb).o (by omega))
  have hcode := par_code s
  have hsame : Hid ((parseR s).2 = 0 → parseR (roundX N s) = parseR s) := fun h => par_round N h hrl
  have hcat := hid (cat_round N s)
  clear hE hrl h1
  generalize hp : parseR s = p at *
  clear hp
  generalize roundX N s = z at *
  obtain ⟨pn, pc⟩ := p
  simp only at hcode hP hsame
  unfold str at *
  go_enter Tryz.func4, Tryz.ntmps4
  go_wp2_with fail
  refine cA.out.mono ?_
  rintro e w1 ⟨rfl, b1⟩
  have B1 := hid b1
  clear cA b1
  go_wp2_with fail
  refine (hP.out _ B1.out).mono ?_
  rintro e w2 ⟨vn, rfl, o2, b2⟩
  obtain ⟨a2, c2, rfl⟩ := o2.slice
  have B2 := hid (low2 B1.out b2)
  have O2 := hid o2.isN
  clear hP b2 B1 o2
  rcases hcode with rfl | ⟨hpc, rfl⟩
  · have hsame2 := hid (hsame.out rfl)
    rw [hsame2.out] at hQ
    clear hsame hsame2
    go_wp2_with fail
    go_loopw [7, 8, 9] (fun ov ev iv wr => ∃ k : Nat, ov = .string ⟨(repX k 40).toArray⟩ ∧ ev = .string ⟨(repX k 41).toArray⟩ ∧ iv = .int .i64 (k : Int) ∧ k ≤ N ∧ wr = w2) (fun _ _ iv _ => N - (intOf iv).toNat)
    case atStart => exact ⟨0, rfl, rfl, rfl, by omega, rfl⟩
    case round =>
      obtain ⟨k, rfl, rfl, rfl, hk, rfl⟩ := hrel
      by_cases hkn : (k : Int) < (N : Int)
      · have k1 : (9223372036854775807 < (repX k 40).length + 1) = False := eq_false (by rw [repX_len]; omega)
        have k2 : (9223372036854775807 < (repX k 41).length + 1) = False := eq_false (by rw [repX_len]; omega)
        go_wp2
        exact ⟨⟨k + 1, by rw [app_one], by rw [app_one], by simp, by omega, by first | rfl | trivial⟩, by simp [intOf]; omega⟩
      · obtain rfl : k = N := by omega
        have k1 : (9223372036854775807 < (repX k 40).length + s.length) = False := eq_false (by rw [repX_len]; omega)
        have k2 : (9223372036854775807 < (repX k 40).length + s.length + 1) = False := eq_false (by rw [repX_len]; omega)
        have k3 : (9223372036854775807 < (repX k 40).length + s.length + 1 + (repX k 41).length) = False := eq_false (by rw [repX_len, repX_len]; omega)
        go_wp2_with fail
        rw [hcat.out]
        refine (hQ.out _ B2.out).mono ?_
        rintro e w3 ⟨vm, rfl, o3, b3⟩
        obtain ⟨a3, c3, rfl⟩ := o3.slice
        have B3 := hid (low2 B2.out b3)
        have cS := hid (rsame_any (O2.out.below b3) o3.isN)
        rw [sameN_refl] at cS
        clear hQ b3 o3
        go_wp2_with fail
        refine cS.out.mono ?_
        rintro e w4 ⟨rfl, b4⟩
        have B4 := hid (low2 B3.out b4)
        clear cS b4
        go_wp2
        go_ret
        exact ⟨rfl, B4.out⟩
  · have q4 : (pc != 0) = true := by simp [hpc]
    go_wp2
    go_ret
    exact ⟨rfl, B2.out⟩
theorem walk (s : ByteArray) (n : Int) (w : World) (hE : Env w) (hs : s.size ≤ maxLen) (_ : (Lit.int .i64 n).wf = true) :
    Calls Tryz.prog 4 #[.string s, .int .i64 n] w fun e w' => e = .returned (.bool true) ∧ Below w.heap.size w w' := by
  rw [str_of s]
  exact walk1 _ n w hE hs
theorem own : ownKnob Tryz.prog.godebug = none := by kernel_rfl
theorem laidOut : laidOutB Tryz.prog = true := by kernel_rfl

set_option maxRecDepth 100000 in
theorem lifted (os : Os) (started : os.Started) (H : Type) (enc : TypeId × Value → H) :
    ReturnsInHanded {} Tryz.checked os 4 .any (fun w args => (Rows.exprRoundSpec.pre enc Tryz.prog Tryz.f4 [] false w args ∧ laidMetH Tryz.prog Rows.exprRoundRow.laid w) ∧ sizedMet enc Tryz.prog Tryz.f4 (OpenSpec.ofChange Rows.exprRoundSpec) false w args)
      (Rows.exprRoundSpec.post enc Tryz.prog Tryz.f4 false true false false) := by
  refine returnsInHanded_of_change_and (C := Tryz.checked) (X := fun w _ => laidMetH Tryz.prog Rows.exprRoundRow.laid w) (fun _ _ _ hh h => h.of_heap hh) own started (by kernel_rfl) Tryz.func4
    (ChangeSpec.witness_shaped (enc := enc) (C := Tryz.checked) (os := os) (X := fun w _ => laidMetH Tryz.prog Rows.exprRoundRow.laid w) false (World.laidAll Tryz.prog os Rows.exprRoundRow.laid) #[.string ⟨#[]⟩, .int .i64 0] 8 (World.laidAll_os _ _ _)
      (World.shaped_of_ZipB (by kernel_rfl) (by kernel_rfl)) (by kernel_rfl) (by kernel_rfl) (by kernel_rfl)
      (by rw [MakeChecks.laidMetH_plain _ _ _ (by kernel_rfl)]; exact laidMet_laidAll _ (by kernel_rfl) (by kernel_rfl))) ?_
  intro W base args ds gs before hval0 hW _ hsz0 hL _
  have hval : ∀ (j : Nat) t v, Tryz.f4.params[j]? = some t → args[j]? = some v → Value.okWide Tryz.prog W .any base t v := hval0
  have hW' := hW
  obtain ⟨p, q, hA0, hV, rfl, hfz, hnd⟩ := hW
  have hA : DataW.TrodAll enc Tryz.prog W 0 (fun _ => true) true Tryz.f4.params.toList args.toList ds p := hA0
  rw [Tryz.params4] at hA hval
  obtain ⟨v0, vs0, d0, ds0, p0, q0, hargs, rfl, rfl, h0, r0⟩ := trodAll_cons hA
  obtain ⟨v1, vs1, d1, ds1, p1, q1, rfl, rfl, rfl, h1, r1⟩ := trodAll_cons r0
  obtain ⟨rfl, rfl, rfl⟩ := trodAll_nil r1
  obtain rfl : args = #[v0, v1] := by cases args; simp_all
  obtain ⟨rfl, rfl⟩ := trodVars_none hV
  obtain ⟨a0, rfl, rfl, rfl, w0⟩ := open_string Tryz.underlying9 (hval 0 9 v0 rfl rfl) h0
  obtain ⟨a1, rfl, rfl, rfl, w1⟩ := open_int Tryz.underlying3 (hval 1 3 v1 rfl rfl) h1
  clear hA0 hval0
  have hEnv : Env W := env_of (by
    have h2 := hL
    rw [MakeChecks.laidMetH_plain _ _ _ (by kernel_rfl)] at h2
    exact h2)
  refine (walk a0 a1 W hEnv w0 w1).mono fun e W' ⟨he, bel⟩ => ?_
  subst he
  exact ⟨_, rfl, _, _, _, [], _, [], hW', trodAll_mk1 (shut_bool Tryz.underlying4 _), (trodAll_cons_mk (shut_string Tryz.underlying9 w0) (trodAll_cons_mk (shut_int Tryz.underlying3 w1) trodAll_mk0)), rfl, bel.frame _, fun h => by cases h⟩

theorem over : Rows.ExprRoundSaid :=
  OpenClaim.holds_of_wide 4 Tryz.f4 rfl rfl rfl rfl rfl rfl rfl ⟨rfl, rfl, rfl, rfl, rfl⟩ rfl rfl rfl rfl rfl (by kernel_rfl) Tryz.func4 (by kernel_rfl)
    (of_decide_eq_true (by kernel_rfl)) (by unfold Func.isWrapper; first | (rw [if_pos (by decide +kernel)]; kernel_rfl) | (rw [if_neg (by decide +kernel)]; exact ⟨rfl, rfl⟩))
    (fun os started H enc _ => lifted os started H enc)

theorem proved : Rows.ExprRoundCardSaid :=
  Claim7.holds_tied_plain_at .later [] [.data, .data, .data, .data, .sentinel, .sentinel, .data, .pinned] true (true, "707e8336eb61095b10cbf6105f85c2175716be4bc322fd64d5fd654a9abdafbf") true
    over (fun _ h => by cases h) (by kernel_rfl) (fun _ h => by cases h) exprRound_row_tie rfl ⟨rfl, rfl⟩ (by kernel_rfl) rfl
    (fun f fn hf hfn => by
      obtain rfl : f = 4 := Option.some.inj ((show Tryz.prog.funcNamed "tocsin/tocsinlaw10.ExprRound" = some 4 by kernel_rfl).symm.trans hf) |>.symm
      obtain rfl : fn = Tryz.f4 := (Option.some.inj (Tryz.func4.symm.trans hfn)).symm
      exact ⟨by kernel_rfl, fun j t ht => by
        rw [Tryz.params4] at ht
        have hm : t ∈ [9, 3] := by simpa using Array.mem_of_getElem? ht
        have hall : ([9, 3].all fun u => !Tryz.prog.wantsStandIn u) = true := by kernel_rfl
        exact (show Tryz.prog.wantsStandIn t = false by simpa using List.all_eq_true.1 hall t hm)⟩)
    (by kernel_rfl)
#print axioms proved

end Round
end Go.Proofs.YtjhodmpgggaknabGreatDoor
