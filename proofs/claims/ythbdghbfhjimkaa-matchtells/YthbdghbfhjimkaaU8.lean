/- Contracts of cutQuoted, takeValue. -/
import Derived.Test.YthbdghbfhjimkaaU7
namespace Go.Proofs.Ythbdghbfhjimkaa
open Go.RowKit Go.Shelf

/-- what stands behind so many bytes, on the way to the closing quote. -/
def onQ (s : Tx) (i : Nat) : Tx × Tx :=
  match scanQ (s.drop i) with
  | none => ([], s)
  | some (q, t) => (s.take i ++ q, t)
theorem onQ_start {s : Tx} (h : Lib.hasPrefix s [34] = true) : cutQ s = onQ s 1 := by
  obtain ⟨r, rfl⟩ := pre_of_one h
  show (match scanQ r with | none => ([], 34 :: r) | some (q, t) => (34 :: q, t)) = _
  unfold onQ
  simp only [List.drop_succ_cons, List.drop_zero]
  cases scanQ r <;> rfl
theorem cutQ_no {s : Tx} (h : Lib.hasPrefix s [34] = false) : cutQ s = ([], s) := by
  unfold cutQ
  split
  · rw [pre_one] at h; simp at h
  · rfl
theorem onQ_end {s : Tx} {i : Nat} (h : s.length ≤ i) : onQ s i = ([], s) := by
  unfold onQ
  rw [List.drop_eq_nil_of_le h, scanQ_nil]
theorem take_at {s : Tx} {i : Nat} (h : i < s.length) : s.take (i + 1) = s.take i ++ [s.getD i 0] := by
  rw [List.take_succ_eq_append_getElem h]
  simp [List.getD, List.getElem?_eq_getElem h]
theorem onQ_hit {s : Tx} {i : Nat} (hi : i < s.length) (hc : s.getD i 0 = 34) : onQ s i = (s.take (i + 1), s.drop (i + 1)) := by
  unfold onQ
  rw [drop_at hi, hc, scanQ_q, take_at hi, hc]
theorem onQ_skip {s : Tx} {i : Nat} (hi : i < s.length) (hc : s.getD i 0 = 92) : onQ s i = onQ s (i + 1 + 1) := by
  by_cases h2 : i + 1 < s.length
  · unfold onQ
    rw [drop_at hi, drop_at h2, hc, scanQ_b]
    cases scanQ (s.drop (i + 1 + 1)) with
    | none => rfl
    | some p =>
      simp only [Option.map_some]
      rw [take_at h2, take_at hi, hc]
      simp
  · rw [onQ_end (i := i + 1 + 1) (by omega)]
    unfold onQ
    rw [drop_at hi, hc, List.drop_eq_nil_of_le (by omega), scanQ_b0]
theorem onQ_next {s : Tx} {i : Nat} (hi : i < s.length) (h1 : s.getD i 0 ≠ 34) (h2 : s.getD i 0 ≠ 92) : onQ s i = onQ s (i + 1) := by
  unfold onQ
  rw [drop_at hi, scanQ_c _ h1 h2]
  cases scanQ (s.drop (i + 1)) with
  | none => rfl
  | some p =>
    simp only [Option.map_some]
    rw [take_at hi]
    simp
def pairV (p : Tx × Tx) : Value := .tuple #[str p.1, str p.2]
set_option maxRecDepth 100000 in
set_option maxHeartbeats 4000000 in
theorem cutQuoted_any (s : Tx) (w : World) (hs : s.length ≤ 4000000000) : Calls Try.prog 65 #[str s] w fun e w' => e = .returned (pairV (cutQ s)) ∧ ∃ n, w' = w.drewN n := by
  have hpre := hid (Try.strings_HasPrefix ⟨s.toArray⟩ ⟨#[34]⟩)
  cases hp : Lib.hasPrefix s [34]
  · have hp' : Lib.hasPrefix (⟨s.toArray⟩ : ByteArray).data.toList (⟨#[34]⟩ : ByteArray).data.toList = false := hp
    rw [hp'] at hpre
    rw [cutQ_no hp]
    unfold pairV str
    clear hp hp'
    go_enter Try.func65, Try.ntmps65
    go_wp2_with (go_at_call 38; refine (hpre.out _).mono ?_; rintro e w' ⟨rfl, hw'⟩; have hw2 := hw'.symm; subst hw2)
    go_ret2
    exact ⟨rfl, 0, rfl⟩
  have hp' : Lib.hasPrefix (⟨s.toArray⟩ : ByteArray).data.toList (⟨#[34]⟩ : ByteArray).data.toList = true := hp
  rw [hp'] at hpre
  have hl1 : 1 ≤ s.length := by
    obtain ⟨r, rfl⟩ := pre_of_one hp
    simp
  rw [onQ_start hp]
  generalize hR : pairV (onQ s 1) = R
  replace hR := hid hR
  clear hp hp'
  unfold str
  go_enter Try.func65, Try.ntmps65
  go_wp2_with (go_at_call 38; refine (hpre.out _).mono ?_; rintro e w' ⟨rfl, hw'⟩; have hw2 := hw'.symm; subst hw2)
  go_loopw [4] (fun iv wr => ∃ i q : Nat, i ≤ s.length + 1 ∧ iv = .int .i64 (i : Int) ∧ Hid (pairV (onQ s i) = R) ∧ wr = w.drewN q) (fun iv _ => s.length + 1 - (intOf iv).toNat)
  case atStart => exact ⟨1, 0, by omega, rfl, hR, rfl⟩
  case round =>
    obtain ⟨i, q, hi, rfl, hu, rfl⟩ := hrel
    clear hR
    by_cases hlt : i < s.length
    · have hlt' : (i : Int) < (s.length : Int) := by omega
      have hget := get_at hlt
      obtain ⟨c, hcd⟩ : ∃ c, c = s.getD i 0 := ⟨_, rfl⟩
      rw [← hcd] at hget
      have hh := onQ_hit hlt
      have hk := onQ_skip hlt
      have hn := onQ_next hlt
      rw [← hcd] at hh hk hn
      have hcn := byte_lt c
      clear hcd
      have c5 : IntKind.i64.wrap ((i : Int) + 1) = (i : Int) + 1 := by rw [IntKind.wrap_i64]; omega
      by_cases h92 : c.toNat = 92
      · have t1 : ((c.toNat : Int) == 92) = true := by simp; omega
        have hu' : Hid (pairV (onQ s (i + 1 + 1)) = R) := by
          unfold Hid
          rw [← hk (UInt8.toNat_inj.1 h92)]
          exact hu.out
        have c6 : IntKind.i64.wrap ((i : Int) + 1 + 1) = (i : Int) + 1 + 1 := by rw [IntKind.wrap_i64]; omega
        clear hu hh hk hn h92
        go_wp2
        exact ⟨⟨i + 1 + 1, q, by omega, by go_num, hu', rfl⟩, by simp [intOf]; omega⟩
      have t1 : ((c.toNat : Int) == 92) = false := by simp; omega
      by_cases h34 : c.toNat = 34
      · have t2 : ((c.toNat : Int) == 34) = true := by simp; omega
        have e : Hid (Value.tuple #[.string ⟨(s.take (i + 1)).toArray⟩, .string ⟨(s.drop (i + 1)).toArray⟩] = R) := by
          unfold Hid
          rw [← hu.out, hh (UInt8.toNat_inj.1 h34)]
          rfl
        have e1 : (⟨s.toArray⟩ : ByteArray).extract 0 (i + 1) = ⟨(s.take (i + 1)).toArray⟩ := by rw [ext_str, List.drop_zero]
        have e2 : (⟨s.toArray⟩ : ByteArray).extract (i + 1) s.length = ⟨(s.drop (i + 1)).toArray⟩ := by rw [ext_str, List.take_length]
        have c3 : (0 : Int) ≤ (i : Int) + 1 := by omega
        have c4 : (i : Int) + 1 ≤ (s.length : Int) := by omega
        clear hu hh hk hn h34 h92
        have hw5 : Hid (∃ n, w.drewN q = w.drewN n) := ⟨q, rfl⟩
        go_wp2
        go_quiet (fail)
        go_wp2
        go_ret2
        exact ⟨congrArg Ending.returned e.out, _, World.drewN_drewN ..⟩
      · have t2 : ((c.toNat : Int) == 34) = false := by simp; omega
        have hu' : Hid (pairV (onQ s (i + 1)) = R) := by
          unfold Hid
          rw [← hn (fun e => h34 (by rw [e]; rfl)) (fun e => h92 (by rw [e]; rfl))]
          exact hu.out
        clear hu hh hk hn h34 h92
        go_wp2
        exact ⟨⟨i + 1, q, by omega, by go_num, hu', rfl⟩, by simp [intOf]; omega⟩
    · have hlt' : ¬ (i : Int) < (s.length : Int) := by omega
      have e : Hid (Value.tuple #[.string ⟨#[]⟩, .string ⟨s.toArray⟩] = R) := by
        unfold Hid
        rw [← hu.out, onQ_end (by omega)]
        rfl
      clear hu
      go_wp2
      go_ret2
      exact ⟨congrArg Ending.returned e.out, q, rfl⟩
theorem beq_yes {a : Tx} : (a == a) = true := by simp
theorem quote_nil : quote [] = [34, 34] := rfl
set_option maxRecDepth 100000 in
set_option maxHeartbeats 4000000 in
theorem takeVal_any (s : Tx) (w : World) (hs : s.length ≤ 4000000000) : Calls Try.prog 56 #[str s] w fun e w' => e = .returned (takenV (takeW s)) ∧ Below w.heap.size w w' := by
  have hcq := hid (cutQuoted_any s w hs)
  have hle : (cutQ s).1.length ≤ 4000000000 := by
    have := congrArg List.length (cutQ_eq s)
    rw [List.length_append] at this
    omega
  have hqu := hid (fun w => quote_any [] w (by simp))
  rw [quote_nil] at hqu
  have htw := takeW_cut s
  generalize takeW s = R at *
  obtain ⟨q, hq⟩ : ∃ q, q = (cutQ s).1 := ⟨_, rfl⟩
  obtain ⟨t, ht⟩ : ∃ t, t = (cutQ s).2 := ⟨_, rfl⟩
  have hpv : pairV (cutQ s) = .tuple #[str q, str t] := by rw [hq, ht]; rfl
  rw [hpv] at hcq
  rw [← hq, ← ht] at htw
  rw [← hq] at hle
  clear hq ht hpv
  have htn := hid (fun (W : World) (ty : TypeId) => together_new [123, 118, 97, 108, 117, 101, 61] q [125] W (by simp; omega) ty)
  have har : Hid (([123, 118, 97, 108, 117, 101, 61] : Tx) ++ (q ++ [125]) = around q) := rfl
  rw [har.out] at htn
  have hpa := hid (fun w => parse_any (around q) w (by unfold around; simp; omega))
  clear har
  generalize around q = z at *
  unfold takenV str at *
  rcases htw with ⟨e1, e2⟩ | ⟨e1, ⟨e2, e3⟩ | ⟨v, e2, e3⟩⟩
  · subst e1 e2
    clear hpa htn
    go_enter Try.func56, Try.ntmps56
    go_wp2_with (first | (go_at_call 65; refine hcq.out.mono ?_; rintro e w5 ⟨rfl, n5, hw5⟩; have B5 : Hid (Below w.heap.size w w5) := (by rw [hw5]; exact below_drewN (Below.refl _ _)); clear hw5) | (go_at_call 30; refine (hqu.out _).mono ?_; rintro e w6 ⟨rfl, b6⟩; replace b6 := hid (low' B5.out b6)))
    go_ret3
    exact ⟨rfl, b6.out⟩
  · subst e3
    have hne : (q == [34, 34]) = false := by simpa using e1
    rw [e2] at hpa
    clear e1 e2
    go_enter Try.func56, Try.ntmps56
    go_wp2_with (first | (go_at_call 65; refine hcq.out.mono ?_; rintro e w5 ⟨rfl, n5, hw5⟩; have B5 : Hid (Below w.heap.size w w5) := (by rw [hw5]; exact below_drewN (Below.refl _ _)); clear hw5) | (go_at_call 30; refine (hqu.out _).mono ?_; rintro e w6 ⟨rfl, b6⟩; replace b6 := hid (low' B5.out b6)) | (go_at_call 28; refine (htn.out _ _).mono ?_; rintro e w7 ⟨rfl, b7⟩; replace b7 := hid (low' b6.out b7)) | (go_at_call 66; refine (hpa.out _).mono ?_; rintro e w8 ⟨b8, rfl⟩; replace b8 := hid (low' b7.out b8)))
    go_ret3
    exact ⟨rfl, b8.out⟩
  · subst e3
    have hne : (q == [34, 34]) = false := by simpa using e1
    rw [e2] at hpa
    clear e1 e2
    go_enter Try.func56, Try.ntmps56
    go_wp2_with (first | (go_at_call 65; refine hcq.out.mono ?_; rintro e w5 ⟨rfl, n5, hw5⟩; have B5 : Hid (Below w.heap.size w w5) := (by rw [hw5]; exact below_drewN (Below.refl _ _)); clear hw5) | (go_at_call 30; refine (hqu.out _).mono ?_; rintro e w6 ⟨rfl, b6⟩; replace b6 := hid (low' B5.out b6)) | (go_at_call 28; refine (htn.out _ _).mono ?_; rintro e w7 ⟨rfl, b7⟩; replace b7 := hid (low' b6.out b7)) | (go_at_call 66; refine (hpa.out _).mono ?_; rintro e w8 ⟨b8, lv, rfl, ol⟩; obtain ⟨al, cl, rfl⟩ := ol.slice; obtain ⟨bl, off, rfl, hcl⟩ := ol.isL.at (k := 0) (by simp); obtain ⟨c0, c1⟩ := hcl 0 _ rfl; simp only [Nat.zero_mul, Nat.add_zero, str, List.length_singleton] at c0 c1 ol; clear hcl ol; replace b8 := hid (low' b7.out b8)))
    trace_state
    go_ret3
    exact ⟨rfl, b8.out⟩
end Go.Proofs.Ythbdghbfhjimkaa
