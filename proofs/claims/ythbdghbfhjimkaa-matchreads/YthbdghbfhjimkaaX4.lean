/- Contract of the document's one: a matcher at the beginning of a text, and how many bytes it has. -/
import Derived.Test.YthbdghbfhjimkaaX1
import Derived.Test.YthbdghbfhjimkaaR3
import Derived.Test.YthbdghbfhjimkaaU9
import Derived.Test.YthbdghbfhjimkaaX2
namespace Go.Proofs.Ythbdghbfhjimkaa
open Go.RowKit Go.Shelf

theorem mayN2 (c : UInt8) : mayN [97, c] = nmc c := by
  unfold mayN mayB
  have h1 : nmc 97 = true := by decide
  have h2 : low 97 = true := by decide
  simp [h1, h2]
theorem cutR_pos : ∀ (s : Tx) (n : Nat), n ≤ s.length → (∀ i, i < n → nmc (s.getD i 0) = true) → (n < s.length → nmc (s.getD n 0) = false) → cutR s = (s.take n, s.drop n)
  | [], n, hn, _, _ => by
    simp at hn
    subst hn
    rfl
  | c :: t, 0, _, _, h => by
    have := h (by simp)
    simp only [List.getD_cons_zero] at this
    rw [cutR, this]
    rfl
  | c :: t, n + 1, hn, hp, h => by
    have h0 := hp 0 (by omega)
    simp only [List.getD_cons_zero] at h0
    rw [cutR, h0, if_pos rfl, cutR_pos t n (by simpa using hn) (fun i hi => by simpa using hp (i + 1) (by omega)) (fun hl => by simpa using h (by simpa using hl))]
    simp
/-- what one tells. -/
def oneV (s : Tx) : Option (Mt × Tx) → Value
  | none => .tuple #[.agg #[str [], opv 0, str []], .int .i64 0]
  | some (x, r) => .tuple #[.agg #[str x.1, opv x.2.1, str x.2.2], .int .i64 ((s.length - r.length : Nat) : Int)]
theorem takeR_no {s a b : Tx} (h : cutR s = (a, b)) (hs : takeS b = none) : takeR s = none := by
  unfold takeR
  rw [h]
  simp only [hs]
theorem takeR_noV {s a b r : Tx} {o : UInt8} (h : cutR s = (a, b)) (hs : takeS b = some (o, r)) (hv : takeV r = none) : takeR s = none := by
  unfold takeR
  rw [h]
  simp only [hs, hv]
theorem takeR_yes {s a b r v t : Tx} {o : UInt8} (h : cutR s = (a, b)) (hs : takeS b = some (o, r)) (hv : takeV r = some (v, t)) : takeR s = some ((a, o, v), t) := by
  unfold takeR
  rw [h]
  simp only [hs, hv]
set_option maxRecDepth 100000 in
set_option maxHeartbeats 4000000 in
theorem rone_any (s : Tx) (w : World) (hs : s.length ≤ 4000000000) : Calls Try.prog 36 #[str s] w fun e w' => e = .returned (oneV s (takeR s)) ∧ Below w.heap.size w w' := by
  generalize hR : oneV s (takeR s) = R
  replace hR := hid hR
  have hnm := hid (fun c w => rmayName_any [97, c] (by simp) w)
  unfold str at *
  go_enter Try.func36, Try.ntmps36
  go_wp2
  go_loop [4] (fun nv => ∃ n : Nat, n ≤ s.length ∧ nv = .int .i64 (n : Int) ∧ Hid (∀ i, i < n → nmc (s.getD i 0) = true)) (fun nv => s.length - (intOf nv).toNat)
  case atStart => exact ⟨0, by omega, rfl, fun i hi => by omega⟩
  case round =>
    obtain ⟨n, hn, rfl, hp⟩ := hrel
    by_cases hlt : n < s.length
    · have hlt' : (n : Int) < (s.length : Int) := by omega
      have hone := ext_one hlt
      obtain ⟨c, hcd⟩ : ∃ c, c = s.getD n 0 := ⟨_, rfl⟩
      rw [← hcd] at hone
      have hcat : (⟨#[97]⟩ : ByteArray) ++ ⟨([c] : Tx).toArray⟩ = ⟨([97, c] : Tx).toArray⟩ := by
        rw [show (⟨#[97]⟩ : ByteArray) = ⟨([97] : Tx).toArray⟩ from rfl, app_str]
        rfl
      have hmn := hid (hnm.out c)
      rw [mayN2] at hmn
      have c3 : (0 : Int) ≤ (n : Int) := by omega
      have c4 : (n : Int) + 1 ≤ (s.length : Int) := by omega
      have c6 : (n : Int) ≤ (n : Int) + 1 := by omega
      have c5 : IntKind.i64.wrap ((n : Int) + 1) = (n : Int) + 1 := by rw [IntKind.wrap_i64]; omega
      cases hc : nmc c
      · rw [hc] at hmn
        have hcut : cutR s = (s.take n, s.drop n) := cutR_pos s n (by omega) hp.out (fun _ => by rw [← hcd]; exact hc)
        clear hcd hc hnm
        go_wp2_with (go_at_call 26; refine (hmn.out _).mono ?_; rintro e' w' ⟨rfl, hw'⟩; have hw2 := hw'.symm; subst hw2)
        clear hone hcat hmn c3 c4 c5 c6
        have hRn : Hid (takeR s = none → Value.tuple #[.agg #[.string ⟨#[]⟩, .int .u8 0, .string ⟨#[]⟩], .int .i64 0] = R) := fun h => by rw [← hR.out, h]; rfl
        have hRs : Hid (∀ (o : UInt8) (v r : Tx), takeR s = some ((s.take n, o, v), r) → Value.tuple #[.agg #[.string ⟨(s.take n).toArray⟩, .int .u8 (o.toNat : Int), .string ⟨v.toArray⟩], .int .i64 ((s.length - r.length : Nat) : Int)] = R) := fun o v r h => by rw [← hR.out, h]; rfl
        clear hR hp
        replace hcut := hid hcut
        go_loopw [5] (fun ov wr => ∃ j q : Nat, j ≤ 3 ∧ ov = .int .u8 (j : Int) ∧ Hid (∀ i, i < j → Lib.hasPrefix (s.drop n) (opS (UInt8.ofNat i)) = false) ∧ wr = (w.alloc (.cells #[.string ⟨#[]⟩, .int .u8 0, .string ⟨#[]⟩] 37)).drewN q) (fun ov _ => 3 - (intOf ov).toNat)
        case atStart => exact ⟨0, 0, by omega, rfl, (fun i hi => by omega), rfl⟩
        case round =>
          obtain ⟨j, q, hj, rfl, hq, rfl⟩ := hrel
          have hdd : Hid (∀ n, ∃ q', ((w.alloc (.cells #[.string ⟨#[]⟩, .int .u8 0, .string ⟨#[]⟩] 37)).drewN q).drewN n = (w.alloc (.cells #[.string ⟨#[]⟩, .int .u8 0, .string ⟨#[]⟩] 37)).drewN q') := fun n => ⟨_, World.drewN_drewN ..⟩
          have hlowU : Hid (Below w.heap.size w ((w.alloc (.cells #[.string ⟨#[]⟩, .int .u8 0, .string ⟨#[]⟩] 37)).drewN q)) := below_drewN (alloc_below _ _)
          obtain ⟨g0, g1, g2, f0, f1, f2⟩ := boxM_new w ((w.alloc (.cells #[.string ⟨#[]⟩, .int .u8 0, .string ⟨#[]⟩] 37)).drewN q) (below_drewN (n := q) (Below.refl _ _))
          generalize (w.alloc (.cells #[.string ⟨#[]⟩, .int .u8 0, .string ⟨#[]⟩] 37)).drewN q = U at *
          by_cases hj3 : j < 3
          · rcases (by omega : j = 0 ∨ j = 1 ∨ j = 2) with rfl | rfl | rfl
            · have hsj := hid (rsign_any 0)
              rw [show opS 0 = [61] from rfl] at hsj
              have hTS := hid (fun (h : Lib.hasPrefix (s.drop n) (opS 0) = true) => takeS_yes h (by decide))
              have hpt := pre_take (s.drop n) (opS 0)
              have hpn : Lib.hasPrefix (s.drop n) (opS 0) = false → Hid (∀ i, i < 0 + 1 → Lib.hasPrefix (s.drop n) (opS (UInt8.ofNat i)) = false) := fun h i hi => by
                by_cases e : i = 0
                · subst e; exact h
                · exact hq.out i (by omega)
              unfold str at hsj
              have c5 : IntKind.i64.wrap ((n : Int) + 1) = (n : Int) + 1 := by rw [IntKind.wrap_i64]; omega
              by_cases hk : n + 1 ≤ s.length
              · have d1 : decide ((n : Int) + 1 ≤ (s.length : Int)) = true := by simp; omega
                have d1' : decide (n + 1 ≤ s.length) = true := by simp; omega
                have c1 : (0 : Int) ≤ (n : Int) := by omega
                have c2 : (n : Int) ≤ (n : Int) + 1 := by omega
                have c3 : (n : Int) + 1 ≤ (s.length : Int) := by omega
                have c4 : (0 : Int) ≤ (n : Int) + 1 := by omega
                have c7 : (n : Int) ≤ (s.length : Int) := by omega
                have e1 : (⟨s.toArray⟩ : ByteArray).extract n (n + 1) = ⟨((s.drop n).take 1).toArray⟩ := by rw [ext_str, List.take_drop]
                have e2 : (⟨s.toArray⟩ : ByteArray).extract (n + 1) s.length = ⟨(s.drop (n + 1)).toArray⟩ := by rw [ext_str, List.take_length]
                have e3 : (⟨s.toArray⟩ : ByteArray).extract 0 n = ⟨(s.take n).toArray⟩ := by rw [ext_str, List.drop_zero]
                rw [show opS 0 = [61] from rfl] at hpt
                rw [show ([61] : Tx).length = 1 from rfl, decide_eq_true (by simp; omega : 1 ≤ (s.drop n).length), Bool.true_and] at hpt
                generalize (s.drop n).take 1 = tt at *
                cases hz : (tt == [61])
                · have hq' := hpn (hpt.trans hz)
                  clear hpn hpt hTS hq hRn hRs hcut
                  go_wp2_with (go_at_call 32; refine (hsj.out _).mono ?_; rintro e' w' ⟨rfl, hw'⟩; have hw2 := hw'.symm; subst hw2)
                  go_quiet (first | (go_at_call 32; exact Calls.quiet_of_same (hsj.out _)))
                  go_wp2
                  obtain ⟨q', hq''⟩ := hdd.out nq
                  exact ⟨⟨0 + 1, q', by omega, by go_num, hq', hq''⟩, by simp [intOf]⟩
                · have hTS2 := hTS.out (hpt.trans hz)
                  have htr : Lib.trimPrefix (s.drop n) (opS 0) = s.drop (n + 1) := by
                    show Lib.trimPrefix (s.drop n) [61] = _
                    rw [trim_yes (hpt.trans hz), List.drop_drop]
                    rfl
                  rw [htr] at hTS2
                  have hqt := hid (fun w => quoted_any (s.drop (n + 1)) w (by simp; omega))
                  cases hv : takeV (s.drop (n + 1)) with
                  | none =>
                    have e := hRn.out (takeR_noV hcut.out hTS2 hv)
                    rw [hv] at hqt
                    unfold quotedV str at hqt
                    clear hpn hpt hTS hq hRn hRs hcut hTS2 htr hv
                    go_wp2_with (go_at_call 32; refine (hsj.out _).mono ?_; rintro e' w' ⟨rfl, hw'⟩; have hw2 := hw'.symm; subst hw2)
                    go_quiet (first | (go_at_call 32; exact Calls.quiet_of_same (hsj.out _)))
                    go_wp2_with (go_at_call 50; refine (hqt.out _).mono ?_; rintro e' w' ⟨rfl, hw'⟩; have hw2 := hw'.symm; subst hw2)
                    refine bodyPost_ret (v := .tuple #[.agg #[.string ⟨#[]⟩, .int .u8 0, .string ⟨#[]⟩], .int .i64 0]) ?_ rfl ⟨congrArg Ending.returned e, below_set3 (below_drewN hlowU.out) (Nat.le_refl _)⟩
                    simp [results, Try.results36, go_sem, g0, g1, g2]
                  | some p =>
                    obtain ⟨v, r⟩ := p
                    have e := hRs.out 0 v r (takeR_yes hcut.out hTS2 hv)
                    rw [hv] at hqt
                    have hvi := congrArg List.length (takeV_inv hv)
                    rw [List.length_append, List.length_drop] at hvi
                    have hql := (item_len ([], v)).1
                    unfold item at hql
                    simp at hql
                    have hu : n + 1 + ((s.drop (n + 1)).length - r.length) = s.length - r.length := by
                      rw [List.length_drop]
                      omega
                    have hu0 : 0 < (s.drop (n + 1)).length - r.length := by
                      rw [List.length_drop]
                      omega
                    simp only [quotedV, str] at hqt
                    generalize (s.drop (n + 1)).length - r.length = u at *
                    rw [← hu, show ((n + 1 + u : Nat) : Int) = (n : Int) + 1 + (u : Int) by omega] at e
                    have hul : u ≤ 4000000000 := by omega
                    have t1 : ((u : Int) == 0) = false := by simp; omega
                    have c8 : IntKind.i64.wrap ((n : Int) + 1 + (u : Int)) = (n : Int) + 1 + (u : Int) := by rw [IntKind.wrap_i64]; omega
                    clear hpn hpt hTS hq hRn hRs hcut hTS2 htr hv hu hu0 hvi hql
                    replace e := hid e
                    go_wp2_with (go_at_call 32; refine (hsj.out _).mono ?_; rintro e' w' ⟨rfl, hw'⟩; have hw2 := hw'.symm; subst hw2)
                    go_quiet (first | (go_at_call 32; exact Calls.quiet_of_same (hsj.out _)))
                    go_wp2_with (go_at_call 50; refine (hqt.out _).mono ?_; rintro e' w' ⟨rfl, hw'⟩; have hw2 := hw'.symm; subst hw2)
                    refine bodyPost_ret (v := .tuple #[.agg #[.string ⟨(s.take n).toArray⟩, .int .u8 0, .string ⟨v.toArray⟩], .int .i64 ((n : Int) + 1 + (u : Int))]) ?_ rfl ⟨congrArg Ending.returned e.out, below_set3 (below_drewN hlowU.out) (Nat.le_refl _)⟩
                    simp [results, Try.results36, go_sem, g0, g1, g2]
              · have d1 : decide ((n : Int) + 1 ≤ (s.length : Int)) = false := by simp; omega
                have d1' : decide (n + 1 ≤ s.length) = false := by simp; omega
                have hq' := hpn (by
                  rw [hpt, show opS 0 = [61] from rfl, show ([61] : Tx).length = 1 from rfl, decide_eq_false (by simp; omega : ¬ 1 ≤ (s.drop n).length)]
                  rfl)
                clear hpn hpt hTS hq hRn hRs hcut
                go_wp2_with (go_at_call 32; refine (hsj.out _).mono ?_; rintro e' w' ⟨rfl, hw'⟩; have hw2 := hw'.symm; subst hw2)
                go_quiet (first | (go_at_call 32; exact Calls.quiet_of_same (hsj.out _)))
                go_wp2
                obtain ⟨q', hq''⟩ := hdd.out nq
                exact ⟨⟨0 + 1, q', by omega, by go_num, hq', hq''⟩, by simp [intOf]⟩
            · have hsj := hid (rsign_any 1)
              rw [show opS 1 = [33, 61] from rfl] at hsj
              have hTS := hid (fun (h : Lib.hasPrefix (s.drop n) (opS 1) = true) => takeS_yes h (by decide))
              have hpt := pre_take (s.drop n) (opS 1)
              have hpn : Lib.hasPrefix (s.drop n) (opS 1) = false → Hid (∀ i, i < 1 + 1 → Lib.hasPrefix (s.drop n) (opS (UInt8.ofNat i)) = false) := fun h i hi => by
                by_cases e : i = 1
                · subst e; exact h
                · exact hq.out i (by omega)
              unfold str at hsj
              have c5 : IntKind.i64.wrap ((n : Int) + 2) = (n : Int) + 2 := by rw [IntKind.wrap_i64]; omega
              by_cases hk : n + 2 ≤ s.length
              · have d1 : decide ((n : Int) + 2 ≤ (s.length : Int)) = true := by simp; omega
                have d1' : decide (n + 2 ≤ s.length) = true := by simp; omega
                have c1 : (0 : Int) ≤ (n : Int) := by omega
                have c2 : (n : Int) ≤ (n : Int) + 2 := by omega
                have c3 : (n : Int) + 2 ≤ (s.length : Int) := by omega
                have c4 : (0 : Int) ≤ (n : Int) + 2 := by omega
                have c7 : (n : Int) ≤ (s.length : Int) := by omega
                have e1 : (⟨s.toArray⟩ : ByteArray).extract n (n + 2) = ⟨((s.drop n).take 2).toArray⟩ := by rw [ext_str, List.take_drop]
                have e2 : (⟨s.toArray⟩ : ByteArray).extract (n + 2) s.length = ⟨(s.drop (n + 2)).toArray⟩ := by rw [ext_str, List.take_length]
                have e3 : (⟨s.toArray⟩ : ByteArray).extract 0 n = ⟨(s.take n).toArray⟩ := by rw [ext_str, List.drop_zero]
                rw [show opS 1 = [33, 61] from rfl] at hpt
                rw [show ([33, 61] : Tx).length = 2 from rfl, decide_eq_true (by simp; omega : 2 ≤ (s.drop n).length), Bool.true_and] at hpt
                generalize (s.drop n).take 2 = tt at *
                cases hz : (tt == [33, 61])
                · have hq' := hpn (hpt.trans hz)
                  clear hpn hpt hTS hq hRn hRs hcut
                  go_wp2_with (go_at_call 32; refine (hsj.out _).mono ?_; rintro e' w' ⟨rfl, hw'⟩; have hw2 := hw'.symm; subst hw2)
                  go_quiet (first | (go_at_call 32; exact Calls.quiet_of_same (hsj.out _)))
                  go_wp2
                  obtain ⟨q', hq''⟩ := hdd.out nq
                  exact ⟨⟨1 + 1, q', by omega, by go_num, hq', hq''⟩, by simp [intOf]⟩
                · have hTS2 := hTS.out (hpt.trans hz)
                  have htr : Lib.trimPrefix (s.drop n) (opS 1) = s.drop (n + 2) := by
                    show Lib.trimPrefix (s.drop n) [33, 61] = _
                    rw [trim_yes (hpt.trans hz), List.drop_drop]
                    rfl
                  rw [htr] at hTS2
                  have hqt := hid (fun w => quoted_any (s.drop (n + 2)) w (by simp; omega))
                  cases hv : takeV (s.drop (n + 2)) with
                  | none =>
                    have e := hRn.out (takeR_noV hcut.out hTS2 hv)
                    rw [hv] at hqt
                    unfold quotedV str at hqt
                    clear hpn hpt hTS hq hRn hRs hcut hTS2 htr hv
                    go_wp2_with (go_at_call 32; refine (hsj.out _).mono ?_; rintro e' w' ⟨rfl, hw'⟩; have hw2 := hw'.symm; subst hw2)
                    go_quiet (first | (go_at_call 32; exact Calls.quiet_of_same (hsj.out _)))
                    go_wp2_with (go_at_call 50; refine (hqt.out _).mono ?_; rintro e' w' ⟨rfl, hw'⟩; have hw2 := hw'.symm; subst hw2)
                    refine bodyPost_ret (v := .tuple #[.agg #[.string ⟨#[]⟩, .int .u8 0, .string ⟨#[]⟩], .int .i64 0]) ?_ rfl ⟨congrArg Ending.returned e, below_set3 (below_drewN hlowU.out) (Nat.le_refl _)⟩
                    simp [results, Try.results36, go_sem, g0, g1, g2]
                  | some p =>
                    obtain ⟨v, r⟩ := p
                    have e := hRs.out 1 v r (takeR_yes hcut.out hTS2 hv)
                    rw [hv] at hqt
                    have hvi := congrArg List.length (takeV_inv hv)
                    rw [List.length_append, List.length_drop] at hvi
                    have hql := (item_len ([], v)).1
                    unfold item at hql
                    simp at hql
                    have hu : n + 2 + ((s.drop (n + 2)).length - r.length) = s.length - r.length := by
                      rw [List.length_drop]
                      omega
                    have hu0 : 0 < (s.drop (n + 2)).length - r.length := by
                      rw [List.length_drop]
                      omega
                    simp only [quotedV, str] at hqt
                    generalize (s.drop (n + 2)).length - r.length = u at *
                    rw [← hu, show ((n + 2 + u : Nat) : Int) = (n : Int) + 2 + (u : Int) by omega] at e
                    have hul : u ≤ 4000000000 := by omega
                    have t1 : ((u : Int) == 0) = false := by simp; omega
                    have c8 : IntKind.i64.wrap ((n : Int) + 2 + (u : Int)) = (n : Int) + 2 + (u : Int) := by rw [IntKind.wrap_i64]; omega
                    clear hpn hpt hTS hq hRn hRs hcut hTS2 htr hv hu hu0 hvi hql
                    replace e := hid e
                    go_wp2_with (go_at_call 32; refine (hsj.out _).mono ?_; rintro e' w' ⟨rfl, hw'⟩; have hw2 := hw'.symm; subst hw2)
                    go_quiet (first | (go_at_call 32; exact Calls.quiet_of_same (hsj.out _)))
                    go_wp2_with (go_at_call 50; refine (hqt.out _).mono ?_; rintro e' w' ⟨rfl, hw'⟩; have hw2 := hw'.symm; subst hw2)
                    refine bodyPost_ret (v := .tuple #[.agg #[.string ⟨(s.take n).toArray⟩, .int .u8 1, .string ⟨v.toArray⟩], .int .i64 ((n : Int) + 2 + (u : Int))]) ?_ rfl ⟨congrArg Ending.returned e.out, below_set3 (below_drewN hlowU.out) (Nat.le_refl _)⟩
                    simp [results, Try.results36, go_sem, g0, g1, g2]
              · have d1 : decide ((n : Int) + 2 ≤ (s.length : Int)) = false := by simp; omega
                have d1' : decide (n + 2 ≤ s.length) = false := by simp; omega
                have hq' := hpn (by
                  rw [hpt, show opS 1 = [33, 61] from rfl, show ([33, 61] : Tx).length = 2 from rfl, decide_eq_false (by simp; omega : ¬ 2 ≤ (s.drop n).length)]
                  rfl)
                clear hpn hpt hTS hq hRn hRs hcut
                go_wp2_with (go_at_call 32; refine (hsj.out _).mono ?_; rintro e' w' ⟨rfl, hw'⟩; have hw2 := hw'.symm; subst hw2)
                go_quiet (first | (go_at_call 32; exact Calls.quiet_of_same (hsj.out _)))
                go_wp2
                obtain ⟨q', hq''⟩ := hdd.out nq
                exact ⟨⟨1 + 1, q', by omega, by go_num, hq', hq''⟩, by simp [intOf]⟩
            · have hsj := hid (rsign_any 2)
              rw [show opS 2 = [94, 61] from rfl] at hsj
              have hTS := hid (fun (h : Lib.hasPrefix (s.drop n) (opS 2) = true) => takeS_yes h (by decide))
              have hpt := pre_take (s.drop n) (opS 2)
              have hpn : Lib.hasPrefix (s.drop n) (opS 2) = false → Hid (∀ i, i < 2 + 1 → Lib.hasPrefix (s.drop n) (opS (UInt8.ofNat i)) = false) := fun h i hi => by
                by_cases e : i = 2
                · subst e; exact h
                · exact hq.out i (by omega)
              unfold str at hsj
              have c5 : IntKind.i64.wrap ((n : Int) + 2) = (n : Int) + 2 := by rw [IntKind.wrap_i64]; omega
              by_cases hk : n + 2 ≤ s.length
              · have d1 : decide ((n : Int) + 2 ≤ (s.length : Int)) = true := by simp; omega
                have d1' : decide (n + 2 ≤ s.length) = true := by simp; omega
                have c1 : (0 : Int) ≤ (n : Int) := by omega
                have c2 : (n : Int) ≤ (n : Int) + 2 := by omega
                have c3 : (n : Int) + 2 ≤ (s.length : Int) := by omega
                have c4 : (0 : Int) ≤ (n : Int) + 2 := by omega
                have c7 : (n : Int) ≤ (s.length : Int) := by omega
                have e1 : (⟨s.toArray⟩ : ByteArray).extract n (n + 2) = ⟨((s.drop n).take 2).toArray⟩ := by rw [ext_str, List.take_drop]
                have e2 : (⟨s.toArray⟩ : ByteArray).extract (n + 2) s.length = ⟨(s.drop (n + 2)).toArray⟩ := by rw [ext_str, List.take_length]
                have e3 : (⟨s.toArray⟩ : ByteArray).extract 0 n = ⟨(s.take n).toArray⟩ := by rw [ext_str, List.drop_zero]
                rw [show opS 2 = [94, 61] from rfl] at hpt
                rw [show ([94, 61] : Tx).length = 2 from rfl, decide_eq_true (by simp; omega : 2 ≤ (s.drop n).length), Bool.true_and] at hpt
                generalize (s.drop n).take 2 = tt at *
                cases hz : (tt == [94, 61])
                · have hq' := hpn (hpt.trans hz)
                  clear hpn hpt hTS hq hRn hRs hcut
                  go_wp2_with (go_at_call 32; refine (hsj.out _).mono ?_; rintro e' w' ⟨rfl, hw'⟩; have hw2 := hw'.symm; subst hw2)
                  go_quiet (first | (go_at_call 32; exact Calls.quiet_of_same (hsj.out _)))
                  go_wp2
                  obtain ⟨q', hq''⟩ := hdd.out nq
                  exact ⟨⟨2 + 1, q', by omega, by go_num, hq', hq''⟩, by simp [intOf]⟩
                · have hTS2 := hTS.out (hpt.trans hz)
                  have htr : Lib.trimPrefix (s.drop n) (opS 2) = s.drop (n + 2) := by
                    show Lib.trimPrefix (s.drop n) [94, 61] = _
                    rw [trim_yes (hpt.trans hz), List.drop_drop]
                    rfl
                  rw [htr] at hTS2
                  have hqt := hid (fun w => quoted_any (s.drop (n + 2)) w (by simp; omega))
                  cases hv : takeV (s.drop (n + 2)) with
                  | none =>
                    have e := hRn.out (takeR_noV hcut.out hTS2 hv)
                    rw [hv] at hqt
                    unfold quotedV str at hqt
                    clear hpn hpt hTS hq hRn hRs hcut hTS2 htr hv
                    go_wp2_with (go_at_call 32; refine (hsj.out _).mono ?_; rintro e' w' ⟨rfl, hw'⟩; have hw2 := hw'.symm; subst hw2)
                    go_quiet (first | (go_at_call 32; exact Calls.quiet_of_same (hsj.out _)))
                    go_wp2_with (go_at_call 50; refine (hqt.out _).mono ?_; rintro e' w' ⟨rfl, hw'⟩; have hw2 := hw'.symm; subst hw2)
                    refine bodyPost_ret (v := .tuple #[.agg #[.string ⟨#[]⟩, .int .u8 0, .string ⟨#[]⟩], .int .i64 0]) ?_ rfl ⟨congrArg Ending.returned e, below_set3 (below_drewN hlowU.out) (Nat.le_refl _)⟩
                    simp [results, Try.results36, go_sem, g0, g1, g2]
                  | some p =>
                    obtain ⟨v, r⟩ := p
                    have e := hRs.out 2 v r (takeR_yes hcut.out hTS2 hv)
                    rw [hv] at hqt
                    have hvi := congrArg List.length (takeV_inv hv)
                    rw [List.length_append, List.length_drop] at hvi
                    have hql := (item_len ([], v)).1
                    unfold item at hql
                    simp at hql
                    have hu : n + 2 + ((s.drop (n + 2)).length - r.length) = s.length - r.length := by
                      rw [List.length_drop]
                      omega
                    have hu0 : 0 < (s.drop (n + 2)).length - r.length := by
                      rw [List.length_drop]
                      omega
                    simp only [quotedV, str] at hqt
                    generalize (s.drop (n + 2)).length - r.length = u at *
                    rw [← hu, show ((n + 2 + u : Nat) : Int) = (n : Int) + 2 + (u : Int) by omega] at e
                    have hul : u ≤ 4000000000 := by omega
                    have t1 : ((u : Int) == 0) = false := by simp; omega
                    have c8 : IntKind.i64.wrap ((n : Int) + 2 + (u : Int)) = (n : Int) + 2 + (u : Int) := by rw [IntKind.wrap_i64]; omega
                    clear hpn hpt hTS hq hRn hRs hcut hTS2 htr hv hu hu0 hvi hql
                    replace e := hid e
                    go_wp2_with (go_at_call 32; refine (hsj.out _).mono ?_; rintro e' w' ⟨rfl, hw'⟩; have hw2 := hw'.symm; subst hw2)
                    go_quiet (first | (go_at_call 32; exact Calls.quiet_of_same (hsj.out _)))
                    go_wp2_with (go_at_call 50; refine (hqt.out _).mono ?_; rintro e' w' ⟨rfl, hw'⟩; have hw2 := hw'.symm; subst hw2)
                    refine bodyPost_ret (v := .tuple #[.agg #[.string ⟨(s.take n).toArray⟩, .int .u8 2, .string ⟨v.toArray⟩], .int .i64 ((n : Int) + 2 + (u : Int))]) ?_ rfl ⟨congrArg Ending.returned e.out, below_set3 (below_drewN hlowU.out) (Nat.le_refl _)⟩
                    simp [results, Try.results36, go_sem, g0, g1, g2]
              · have d1 : decide ((n : Int) + 2 ≤ (s.length : Int)) = false := by simp; omega
                have d1' : decide (n + 2 ≤ s.length) = false := by simp; omega
                have hq' := hpn (by
                  rw [hpt, show opS 2 = [94, 61] from rfl, show ([94, 61] : Tx).length = 2 from rfl, decide_eq_false (by simp; omega : ¬ 2 ≤ (s.drop n).length)]
                  rfl)
                clear hpn hpt hTS hq hRn hRs hcut
                go_wp2_with (go_at_call 32; refine (hsj.out _).mono ?_; rintro e' w' ⟨rfl, hw'⟩; have hw2 := hw'.symm; subst hw2)
                go_quiet (first | (go_at_call 32; exact Calls.quiet_of_same (hsj.out _)))
                go_wp2
                obtain ⟨q', hq''⟩ := hdd.out nq
                exact ⟨⟨2 + 1, q', by omega, by go_num, hq', hq''⟩, by simp [intOf]⟩
          · obtain rfl : j = 3 := by omega
            have e := hRn.out (takeR_no hcut.out (takeS_no (hq.out 0 (by omega)) (hq.out 1 (by omega)) (hq.out 2 (by omega))))
            clear hRn hRs hcut hq
            go_wp2
            refine bodyPost_ret (v := .tuple #[.agg #[.string ⟨#[]⟩, .int .u8 0, .string ⟨#[]⟩], .int .i64 0]) ?_ rfl ⟨congrArg Ending.returned e, below_set3 (hlowU.out) (Nat.le_refl _)⟩
            simp [results, Try.results36, go_sem, g0, g1, g2]
      · rw [hc] at hmn
        have hp' : Hid (∀ i, i < n + 1 → nmc (s.getD i 0) = true) := fun i hi => by
          by_cases e : i = n
          · subst e; rw [← hcd]; exact hc
          · exact hp.out i (by omega)
        clear hp hcd hc hnm
        go_wp2_with (go_at_call 26; refine (hmn.out _).mono ?_; rintro e' w' ⟨rfl, hw'⟩; have hw2 := hw'.symm; subst hw2)
        exact ⟨⟨n + 1, by omega, by go_num, hp'⟩, by simp [intOf]; omega⟩
    · have hlt' : ¬ (n : Int) < (s.length : Int) := by omega
      have hcut : cutR s = (s.take n, s.drop n) := cutR_pos s n (by omega) hp.out (fun h => absurd h hlt)
      clear hnm
      go_wp2
      have hRn : Hid (takeR s = none → Value.tuple #[.agg #[.string ⟨#[]⟩, .int .u8 0, .string ⟨#[]⟩], .int .i64 0] = R) := fun h => by rw [← hR.out, h]; rfl
      have hRs : Hid (∀ (o : UInt8) (v r : Tx), takeR s = some ((s.take n, o, v), r) → Value.tuple #[.agg #[.string ⟨(s.take n).toArray⟩, .int .u8 (o.toNat : Int), .string ⟨v.toArray⟩], .int .i64 ((s.length - r.length : Nat) : Int)] = R) := fun o v r h => by rw [← hR.out, h]; rfl
      clear hR hp
      replace hcut := hid hcut
      go_loopw [5] (fun ov wr => ∃ j q : Nat, j ≤ 3 ∧ ov = .int .u8 (j : Int) ∧ Hid (∀ i, i < j → Lib.hasPrefix (s.drop n) (opS (UInt8.ofNat i)) = false) ∧ wr = (w.alloc (.cells #[.string ⟨#[]⟩, .int .u8 0, .string ⟨#[]⟩] 37)).drewN q) (fun ov _ => 3 - (intOf ov).toNat)
      case atStart => exact ⟨0, 0, by omega, rfl, (fun i hi => by omega), rfl⟩
      case round =>
        obtain ⟨j, q, hj, rfl, hq, rfl⟩ := hrel
        have hdd : Hid (∀ n, ∃ q', ((w.alloc (.cells #[.string ⟨#[]⟩, .int .u8 0, .string ⟨#[]⟩] 37)).drewN q).drewN n = (w.alloc (.cells #[.string ⟨#[]⟩, .int .u8 0, .string ⟨#[]⟩] 37)).drewN q') := fun n => ⟨_, World.drewN_drewN ..⟩
        have hlowU : Hid (Below w.heap.size w ((w.alloc (.cells #[.string ⟨#[]⟩, .int .u8 0, .string ⟨#[]⟩] 37)).drewN q)) := below_drewN (alloc_below _ _)
        obtain ⟨g0, g1, g2, f0, f1, f2⟩ := boxM_new w ((w.alloc (.cells #[.string ⟨#[]⟩, .int .u8 0, .string ⟨#[]⟩] 37)).drewN q) (below_drewN (n := q) (Below.refl _ _))
        generalize (w.alloc (.cells #[.string ⟨#[]⟩, .int .u8 0, .string ⟨#[]⟩] 37)).drewN q = U at *
        by_cases hj3 : j < 3
        · rcases (by omega : j = 0 ∨ j = 1 ∨ j = 2) with rfl | rfl | rfl
          · have hsj := hid (rsign_any 0)
            rw [show opS 0 = [61] from rfl] at hsj
            have hTS := hid (fun (h : Lib.hasPrefix (s.drop n) (opS 0) = true) => takeS_yes h (by decide))
            have hpt := pre_take (s.drop n) (opS 0)
            have hpn : Lib.hasPrefix (s.drop n) (opS 0) = false → Hid (∀ i, i < 0 + 1 → Lib.hasPrefix (s.drop n) (opS (UInt8.ofNat i)) = false) := fun h i hi => by
              by_cases e : i = 0
              · subst e; exact h
              · exact hq.out i (by omega)
            unfold str at hsj
            have c5 : IntKind.i64.wrap ((n : Int) + 1) = (n : Int) + 1 := by rw [IntKind.wrap_i64]; omega
            by_cases hk : n + 1 ≤ s.length
            · exact absurd hk (by omega)
            · have d1 : decide ((n : Int) + 1 ≤ (s.length : Int)) = false := by simp; omega
              have d1' : decide (n + 1 ≤ s.length) = false := by simp; omega
              have hq' := hpn (by
                rw [hpt, show opS 0 = [61] from rfl, show ([61] : Tx).length = 1 from rfl, decide_eq_false (by simp; omega : ¬ 1 ≤ (s.drop n).length)]
                rfl)
              clear hpn hpt hTS hq hRn hRs hcut
              go_wp2_with (go_at_call 32; refine (hsj.out _).mono ?_; rintro e' w' ⟨rfl, hw'⟩; have hw2 := hw'.symm; subst hw2)
              go_quiet (first | (go_at_call 32; exact Calls.quiet_of_same (hsj.out _)))
              go_wp2
              obtain ⟨q', hq''⟩ := hdd.out nq
              exact ⟨⟨0 + 1, q', by omega, by go_num, hq', hq''⟩, by simp [intOf]⟩
          · have hsj := hid (rsign_any 1)
            rw [show opS 1 = [33, 61] from rfl] at hsj
            have hTS := hid (fun (h : Lib.hasPrefix (s.drop n) (opS 1) = true) => takeS_yes h (by decide))
            have hpt := pre_take (s.drop n) (opS 1)
            have hpn : Lib.hasPrefix (s.drop n) (opS 1) = false → Hid (∀ i, i < 1 + 1 → Lib.hasPrefix (s.drop n) (opS (UInt8.ofNat i)) = false) := fun h i hi => by
              by_cases e : i = 1
              · subst e; exact h
              · exact hq.out i (by omega)
            unfold str at hsj
            have c5 : IntKind.i64.wrap ((n : Int) + 2) = (n : Int) + 2 := by rw [IntKind.wrap_i64]; omega
            by_cases hk : n + 2 ≤ s.length
            · exact absurd hk (by omega)
            · have d1 : decide ((n : Int) + 2 ≤ (s.length : Int)) = false := by simp; omega
              have d1' : decide (n + 2 ≤ s.length) = false := by simp; omega
              have hq' := hpn (by
                rw [hpt, show opS 1 = [33, 61] from rfl, show ([33, 61] : Tx).length = 2 from rfl, decide_eq_false (by simp; omega : ¬ 2 ≤ (s.drop n).length)]
                rfl)
              clear hpn hpt hTS hq hRn hRs hcut
              go_wp2_with (go_at_call 32; refine (hsj.out _).mono ?_; rintro e' w' ⟨rfl, hw'⟩; have hw2 := hw'.symm; subst hw2)
              go_quiet (first | (go_at_call 32; exact Calls.quiet_of_same (hsj.out _)))
              go_wp2
              obtain ⟨q', hq''⟩ := hdd.out nq
              exact ⟨⟨1 + 1, q', by omega, by go_num, hq', hq''⟩, by simp [intOf]⟩
          · have hsj := hid (rsign_any 2)
            rw [show opS 2 = [94, 61] from rfl] at hsj
            have hTS := hid (fun (h : Lib.hasPrefix (s.drop n) (opS 2) = true) => takeS_yes h (by decide))
            have hpt := pre_take (s.drop n) (opS 2)
            have hpn : Lib.hasPrefix (s.drop n) (opS 2) = false → Hid (∀ i, i < 2 + 1 → Lib.hasPrefix (s.drop n) (opS (UInt8.ofNat i)) = false) := fun h i hi => by
              by_cases e : i = 2
              · subst e; exact h
              · exact hq.out i (by omega)
            unfold str at hsj
            have c5 : IntKind.i64.wrap ((n : Int) + 2) = (n : Int) + 2 := by rw [IntKind.wrap_i64]; omega
            by_cases hk : n + 2 ≤ s.length
            · exact absurd hk (by omega)
            · have d1 : decide ((n : Int) + 2 ≤ (s.length : Int)) = false := by simp; omega
              have d1' : decide (n + 2 ≤ s.length) = false := by simp; omega
              have hq' := hpn (by
                rw [hpt, show opS 2 = [94, 61] from rfl, show ([94, 61] : Tx).length = 2 from rfl, decide_eq_false (by simp; omega : ¬ 2 ≤ (s.drop n).length)]
                rfl)
              clear hpn hpt hTS hq hRn hRs hcut
              go_wp2_with (go_at_call 32; refine (hsj.out _).mono ?_; rintro e' w' ⟨rfl, hw'⟩; have hw2 := hw'.symm; subst hw2)
              go_quiet (first | (go_at_call 32; exact Calls.quiet_of_same (hsj.out _)))
              go_wp2
              obtain ⟨q', hq''⟩ := hdd.out nq
              exact ⟨⟨2 + 1, q', by omega, by go_num, hq', hq''⟩, by simp [intOf]⟩
        · obtain rfl : j = 3 := by omega
          have e := hRn.out (takeR_no hcut.out (takeS_no (hq.out 0 (by omega)) (hq.out 1 (by omega)) (hq.out 2 (by omega))))
          clear hRn hRs hcut hq
          go_wp2
          refine bodyPost_ret (v := .tuple #[.agg #[.string ⟨#[]⟩, .int .u8 0, .string ⟨#[]⟩], .int .i64 0]) ?_ rfl ⟨congrArg Ending.returned e, below_set3 (hlowU.out) (Nat.le_refl _)⟩
          simp [results, Try.results36, go_sem, g0, g1, g2]
end Go.Proofs.Ythbdghbfhjimkaa
