/- Contract of the document's Parse. -/
import Derived.Test.YthcbekccnmdgaaaR3
import Derived.Test.YthcbekccnmdgaaaV2
namespace Go.Proofs.Ythcbekccnmdgaaa
open Go.RowKit Go.Shelf

theorem gr_end (f : Nat) (l : List Lb) (t : Tx) : goR (f + 1) l (125 :: t) = if mayL l then some (l, t) else none := by simp [goR]
theorem gr_none {f : Nat} {l : List Lb} {c0 : UInt8} {s : Tx} (h0 : c0 ≠ 125) (h : takeL (c0 :: s) = none) : goR (f + 1) l (c0 :: s) = none := by
  rw [goR]
  simp only [h0, if_false, h]
theorem gr_nil {f : Nat} {l : List Lb} {c0 : UInt8} {s : Tx} {x : Lb} (h0 : c0 ≠ 125) (h : takeL (c0 :: s) = some (x, [])) : goR (f + 1) l (c0 :: s) = none := by
  rw [goR]
  simp only [h0, if_false, h]
theorem gr_bad {f : Nat} {l : List Lb} {c0 c : UInt8} {s t : Tx} {x : Lb} (h0 : c0 ≠ 125) (h : takeL (c0 :: s) = some (x, c :: t)) (h1 : c ≠ 44 ∧ c ≠ 125 ∨ 4 < l.length + 1) : goR (f + 1) l (c0 :: s) = none := by
  rw [goR]
  simp only [h0, if_false, h]
  by_cases hc : c ≠ 44 ∧ c ≠ 125
  · rw [if_pos hc]
  · rw [if_neg hc]
    rcases h1 with h1 | h1
    · exact absurd h1 hc
    · rw [if_pos h1]
theorem gr_comma0 {f : Nat} {l : List Lb} {c0 : UInt8} {s : Tx} {x : Lb} (h0 : c0 ≠ 125) (h : takeL (c0 :: s) = some (x, [44])) : goR (f + 1) l (c0 :: s) = none := by
  rw [goR]
  simp only [h0, if_false, h]
  split
  · rfl
  · split <;> rfl
theorem gr_comma1 {f : Nat} {l : List Lb} {c0 : UInt8} {s t : Tx} {x : Lb} (h0 : c0 ≠ 125) (h : takeL (c0 :: s) = some (x, 44 :: 125 :: t)) : goR (f + 1) l (c0 :: s) = none := by
  rw [goR]
  simp only [h0, if_false, h]
  split
  · rfl
  · split <;> rfl
theorem gr_comma {f : Nat} {l : List Lb} {c0 d : UInt8} {s t : Tx} {x : Lb} (h0 : c0 ≠ 125) (h : takeL (c0 :: s) = some (x, 44 :: d :: t)) (hd : d ≠ 125) (h4 : l.length + 1 ≤ 4) : goR (f + 1) l (c0 :: s) = goR f (l ++ [x]) (d :: t) := by
  rw [goR]
  simp only [h0, if_false, h]
  rw [if_neg (by simp), if_neg (by omega), if_pos trivial, if_neg hd]
theorem gr_brace {f : Nat} {l : List Lb} {c0 : UInt8} {s t : Tx} {x : Lb} (h0 : c0 ≠ 125) (h : takeL (c0 :: s) = some (x, 125 :: t)) (h4 : l.length + 1 ≤ 4) : goR (f + 1) l (c0 :: s) = goR f (l ++ [x]) (125 :: t) := by
  rw [goR]
  simp only [h0, if_false, h]
  rw [if_neg (by simp), if_neg (by omega), if_neg (by decide)]
theorem parse_goR (d : UInt8) (t : Tx) : parseP (123 :: d :: t) = goR (t.length + 3) [] (d :: t) := by
  rw [parse_cons]
  by_cases hd : d = 125
  · subst hd
    rw [if_pos rfl, gr_end]
    rfl
  · rw [if_neg hd]
    exact (goR_eq _ _ [] d t (by omega) (by omega) rfl hd).symm
/-- what the document's Parse tells. -/
def RPost (w : World) (R : Option (List Lb × Tx)) (e : Ending) (w' : World) : Prop :=
  Below w.heap.size w w' ∧ match R with
    | none => e = .returned (.tuple #[.slice none 0 0, .string ⟨#[]⟩, .int .i64 70])
    | some (l, t) => ∃ v, e = .returned (.tuple #[v, .string ⟨t.toArray⟩, .int .i64 0]) ∧ OwnL w.heap.size w' v l
theorem rpost_none {w w' : World} (h : Below w.heap.size w w') : RPost w none (.returned (.tuple #[.slice none 0 0, .string ⟨#[]⟩, .int .i64 70])) w' := ⟨h, rfl⟩
/-- the name that stands ahead of the first =, by places. -/
theorem cut_places {s : Tx} {at_ n : Nat} (h1 : at_ ≤ n) (hn : n < s.length) (hno : ∀ k, at_ ≤ k → k < n → s.getD k 0 ≠ 61) (h61 : s.getD n 0 = 61) : cutE (s.drop at_) = some ((s.take n).drop at_, s.drop (n + 1)) := by
  have e : s.drop at_ = (s.take n).drop at_ ++ 61 :: s.drop (n + 1) := by
    have := drop_at hn
    rw [h61] at this
    rw [← this, List.drop_take]
    conv => lhs; rw [← List.take_append_drop (n - at_) (s.drop at_)]
    rw [List.drop_drop]
    congr 2
    omega
  rw [e]
  refine cutE_at _ _ fun hm => ?_
  obtain ⟨i, hi⟩ := List.mem_iff_getElem?.1 hm
  rw [List.getElem?_drop] at hi
  have hlt : at_ + i < n := by
    have := (List.getElem?_eq_some_iff.1 hi).1
    simp at this
    omega
  rw [List.getElem?_take_of_lt hlt] at hi
  exact hno (at_ + i) (by omega) hlt (by simp [List.getD, hi])
theorem cut_missing {s : Tx} {at_ : Nat} (hno : ∀ k, at_ ≤ k → k < s.length → s.getD k 0 ≠ 61) : cutE (s.drop at_) = none := by
  refine cutE_none _ fun hm => ?_
  obtain ⟨i, hi⟩ := List.mem_iff_getElem?.1 hm
  rw [List.getElem?_drop] at hi
  have hlt := (List.getElem?_eq_some_iff.1 hi).1
  exact hno (at_ + i) (by omega) hlt (by simp [List.getD, hi])
set_option maxRecDepth 100000 in
set_option maxHeartbeats 8000000 in
theorem rparse_main (s : Tx) (w : World) (hs : s.length ≤ 35184372088832) (h2 : 2 ≤ s.length) (h123 : s.getD 0 0 = 123) (R : Option (List Lb × Tx)) (hR : goR (s.length + 1) [] (s.drop 1) = R) : Calls Try.prog 24 #[str s] w (RPost w R) := by
  have hmay := hid rmay_any
  have hquo := hid quoted_any
  have hget0 := get_at (s := s) (j := 0) (by omega)
  rw [h123] at hget0
  have d2 : decide ((s.length : Int) < 2) = false := by simp; omega
  have hl0 : (0 : Int) < (s.length : Int) := by omega
  replace hR := hid hR
  clear h123
  unfold str at *
  go_enter Try.func24, Try.ntmps24
  go_wp2
  go_loopw [5, 6] (fun lv av wr => ∃ (l : List Lb) (p f : Nat), p < s.length ∧ s.length < f + p + 1 ∧ l.length ≤ 4 ∧ av = .int .i64 (p : Int) ∧ Hid (goR f l (s.drop p) = R) ∧ Hid (OwnL w.heap.size wr lv l) ∧ Hid (Below w.heap.size w wr)) (fun _ av _ => s.length - (intOf av).toNat)
  case atStart => exact ⟨[], 1, s.length + 1, by omega, by omega, by simp, rfl, hR, ownL_nil _ _, Below.refl _ _⟩
  case round =>
    obtain ⟨l, p, f, hp, hf, hl4, rfl, hg, ho, hB⟩ := hrel
    clear hR hget0
    obtain ⟨V, rfl⟩ : ∃ V : World, V = wr := ⟨_, rfl⟩
    obtain ⟨g, rfl⟩ : ∃ g, f = g + 1 := ⟨f - 1, by omega⟩
    obtain ⟨lv, lc, rfl⟩ := ho.out.slice
    have hp' : (p : Int) < (s.length : Int) := by omega
    have hget := get_at hp
    have hdr := drop_at hp
    obtain ⟨c0, hc0⟩ : ∃ c, c = s.getD p 0 := ⟨_, rfl⟩
    rw [← hc0] at hget hdr
    clear hc0
    by_cases h125 : c0.toNat = 125
    · have t125 : ((c0.toNat : Int) == 125) = true := by simp; omega
      have hc125 : c0 = 125 := UInt8.toNat_inj.1 h125
      have e2 : (⟨s.toArray⟩ : ByteArray).extract (p + 1) s.length = ⟨(s.drop (p + 1)).toArray⟩ := by rw [ext_str, List.take_length]
      have c3 : (0 : Int) ≤ (p : Int) + 1 := by omega
      have c4 : (p : Int) + 1 ≤ (s.length : Int) := by omega
      have c5 : IntKind.i64.wrap ((p : Int) + 1) = (p : Int) + 1 := by rw [IntKind.wrap_i64]; omega
      have hR2 : Hid ((if mayL l then some (l, s.drop (p + 1)) else none) = R) := by
        unfold Hid
        rw [← hg.out, hdr, hc125, gr_end]
      have hm := hid (hmay.out _ l V ho.out.isL)
      clear hg hdr h125 hc125 hquo
      cases hml : mayL l with
      | false =>
        rw [hml] at hm
        have hR3 := hR2.out
        rw [if_neg (by rw [hml]; simp)] at hR3
        replace hR3 := hid hR3
        clear hR2 hml ho
        go_wp2_with (go_at_call 12; refine hm.out.mono ?_; rintro e w' ⟨rfl, q, rfl⟩)
        go_ret3
        rw [← hR3.out]
        exact rpost_none (below_drewN hB.out)
      | true =>
        rw [hml] at hm
        have hR3 := hR2.out
        rw [if_pos hml] at hR3
        replace hR3 := hid hR3
        clear hR2 hml
        go_wp2_with (go_at_call 12; refine hm.out.mono ?_; rintro e w' ⟨rfl, q, rfl⟩)
        have ho2 := hid (ho.out.below (below_drewN (n := q) (Below.refl _ _)))
        have hB2 := hid (below_drewN (n := q) hB.out)
        clear ho hB hm
        generalize V.drewN q = V2 at *
        go_quiet (fail)
        go_wp2
        go_ret3
        rw [← hR3.out]
        exact ⟨below_drewN hB2.out, _, rfl, ho2.out.below (below_drewN (Below.refl _ _))⟩
    have t125 : ((c0.toNat : Int) == 125) = false := by simp; omega
    have h125' : c0 ≠ 125 := by rintro rfl; exact h125 rfl
    go_wp2
    go_loop [7] (fun nv => ∃ n : Nat, p ≤ n ∧ n ≤ s.length ∧ nv = .int .i64 (n : Int) ∧ Hid (∀ k, p ≤ k → k < n → s.getD k 0 ≠ 61)) (fun nv => s.length - (intOf nv).toNat)
    case atStart => exact ⟨p, by omega, by omega, rfl, fun k h1 h2 => by omega⟩
    case round =>
      obtain ⟨n, hpn, hn, rfl, hno⟩ := hrel
      by_cases hlt : n < s.length
      · have hlt' : (n : Int) < (s.length : Int) := by omega
        clear hget
        have hget := get_at hlt
        obtain ⟨c, hc⟩ : ∃ c, c = s.getD n 0 := ⟨_, rfl⟩
        rw [← hc] at hget
        by_cases h61 : c.toNat = 61
        · have t61 : ((c.toNat : Int) == 61) = true := by simp; omega
          have hc61 : c = 61 := UInt8.toNat_inj.1 h61
          have hcut := cut_places hpn hlt hno.out (by rw [← hc, hc61])
          have htn : ((n : Int) == (s.length : Int)) = false := by simp; omega
          have e3 : (⟨s.toArray⟩ : ByteArray).extract (n + 1) s.length = ⟨(s.drop (n + 1)).toArray⟩ := by rw [ext_str, List.take_length]
          have e4 : (⟨s.toArray⟩ : ByteArray).extract p n = ⟨((s.take n).drop p).toArray⟩ := ext_str _ _ _
          have c3 : (0 : Int) ≤ (n : Int) + 1 := by omega
          have c4 : (n : Int) + 1 ≤ (s.length : Int) := by omega
          have c5 : IntKind.i64.wrap ((n : Int) + 1) = (n : Int) + 1 := by rw [IntKind.wrap_i64]; omega
          have c6 : (p : Int) ≤ (n : Int) := by omega
          have hqu := hquo.out (s.drop (n + 1)) V (by simp; omega)
          have hnm : ((s.take n).drop p : Tx).length ≤ 35184372088832 := by simp; omega
          have htk : takeL (c0 :: s.drop (p + 1)) = match takeV (s.drop (n + 1)) with
              | none => none
              | some (v, t) => some (((s.take n).drop p, v), t) := by
            rw [← hdr]
            unfold takeL
            rw [hcut]
            rfl
          generalize (s.take n).drop p = nm at *
          clear hcut hno hc hc61 h61
          cases htv : takeV (s.drop (n + 1)) with
          | none =>
            rw [htv] at hqu htk
            have hR2 : Hid (none = R) := by
              unfold Hid
              rw [← hg.out, hdr]
              exact (gr_none h125' htk).symm
            obtain ⟨a1, c1, V2, hrun, o2, b2⟩ := pushL_run ho.out nm [] (by unfold maxLen; omega) (by simp) (by omega) hB.out.size
            have B2 := hid (hB.out.trans b2)
            have hqu' : Hid (Calls Try.prog 36 #[.string ⟨(s.drop (n + 1)).toArray⟩] V fun e w' => e = .returned (.tuple #[.string ⟨#[]⟩, .int .i64 0]) ∧ w' = V) := hqu
            clear hqu htk hg hdr ho o2 b2 h125 h125' hmay hquo htv
            unfold str at hrun
            go_wp2_with (first | (go_at_call 36; refine hqu'.out.mono ?_; rintro e w' ⟨rfl, hw'⟩; have hw2 := hw'.symm; subst hw2) | (at_builtin; refine wpList_append_run _ rfl _ _ 22 rfl _ _ _ _ rfl rfl hrun ?_))
            go_ret3
            rw [← hR2.out]
            exact rpost_none B2.out
          | some qq =>
            obtain ⟨v, u⟩ := qq
            rw [htv] at hqu htk
            have hru := takeV_inv htv
            have hql : 2 ≤ (quote v).length := by unfold quote; simp
            obtain ⟨k, hk⟩ : ∃ k, k = (quote v).length := ⟨_, rfl⟩
            have hrl : (s.drop (n + 1)).length = k + u.length := by rw [hru, List.length_append, ← hk]
            have hsl : s.length = n + 1 + k + u.length := by simp at hrl; omega
            have hkk : (s.drop (n + 1)).length - u.length = k := by omega
            have hvl : v.length ≤ 35184372088832 := by
              have h1 := (item_len ([], v)).1
              have h2 : (item ([], v)).length = (quote v).length + 1 := by simp [item]
              simp at h1
              omega
            obtain ⟨q, hq⟩ : ∃ q, q = n + 1 + k := ⟨_, rfl⟩
            have hdq : s.drop q = u := by
              rw [hq, ← List.drop_drop, hru, hk, List.drop_left]
            have hqv : (n : Int) + 1 + (k : Int) = (q : Int) := by omega
            have cw : IntKind.i64.wrap (q : Int) = (q : Int) := by rw [IntKind.wrap_i64]; omega
            have ck : ((k : Int) == 0) = false := by simp; omega
            have ck' : (k == 0) = false := by simp; omega
            obtain ⟨a1, c1, V2, hrun, o2, b2⟩ := pushL_run ho.out nm v (by unfold maxLen; omega) (by unfold maxLen; omega) (by omega) hB.out.size
            have B2 := hid (hB.out.trans b2)
            replace o2 := hid o2
            have hqu' : Hid (Calls Try.prog 36 #[.string ⟨(s.drop (n + 1)).toArray⟩] V fun e w' => e = .returned (.tuple #[.string ⟨v.toArray⟩, .int .i64 (k : Int)]) ∧ w' = V) := by
              have : quotedV (s.drop (n + 1)) (some (v, u)) = .tuple #[.string ⟨v.toArray⟩, .int .i64 (k : Int)] := by
                show Value.tuple #[.string ⟨v.toArray⟩, .int .i64 (((s.drop (n + 1)).length - u.length : Nat) : Int)] = _
                rw [hkk]
              rw [this] at hqu
              exact hqu
            unfold str at hrun
            clear hqu ho b2 h125 hmay hquo htv hru hrl hkk hql hk
            cases u with
            | nil =>
              have hR2 : Hid (none = R) := by
                unfold Hid
                rw [← hg.out, hdr]
                exact (gr_nil h125' htk).symm
              have g1 : decide ((s.length : Int) ≤ (q : Int)) = true := by simp at hsl ⊢; omega
              have g1' : decide (s.length ≤ q) = true := by simp at hsl ⊢; omega
              clear htk hg hdr h125' hdq hsl hq
              go_wp2_with (first | (go_at_call 36; refine hqu'.out.mono ?_; rintro e w' ⟨rfl, hw'⟩; have hw2 := hw'.symm; subst hw2) | (at_builtin; refine wpList_append_run _ rfl _ _ 22 rfl _ _ _ _ rfl rfl hrun ?_))
              go_ret3
              rw [← hR2.out]
              exact rpost_none B2.out
            | cons x u =>
              have hlq : q < s.length := by rw [hsl, hq]; simp
              have hlq' : (q : Int) < (s.length : Int) := by omega
              have g1 : decide ((s.length : Int) ≤ (q : Int)) = false := by simp; omega
              have g1' : decide (s.length ≤ q) = false := by simp; omega
              have hgetq := get_at hlq
              have hdq2 := drop_at hlq
              rw [hdq] at hdq2
              obtain ⟨hx1, hx2⟩ := List.cons.inj hdq2
              rw [← hx1] at hgetq
              clear hdq2 hx1
              by_cases h4 : 4 < l.length + 1
              · have hR2 : Hid (none = R) := by
                  unfold Hid
                  rw [← hg.out, hdr]
                  exact (gr_bad h125' htk (.inr h4)).symm
                have g4 : decide (4 < (l.length : Int) + 1) = true := by simp; omega
                have g4' : decide (4 < l.length + 1) = true := by simp; omega
                clear htk hg hdr h125' hdq hsl hq h4
                go_wp2_with (first | (go_at_call 36; refine hqu'.out.mono ?_; rintro e w' ⟨rfl, hw'⟩; have hw2 := hw'.symm; subst hw2) | (at_builtin; refine wpList_append_run _ rfl _ _ 22 rfl _ _ _ _ rfl rfl hrun ?_))
                all_goals go_ret3
                all_goals rw [← hR2.out]
                all_goals exact rpost_none B2.out
              have g4 : decide (4 < (l.length : Int) + 1) = false := by simp; omega
              have g4' : decide (4 < l.length + 1) = false := by simp; omega
              by_cases hx44 : x.toNat = 44
              · have x1 : ((x.toNat : Int) == 44) = true := by simp; omega
                have x1' : ((x.toNat : Int) != 44) = false := by simp; omega
                have x2 : ((x.toNat : Int) == 125) = false := by simp; omega
                have x2' : ((x.toNat : Int) != 125) = true := by simp; omega
                have hxe : x = 44 := UInt8.toNat_inj.1 hx44
                rw [hxe] at htk
                have cq : IntKind.i64.wrap ((q : Int) + 1) = (q : Int) + 1 := by rw [IntKind.wrap_i64]; omega
                cases u with
                | nil =>
                  have hR2 : Hid (none = R) := by
                    unfold Hid
                    rw [← hg.out, hdr]
                    exact (gr_comma0 h125' htk).symm
                  have g5 : ((q : Int) + 1 == (s.length : Int)) = true := by simp at hsl ⊢; omega
                  clear htk hg hdr h125' hdq hsl hq h4 hx44 hxe hx2
                  go_wp2_with (first | (go_at_call 36; refine hqu'.out.mono ?_; rintro e w' ⟨rfl, hw'⟩; have hw2 := hw'.symm; subst hw2) | (at_builtin; refine wpList_append_run _ rfl _ _ 22 rfl _ _ _ _ rfl rfl hrun ?_))
                  go_ret3
                  rw [← hR2.out]
                  exact rpost_none B2.out
                | cons y u =>
                  have hlq2 : q + 1 < s.length := by rw [hsl, hq]; simp
                  have hlq2' : (q : Int) + 1 < (s.length : Int) := by omega
                  have g5 : ((q : Int) + 1 == (s.length : Int)) = false := by simp; omega
                  have hget2 := get_at hlq2
                  have hdq3 := drop_at hlq2
                  rw [← hx2] at hdq3
                  obtain ⟨hy1, hy2⟩ := List.cons.inj hdq3
                  rw [← hy1] at hget2
                  clear hdq3 hy1 hy2
                  by_cases hy : y.toNat = 125
                  · have y1 : ((y.toNat : Int) == 125) = true := by simp; omega
                    have hye : y = 125 := UInt8.toNat_inj.1 hy
                    rw [hye] at htk
                    have hR2 : Hid (none = R) := by
                      unfold Hid
                      rw [← hg.out, hdr]
                      exact (gr_comma1 h125' htk).symm
                    clear htk hg hdr h125' hdq hsl hq h4 hx44 hxe hx2 hy hye
                    go_wp2_with (first | (go_at_call 36; refine hqu'.out.mono ?_; rintro e w' ⟨rfl, hw'⟩; have hw2 := hw'.symm; subst hw2) | (at_builtin; refine wpList_append_run _ rfl _ _ 22 rfl _ _ _ _ rfl rfl hrun ?_))
                    go_ret3
                    rw [← hR2.out]
                    exact rpost_none B2.out
                  · have y1 : ((y.toNat : Int) == 125) = false := by simp; omega
                    have hye : y ≠ 125 := by rintro rfl; exact hy rfl
                    have hg2 : Hid (goR g (l ++ [(nm, v)]) (s.drop (q + 1)) = R) := by
                      unfold Hid
                      rw [← hx2, ← hg.out, hdr]
                      exact (gr_comma h125' htk hye (by omega)).symm
                    have hff : q + 1 < s.length ∧ s.length < g + (q + 1) + 1 ∧ (l ++ [(nm, v)]).length ≤ 4 := by
                      refine ⟨hlq2, by omega, by simp; omega⟩
                    have hqp : p < q := by omega
                    replace hff := hid hff
                    replace hqp := hid hqp
                    clear htk hg hdr h125' hdq hsl hq h4 hx44 hxe hx2 hy hye
                    go_wp2_with (first | (go_at_call 36; refine hqu'.out.mono ?_; rintro e w' ⟨rfl, hw'⟩; have hw2 := hw'.symm; subst hw2) | (at_builtin; refine wpList_append_run _ rfl _ _ 22 rfl _ _ _ _ rfl rfl hrun ?_))
                    exact ⟨⟨l ++ [(nm, v)], q + 1, g, hff.out.1, hff.out.2.1, hff.out.2.2, by go_num, hg2, o2, B2⟩, by have := hqp.out; simp [intOf]; omega⟩
              · have x1 : ((x.toNat : Int) == 44) = false := by simp; omega
                have x1' : ((x.toNat : Int) != 44) = true := by simp; omega
                by_cases hx125 : x.toNat = 125
                · have x2 : ((x.toNat : Int) == 125) = true := by simp; omega
                  have x2' : ((x.toNat : Int) != 125) = false := by simp; omega
                  have hxe : x = 125 := UInt8.toNat_inj.1 hx125
                  rw [hxe] at htk
                  have hg2 : Hid (goR g (l ++ [(nm, v)]) (s.drop q) = R) := by
                    unfold Hid
                    rw [hdq, hxe, ← hg.out, hdr]
                    exact (gr_brace h125' htk (by omega)).symm
                  have hff : q < s.length ∧ s.length < g + q + 1 ∧ (l ++ [(nm, v)]).length ≤ 4 := by
                    refine ⟨hlq, by omega, by simp; omega⟩
                  have hqp : p < q := by omega
                  replace hff := hid hff
                  replace hqp := hid hqp
                  clear htk hg hdr h125' hdq hsl hq h4 hx44 hxe hx2 hx125
                  go_wp2_with (first | (go_at_call 36; refine hqu'.out.mono ?_; rintro e w' ⟨rfl, hw'⟩; have hw2 := hw'.symm; subst hw2) | (at_builtin; refine wpList_append_run _ rfl _ _ 22 rfl _ _ _ _ rfl rfl hrun ?_))
                  exact ⟨⟨l ++ [(nm, v)], q, g, hff.out.1, hff.out.2.1, hff.out.2.2, rfl, hg2, o2, B2⟩, by have := hqp.out; simp [intOf]; omega⟩
                · have x2 : ((x.toNat : Int) == 125) = false := by simp; omega
                  have x2' : ((x.toNat : Int) != 125) = true := by simp; omega
                  have hR2 : Hid (none = R) := by
                    unfold Hid
                    rw [← hg.out, hdr]
                    refine (gr_bad h125' htk (.inl ⟨?_, ?_⟩)).symm
                    · rintro rfl; exact hx44 rfl
                    · rintro rfl; exact hx125 rfl
                  clear htk hg hdr h125' hdq hsl hq h4 hx44 hx2 hx125
                  go_wp2_with (first | (go_at_call 36; refine hqu'.out.mono ?_; rintro e w' ⟨rfl, hw'⟩; have hw2 := hw'.symm; subst hw2) | (at_builtin; refine wpList_append_run _ rfl _ _ 22 rfl _ _ _ _ rfl rfl hrun ?_))
                  go_ret3
                  rw [← hR2.out]
                  exact rpost_none B2.out
        · have t61 : ((c.toNat : Int) == 61) = false := by simp; omega
          have hno' : Hid (∀ k, p ≤ k → k < n + 1 → s.getD k 0 ≠ 61) := fun k h1 h2 => by
            by_cases e : k = n
            · subst e
              rw [← hc]
              rintro rfl
              exact h61 rfl
            · exact hno.out k h1 (by omega)
          clear hno hc h61
          go_wp2
          exact ⟨⟨n + 1, by omega, by omega, by go_num, hno'⟩, by simp [intOf]; omega⟩
      · have hlt' : ¬ (n : Int) < (s.length : Int) := by omega
        obtain rfl : n = s.length := by omega
        have hR2 : Hid (none = R) := by
          unfold Hid
          rw [← hg.out, hdr]
          refine (gr_none h125' ?_).symm
          rw [← hdr]
          unfold takeL
          rw [cut_missing hno.out]
        clear hno hg hdr ho h125 h125'
        go_wp2
        go_ret3
        rw [← hR2.out]
        exact rpost_none hB.out
set_option maxHeartbeats 1000000 in
theorem rparse_any (s : Tx) (w : World) (hs : s.length ≤ 35184372088832) : Calls Try.prog 24 #[str s] w (RPost w (parseP s)) := by
  by_cases h2 : s.length < 2
  · have hR : Hid (parseP s = none) := by
      unfold Hid
      match s, h2 with
      | [], _ => rfl
      | [c], _ =>
        by_cases hc : c = 123
        · subst hc; exact parse_one
        · exact parse_no [] hc
    have d2 : decide ((s.length : Int) < 2) = true := by simp; omega
    have d2' : decide (s.length < 2) = true := by simp; omega
    rw [hR.out]
    clear h2
    unfold str
    go_enter Try.func24, Try.ntmps24
    go_wp2
    go_ret3
    exact rpost_none (Below.refl _ _)
  · by_cases h123 : (s.getD 0 0).toNat = 123
    · have hc := UInt8.toNat_inj.1 (show (s.getD 0 0).toNat = (123 : UInt8).toNat from h123)
      refine rparse_main s w hs (by omega) hc _ ?_
      have h0 := drop_at (s := s) (i := 0) (by omega)
      have h1 := drop_at (s := s) (i := 1) (by omega)
      rw [List.drop_zero, hc, Nat.zero_add, h1] at h0
      have hp : parseP s = goR ((s.drop 2).length + 3) [] (s.getD 1 0 :: s.drop 2) := by
        conv => lhs; rw [h0]
        exact parse_goR _ _
      rw [hp, h1, show (s.drop 2).length + 3 = s.length + 1 by simp; omega]
    · have d2 : decide ((s.length : Int) < 2) = false := by simp; omega
      have d2' : decide (s.length < 2) = false := by simp; omega
      have hget0 := get_at (s := s) (j := 0) (by omega)
      have hl0 : (0 : Int) < (s.length : Int) := by omega
      have hR : Hid (parseP s = none) := by
        unfold Hid
        have h0 := drop_at (s := s) (i := 0) (by omega)
        rw [List.drop_zero] at h0
        rw [h0]
        exact parse_no _ (fun e => h123 (by rw [e]; rfl))
      obtain ⟨c, hc⟩ : ∃ c, c = s.getD 0 0 := ⟨_, rfl⟩
      rw [← hc] at h123 hget0
      have t0 : ((c.toNat : Int) == 123) = false := by simp; omega
      have t0' : ((c.toNat : Int) != 123) = true := by simp; omega
      rw [hR.out]
      clear hc h123
      unfold str
      go_enter Try.func24, Try.ntmps24
      go_wp2
      go_ret3
      exact rpost_none (Below.refl _ _)
end Go.Proofs.Ythcbekccnmdgaaa
