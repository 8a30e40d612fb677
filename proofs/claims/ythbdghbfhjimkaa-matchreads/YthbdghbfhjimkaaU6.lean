/- strings.IndexAny at the three signs, for any bytes. -/
import Derived.Test.YthbdghbfhjimkaaU5
import Derived.Lib.OthersKept
import Derived.Lib.IndexAny
namespace Go.Proofs.Ythbdghbfhjimkaa
open Go.RowKit Go.Shelf

theorem decode_cont (s : ByteArray) (i : Nat) : ∀ k, 0 < k → k < (Utf8.decode s i).2 → i + k < s.size ∧ 128 ≤ (s.get! (i + k)).toNat := by
  intro k h0 hk
  have key : ∀ k, (decide (i + k < s.size) && (s.get! (i + k)).toNat / 64 == 2) = true → i + k < s.size ∧ 128 ≤ (s.get! (i + k)).toNat := by
    intro k h
    rw [Bool.and_eq_true, decide_eq_true_iff, beq_iff_eq] at h
    exact ⟨h.1, by omega⟩
  unfold Utf8.decode at hk
  simp only at hk
  split at hk
  · simp at hk; omega
  · split at hk
    · rename_i h
      rw [Bool.and_eq_true] at h
      split at hk
      · simp at hk
        obtain rfl : k = 1 := by omega
        exact key 1 h.2
      · simp at hk; omega
    · split at hk
      · rename_i h
        rw [Bool.and_eq_true, Bool.and_eq_true] at h
        split at hk
        · simp at hk
          rcases (by omega : k = 1 ∨ k = 2) with rfl | rfl
          · exact key 1 h.1.2
          · exact key 2 h.2
        · simp at hk; omega
      · split at hk
        · rename_i h
          rw [Bool.and_eq_true, Bool.and_eq_true, Bool.and_eq_true] at h
          split at hk
          · simp at hk
            rcases (by omega : k = 1 ∨ k = 2 ∨ k = 3) with rfl | rfl | rfl
            · exact key 1 h.1.1.2
            · exact key 2 h.1.2
            · exact key 3 h.2
          · simp at hk; omega
        · simp at hk; omega
theorem get_str (s : Tx) (i : Nat) : (⟨s.toArray⟩ : ByteArray).get! i = s.getD i 0 := by
  show (s.toArray)[i]! = _
  by_cases h : i < s.length
  · simp [List.getD, h]
  · rw [getElem!_neg _ _ (by simpa using h)]
    simp [List.getD, List.getElem?_eq_none (Nat.le_of_not_lt h)]
    rfl
def sgs : Tx := [61, 33, 94]
theorem sgs_sgn (c : UInt8) : sgs.contains c = sgn c := by
  have h : ∀ a b : UInt8, (a == b) = (a.toNat == b.toNat) := fun a b => by
    by_cases e : a = b
    · subst e; simp
    · rw [show (a == b) = false by simpa using e, show (a.toNat == b.toNat) = false by simpa using fun e2 => e (UInt8.toNat_inj.1 e2)]
  unfold sgs sgn
  simp only [List.contains_cons, List.contains_nil, Bool.or_false]
  rw [h, h, h]
  simp [Bool.or_assoc]
theorem sgn_high {c : UInt8} (h : 128 ≤ c.toNat) : sgn c = false := by
  unfold sgn
  simp
  omega
set_option maxHeartbeats 4000000 in
set_option maxRecDepth 1000000 in
theorem any_short (s : Tx) (w : World) (h8 : s.length ≤ 8) : Calls Try.prog 53 #[str s, .string signs] w fun e w' => e = .returned (.int .i64 (Lib.indexAny s sgs)) ∧ Below w.heap.size w w' := by
  have hsz : (⟨s.toArray⟩ : ByteArray).size = s.length := size_of s
  have hs3 : signs.size = 3 := rfl
  have hemp : signs.toList.isEmpty = false := by rw [Lib.toList_data]; rfl
  have hn1 : ((3 : Int) == 1) = false := rfl
  have h8z : decide ((8 : Int) < (s.length : Int)) = false := decide_eq_false (by omega)
  have hsh := hid (fun w => Try.strings_shouldUseASCIISet (s.length : Int) w)
  rw [h8z] at hsh
  unfold str
  go_enter Try.func53, Try.ntmps53
  go_wp2_with (go_at_call 61; refine (hsh.out _).mono ?_; rintro e w' ⟨rfl, hw⟩; have hw2 := hw.symm; subst hw2)
  go_loopg [9, 10] s.length (fun g _ _ wx => ∃ i : Nat, i + g = s.length ∧ Hid (wx.heap[w.heap.size]? = some (.stringIter ⟨s.toArray⟩ i)) ∧ Hid (Below w.heap.size w wx) ∧ Hid (Lib.NoAny s sgs i))
  case atStart => exact ⟨0, by omega, w.iter_heap ⟨s.toArray⟩ 0, alloc_below _ _, Lib.NoAny.zero _ _⟩
  case round =>
    obtain ⟨i, hig, hit, hB, hno⟩ := hrel
    obtain ⟨V, rfl⟩ : ∃ V : World, V = wr := ⟨_, rfl⟩
    cases gk with
    | zero =>
      obtain rfl : i = s.length := by omega
      have hnx := fun ty => Lib.run_next_end_at (P := Try.prog) V w.heap.size ⟨s.toArray⟩ s.length ty hit.out (by rw [hsz]; omega)
      have e : Hid (Lib.indexAny s sgs = -1) := Lib.indexAny_none hno.out
      go_wp2
      go_ret
      exact ⟨by rw [e.out]; rfl, hB.out⟩
    | succ g =>
      have hi : i < s.length := by omega
      have hnx := fun ty => Lib.run_next_any_at (P := Try.prog) V w.heap.size ⟨s.toArray⟩ i ty hit.out (by rw [hsz]; exact hi)
      obtain ⟨x, hx⟩ : ∃ x : UInt8, s.getD i 0 = x := ⟨_, rfl⟩
      have hxl : s[i]? = some x := by rw [← hx]; simp [List.getD, List.getElem?_eq_getElem hi]
      have hgx : (⟨s.toArray⟩ : ByteArray)[i]'(by rw [hsz]; exact hi) = x := by rw [get_at hi, hx]
      have hit2 := fun p => Lib.iterAt_heap V w.heap.size ⟨s.toArray⟩ i p hit.out
      have hB2 := fun p => Lib.below_iterAt hB.out (Nat.le_refl _) ⟨s.toArray⟩ p
      by_cases h128 : x.toNat < 128
      · have hdec := decode_ascii ⟨s.toArray⟩ i (by rw [hsz]; exact hi) (by rw [hgx]; exact h128)
        rw [hgx] at hdec
        rw [hdec] at hnx
        replace hit2 := hid (hit2 (i + 1))
        replace hB2 := hid (hB2 (i + 1))
        have hir := hid (fun w => Try.strings_IndexRune_ascii signs (x.toNat : Int) w (by omega) (by omega))
        have hcon := Lib.contains_iff_indexByte sgs x
        rw [show ((x.toNat : Int)).toNat.toUInt8 = x by simp] at hir
        obtain ⟨y, hy⟩ : ∃ y, Lib.indexByte signs.data.toList x = y := ⟨_, rfl⟩
        rw [hy] at hir
        rw [show Lib.indexByte sgs x = y from hy, sgs_sgn] at hcon
        clear hy hit hB hgx hdec
        cases hsg : sgn x
        · rw [hsg] at hcon
          have hlt : ¬ ((0 : Int) ≤ y) := of_decide_eq_false hcon.symm
          have hno' : Hid (Lib.NoAny s sgs (i + 1)) := hno.out.succ hxl (by rw [sgs_sgn, hsg])
          clear hcon hno hx hxl
          simp only at hnx
          go_wp2_with (go_at_call 60; refine (hir.out _).mono ?_; rintro e w' ⟨rfl, hw⟩; have hw2 := hw.symm; subst hw2)
          go_roundg g
          case measure => omega
          case rel => exact ⟨i + 1, by omega, hit2, hB2, hno'⟩
        · rw [hsg] at hcon
          have hge : (0 : Int) ≤ y := of_decide_eq_true hcon.symm
          have e : Hid (Lib.indexAny s sgs = (i : Int)) := Lib.indexAny_hit hno.out hxl (by rw [sgs_sgn, hsg])
          clear hcon hno hx hxl
          simp only at hnx
          go_wp2_with (go_at_call 60; refine (hir.out _).mono ?_; rintro e w' ⟨rfl, hw⟩; have hw2 := hw.symm; subst hw2)
          go_ret
          exact ⟨by rw [e.out]; rfl, hB2.out⟩
      · have hd := decode_high ⟨s.toArray⟩ i (by rw [hsz]; exact hi) (by rw [hgx]; omega)
        have hle := decode_le ⟨s.toArray⟩ i
        have hct := decode_cont ⟨s.toArray⟩ i
        obtain ⟨R, hR⟩ : ∃ R, (Utf8.decode ⟨s.toArray⟩ i).1 = R := ⟨_, rfl⟩
        obtain ⟨K, hK⟩ : ∃ K, (Utf8.decode ⟨s.toArray⟩ i).2 = K := ⟨_, rfl⟩
        rw [hR, hK] at hnx
        rw [hR, hK] at hd
        rw [hR] at hle
        rw [hK] at hct
        obtain ⟨hd1, hd2⟩ := hd
        have hiK : i + K ≤ s.length := by
          by_cases hK1 : K = 1
          · omega
          · have := (hct (K - 1) (by omega) (by omega)).1
            rw [hsz] at this
            omega
        have hno' : Hid (Lib.NoAny s sgs (i + K)) := fun j b hj hb => by
          by_cases hji : j < i
          · exact hno.out j b hji hb
          · rw [sgs_sgn]
            by_cases e : j = i
            · subst e
              rw [hxl] at hb
              cases hb
              exact sgn_high (by omega)
            · have := (hct (j - i) (by omega) (by omega)).2
              rw [show i + (j - i) = j by omega, get_str] at this
              simp only [List.getD, hb, Option.getD_some] at this
              exact sgn_high this
        have hlt1 : w.heap.size < V.heap.size := (Array.getElem?_eq_some_iff.1 hit.out).1
        replace hit2 := hit2 (i + K)
        replace hB2 := hB2 (i + K)
        obtain ⟨U, hU⟩ : ∃ U, V.iterAt w.heap.size ⟨s.toArray⟩ (i + K) = U := ⟨_, rfl⟩
        rw [hU] at hnx hit2 hB2
        have hltU : w.heap.size < U.heap.size := (Array.getElem?_eq_some_iff.1 hit2).1
        have hir := hid (fun w => rune_high (R : Int) w (by omega) (by omega))
        have hitN : ∀ W, Below U.heap.size U W → Hid (W.heap[w.heap.size]? = some (.stringIter ⟨s.toArray⟩ (i + K))) ∧ Hid (Below w.heap.size w W) := fun W hW => ⟨(hW.block _ hltU).trans hit2, low' hB2 hW⟩
        replace hitN := hid hitN
        clear hct hgx hx hxl hno hit hB hit2 hB2 hR hK hU
        go_wp2_with (go_at_call 60; refine (hir.out _).mono ?_; rintro e w' ⟨rfl, b5⟩; obtain ⟨k1, k2⟩ := hitN.out w' b5; clear b5)
        go_roundg (s.length - (i + K))
        case measure => omega
        case rel => exact ⟨i + K, by omega, k1, k2, hno'⟩
theorem any_long (s : Tx) (w : World) (h8 : 8 < s.length) (hs : s.length ≤ 4000000000) : Calls Try.prog 53 #[str s, .string signs] w fun e w' => e = .returned (.int .i64 (Lib.indexAny s sgs)) ∧ Below w.heap.size w w' := by
  refine (Try.strings_IndexAny_long (by intro w; kernel_rfl) ⟨s.toArray⟩ signs w (by decide) (by rw [size_of]; exact h8) (by rw [size_of]; omega) (by decide) (fun j b hb => ?_)).mono ?_
  · have hb2 : b ∈ sgs := List.mem_of_getElem? hb
    unfold sgs at hb2
    simp at hb2
    rcases hb2 with rfl | rfl | rfl <;> decide
  · rintro e w' ⟨rfl, rfl⟩
    exact ⟨rfl, ((Below.refl _ _).alloc (Nat.le_refl _) _).alloc (by simp) _⟩
/-- where the first sign stands. -/
theorem cutS_index : ∀ (s : Tx), (Lib.indexAny s sgs = -1 ∧ takeS (cutS s).2 = none) ∨ ∃ i : Nat, Lib.indexAny s sgs = (i : Int) ∧ i < s.length ∧ cutS s = (s.take i, s.drop i)
  | [] => .inl ⟨rfl, rfl⟩
  | c :: t => by
    rw [Lib.indexAny, cutS, sgs_sgn]
    cases hc : sgn c
    · rw [if_neg (by simp : ¬ (false = true)), if_neg (by simp : ¬ (false = true))]
      rcases cutS_index t with ⟨h1, h2⟩ | ⟨i, h1, h2, h3⟩
      · rw [h1]
        exact .inl ⟨rfl, h2⟩
      · rw [h1, h3, if_neg (by simp <;> omega)]
        exact .inr ⟨i + 1, by omega, by simpa using h2, by simp⟩
    · rw [if_pos rfl, if_pos rfl]
      exact .inr ⟨0, rfl, by simp, by simp⟩
theorem any_any (s : Tx) (w : World) (hs : s.length ≤ 4000000000) : Calls Try.prog 53 #[str s, .string signs] w fun e w' => e = .returned (.int .i64 (Lib.indexAny s sgs)) ∧ Below w.heap.size w w' := by
  by_cases h : s.length ≤ 8
  · exact any_short s w h
  · exact any_long s w (by omega) hs
end Go.Proofs.Ythbdghbfhjimkaa
