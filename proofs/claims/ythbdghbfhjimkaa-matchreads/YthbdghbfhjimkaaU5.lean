/- strings.IndexRune in a text of three letters, at a rune that is none of them; strings.IndexAny at the three signs, for any bytes. -/
import Derived.Test.YthbdghbfhjimkaaShelf
import Derived.Test.YthbdghbfhjimkaaK
import Derived.Test.YthbdghbfhjimkaaV1
import Derived.Laws.RangeAny
import Derived.Laws.RangeString
import Derived.Deep.LoopGhost
namespace Go.Proofs.Ythbdghbfhjimkaa
open Go.RowKit Go.Shelf

theorem encode_high (r : Int) (h : 128 ≤ r) : (∃ a b, Utf8.encode r = ⟨#[a, b]⟩ ∧ 128 ≤ b.toNat) ∨ (∃ a b c, Utf8.encode r = ⟨#[a, b, c]⟩ ∧ 128 ≤ c.toNat) ∨ ∃ a b c d, Utf8.encode r = ⟨#[a, b, c, d]⟩ ∧ 128 ≤ d.toNat := by
  unfold Utf8.encode
  have hc : 128 ≤ (if Utf8.valid r then r.toNat else Utf8.runeError) := by
    split
    · omega
    · decide
  generalize (if Utf8.valid r then r.toNat else Utf8.runeError) = c at *
  have hm : 128 ≤ (UInt8.ofNat (0x80 + c % 64)).toNat := by
    rw [UInt8.toNat_ofNat']
    omega
  simp only
  rw [if_neg (by omega)]
  split
  · exact .inl ⟨_, _, rfl, hm⟩
  · split
    · exact .inr (.inl ⟨_, _, _, rfl, hm⟩)
    · exact .inr (.inr ⟨_, _, _, _, rfl, hm⟩)
def signs : ByteArray := ⟨#[61, 33, 94]⟩
theorem signs_at (pos : Nat) (h : pos < signs.size) : (signs[pos]'h).toNat < 128 := by
  have h3 : pos < 3 := h
  have e : signs[pos]'h = ([61, 33, 94] : List UInt8)[pos]'h3 := by
    simp [signs, ByteArray.getElem_eq_getElem_data]
  rw [e]
  rcases (by omega : pos = 0 ∨ pos = 1 ∨ pos = 2) with e | e | e <;> (subst e; show UInt8.toNat _ < 128; simp)
theorem signs_size : signs.size = 3 := rfl
theorem bytes_high {c : UInt8} (h : 128 ≤ c.toNat) : c ≠ 61 ∧ c ≠ 33 ∧ c ≠ 94 := by
  refine ⟨?_, ?_, ?_⟩ <;> (rintro rfl; exact absurd h (by decide))
theorem index_high (c : UInt8) (h : 128 ≤ c.toNat) (k : Nat) : Lib.indexByte (signs.extract k 3).data.toList c = -1 := by
  obtain ⟨h1, h2, h3⟩ := bytes_high h
  have : ∀ l : List UInt8, (∀ x ∈ l, x ≠ c) → Lib.indexByte l c = -1 := by
    intro l
    induction l with
    | nil => intro _; rfl
    | cons x l ih =>
      intro hl
      have hx := hl x (by simp)
      rw [Lib.indexByte, if_neg (by simpa using hx), ih (fun y hy => hl y (by simp [hy]))]
      rfl
  refine this _ fun x hx => ?_
  have hx2 : x ∈ ([61, 33, 94] : List UInt8) := by
    have e : (signs.extract k 3).data.toList = (([61, 33, 94] : List UInt8).take 3).drop k := by
      rw [List.drop_take]
      simp [signs, ByteArray.data_extract]
    rw [e] at hx
    exact List.mem_of_mem_take (List.mem_of_mem_drop hx)
  simp at hx2
  rcases hx2 with rfl | rfl | rfl
  · exact fun e => h1 e.symm
  · exact fun e => h2 e.symm
  · exact fun e => h3 e.symm
set_option maxHeartbeats 4000000 in
set_option maxRecDepth 1000000 in
theorem rune_high (r : Int) (w : World) (h0 : 128 ≤ r) (h1 : r ≤ 2147483647) : Calls Try.prog 60 #[.string signs, .int .i32 r] w fun e w' => e = .returned (.int .i64 (-1)) ∧ Below w.heap.size w w' := by
  have hlt : ¬ r < 128 := by omega
  have hge : (0 : Int) ≤ r := by omega
  by_cases he : r = 65533
  · subst he
    clear h0 h1 hlt hge
    go_enter Try.func60, Try.ntmps60
    go_wp2
    go_loopg [5, 6] signs.size (fun g _ _ wx => ∃ i : Nat, i + g = signs.size ∧ wx = w.iter signs i)
    case atStart => exact ⟨0, by omega, rfl⟩
    case round =>
      obtain ⟨i, hig, rfl⟩ := hrel
      cases gk with
      | zero =>
        obtain rfl : i = signs.size := by omega
        have hnx := run_next_end (P := Try.prog) w signs signs.size
        go_wp2
        go_ret
        exact ⟨rfl, alloc_below _ _⟩
      | succ g =>
        have hi : i < signs.size := by omega
        have hx := signs_at i hi
        have hnx := fun ty => run_next_ascii (P := Try.prog) w signs i ty hi hx
        generalize (signs[i]'hi) = x at *
        have hne : ((x.toNat : Int) == 65533) = false := by simp; omega
        go_wp2
        go_roundg g
        case measure => omega
        case rel => exact ⟨i + 1, by omega, rfl⟩
  · have he' : (r == 65533) = false := by simpa using he
    have hvr := hid (fun w => Try.utf8_ValidRune r w)
    cases hv : Lib.validRune r
    · rw [hv] at hvr
      clear he hv
      go_enter Try.func60, Try.ntmps60
      go_wp2_with (go_at_call 70; refine (hvr.out _).mono ?_; rintro e w' ⟨rfl, rfl⟩)
      go_ret
      exact ⟨rfl, Below.refl _ _⟩
    · rw [hv] at hvr
      have hib : ∀ (k : Nat) (c : UInt8), 128 ≤ c.toNat → ∀ w, Calls Try.prog 69 #[.string (signs.extract k 3), .int .u8 (c.toNat : Int)] w fun e w' => e = .returned (.int .i64 (-1)) ∧ w' = w := fun k c hc w => by
        have := Try.strings_IndexByte (signs.extract k 3) (c.toNat : Int) w
        rw [show ((c.toNat : Int)).toNat.toUInt8 = c by simp, index_high c hc k] at this
        exact this
      have hs3 : signs.size = 3 := rfl
      rcases encode_high r h0 with ⟨a, b, hen, hb⟩ | ⟨a, b, c, hen, hb⟩ | ⟨a, b, c, d, hen, hb⟩
      · have hib1 := hid (hib 2 b hb)
        have hz : (⟨#[a, b]⟩ : ByteArray).size = 2 := rfl
        have g1 : (⟨#[a, b]⟩ : ByteArray)[1]'(show 1 < 2 by decide) = b := rfl
        have g2 : signs[1]'(by decide) = 33 := rfl
        have hwr : IntKind.i64.wrap 2 = 2 := by decide
        have t1 : ((33 : Int) == (b.toNat : Int)) = false := by simp; omega
        have t2 : ((33 : Int) != (b.toNat : Int)) = true := by simp; omega
        clear he hv hib hb
        go_enter Try.func60, Try.ntmps60
        go_wp2_with (go_at_call 70; refine (hvr.out _).mono ?_; rintro e w' ⟨rfl, hw'⟩; have hw2 := hw'.symm; subst hw2)
        go_step3
        go_wp2
        go_loop [9, 10] (fun iv fv => iv = .int .i64 1 ∧ fv = .int .i64 0) (fun _ _ => 0)
        case atStart => exact ⟨rfl, rfl⟩
        case round =>
          obtain ⟨rfl, rfl⟩ := hrel
          go_wp2
          go_step3
          go_wp2
          go_quiet (fail)
          have B5 := hid (below_drewN (n := nq) (Below.refl w.heap.size w))
          generalize w.drewN nq = w5 at *
          go_wp2_with fail
          go_quiet (first | (go_at_call 69; exact Calls.quiet_of_same (hib1.out _)))
          go_wp2
          simp (config := { zetaDelta := true }) only [Exit.inBlock, Exit.then, Exit.noGoto_ret]
          go_ret
          exact ⟨rfl, below_drewN B5.out⟩
      · have hib1 := hid (hib 3 c hb)
        have hz : (⟨#[a, b, c]⟩ : ByteArray).size = 3 := rfl
        have g1 : (⟨#[a, b, c]⟩ : ByteArray)[2]'(show 2 < 3 by decide) = c := rfl
        have g2 : signs[2]'(by decide) = 94 := rfl
        have hwr : IntKind.i64.wrap 3 = 3 := by decide
        have t1 : ((94 : Int) == (c.toNat : Int)) = false := by simp; omega
        have t2 : ((94 : Int) != (c.toNat : Int)) = true := by simp; omega
        clear he hv hib hb
        go_enter Try.func60, Try.ntmps60
        go_wp2_with (go_at_call 70; refine (hvr.out _).mono ?_; rintro e w' ⟨rfl, hw'⟩; have hw2 := hw'.symm; subst hw2)
        go_step3
        go_wp2
        go_loop [9, 10] (fun iv fv => iv = .int .i64 2 ∧ fv = .int .i64 0) (fun _ _ => 0)
        case atStart => exact ⟨rfl, rfl⟩
        case round =>
          obtain ⟨rfl, rfl⟩ := hrel
          go_wp2
          go_step3
          go_wp2
          go_quiet (fail)
          have B5 := hid (below_drewN (n := nq) (Below.refl w.heap.size w))
          generalize w.drewN nq = w5 at *
          go_wp2_with fail
          go_quiet (first | (go_at_call 69; exact Calls.quiet_of_same (hib1.out _)))
          go_wp2
          simp (config := { zetaDelta := true }) only [Exit.inBlock, Exit.then, Exit.noGoto_ret]
          go_ret
          exact ⟨rfl, below_drewN B5.out⟩
      · have hz : (⟨#[a, b, c, d]⟩ : ByteArray).size = 4 := rfl
        clear he hv hib hb
        go_enter Try.func60, Try.ntmps60
        go_wp2_with (go_at_call 70; refine (hvr.out _).mono ?_; rintro e w' ⟨rfl, hw'⟩; have hw2 := hw'.symm; subst hw2)
        go_step3
        go_wp2
        go_loop [9, 10] (fun iv fv => iv = .int .i64 3 ∧ fv = .int .i64 0) (fun _ _ => 0)
        case atStart => exact ⟨rfl, rfl⟩
        case round =>
          obtain ⟨rfl, rfl⟩ := hrel
          go_wp2

          go_ret
          exact ⟨rfl, Below.refl _ _⟩
end Go.Proofs.Ythbdghbfhjimkaa
