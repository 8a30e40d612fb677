/- The chapter's examples, as the statements ask them first: awake returns true and changes nothing that was there. -/
import Derived.Test.YthcbekccnmdgaaaV3
import Derived.Test.YthcbekccnmdgaaaL1
import Derived.Test.YthcbekccnmdgaaaW3
namespace Go.Proofs.Ythcbekccnmdgaaa
open Go.RowKit Go.Shelf

theorem ex1 : parseP [123, 97, 61, 34, 120, 34, 44, 98, 61, 34, 121, 32, 122, 34, 125, 32, 53] = some ([([97], [120]), ([98], [121, 32, 122])], [32, 53]) := by decide +kernel
theorem ex2 : parseP [123, 97, 61, 34, 92, 34, 92, 92, 34, 125] = some ([([97], [34, 92])], []) := by decide +kernel
theorem ex3 : parseP [123, 125] = some ([], []) := by decide +kernel
theorem ex4 : parseP [123, 98, 61, 34, 120, 34, 44, 97, 61, 34, 121, 34, 125] = none := by decide +kernel
theorem ex5 : parseP [123, 97, 61, 34, 120, 34, 44, 125] = none := by decide +kernel
theorem ex6 : mayN [97, 95, 49] = true := by decide +kernel
theorem ex7 : mayN [49, 97] = false := by decide +kernel
theorem ex8 : valueL [([97], [120]), ([98], [121, 32, 122])] [98] = [121, 32, 122] := by decide +kernel
theorem ex9 : lessL [] [([97], [34, 92])] = true := by decide +kernel
theorem ls_below {w W : World} {v : Value} {l : List Lb} {B : Nat} (h : OwnL B w v l) (hb : Below w.heap.size w W) : OwnL B W v l := h.below hb
theorem IsLs.two {w : World} {a : Option Addr} {n c : Nat} {x y : Lb} (h : IsLs w (.slice a n c) [x, y]) : n = 2 ∧ ∃ b off, a = some ⟨b, off, none⟩ ∧ w.cell? ⟨b, off + 2, none⟩ = some (str y.1) ∧ w.cell? ⟨b, off + 2 + 1, none⟩ = some (str y.2) := by
  obtain ⟨h1, _⟩ := h.bound
  obtain ⟨b, off, ha, hc⟩ := h.at (k := 0) (by simp)
  obtain ⟨c0, c1⟩ := hc 1 y rfl
  exact ⟨h1, b, off, ha, c0, c1⟩
theorem IsLs.one {w : World} {a : Option Addr} {n c : Nat} {x : Lb} (h : IsLs w (.slice a n c) [x]) : n = 1 ∧ ∃ b off, a = some ⟨b, off, none⟩ ∧ w.cell? ⟨b, off, none⟩ = some (str x.1) ∧ w.cell? ⟨b, off + 1, none⟩ = some (str x.2) := by
  obtain ⟨h1, _⟩ := h.bound
  obtain ⟨b, off, ha, hc⟩ := h.at (k := 0) (by simp)
  obtain ⟨c0, c1⟩ := hc 0 x rfl
  rw [Nat.zero_mul, Nat.add_zero] at c0 c1
  exact ⟨h1, b, off, ha, c0, c1⟩
theorem parse_yes {s : Tx} {w : World} {l : List Lb} {t : Tx} (hs : s.length ≤ 35184372088832) (h : parseP s = some (l, t)) : Calls Try.prog 25 #[str s] w fun e w' => ∃ a c, e = .returned (.tuple #[.slice a l.length c, .string ⟨t.toArray⟩, .int .i64 0]) ∧ OwnL w.heap.size w' (.slice a l.length c) l ∧ Below w.heap.size w w' := by
  refine (parse_any s w hs).mono ?_
  rintro e w' ⟨hb, hp⟩
  rw [h] at hp
  obtain ⟨v, he, ho⟩ := hp
  obtain ⟨a, c, rfl⟩ := ho.slice
  exact ⟨a, c, he, ho, hb⟩
theorem parse_not {s : Tx} {w : World} (hs : s.length ≤ 35184372088832) (h : parseP s = none) : Calls Try.prog 25 #[str s] w fun e w' => e = .returned (.tuple #[.slice none 0 0, .string ⟨#[]⟩, .int .i64 70]) ∧ Below w.heap.size w w' := by
  refine (parse_any s w hs).mono ?_
  rintro e w' ⟨hb, hp⟩
  rw [h] at hp
  exact ⟨hp, hb⟩
set_option maxHeartbeats 4000000 in
theorem awake_any (w : World) :
    Calls Try.prog 28 #[] w fun e w' => e = .returned (.bool true) ∧ Below w.heap.size w w' := by
  go_enter Try.func28, Try.ntmps28
  go_wp2_with fail
  refine (parse_yes (s := [123, 97, 61, 34, 120, 34, 44, 98, 61, 34, 121, 32, 122, 34, 125, 32, 53]) (by simp) ex1).mono ?_
  rintro e w1 ⟨a1, c1, rfl, o1, b1⟩
  replace o1 := hid o1
  replace b1 := hid b1
  go_wp2_with fail
  refine (parse_yes (s := [123, 97, 61, 34, 92, 34, 92, 92, 34, 125]) (by simp) ex2).mono ?_
  rintro e w2 ⟨a2, c2, rfl, o2, b2⟩
  replace o1 := hid (o1.out.below b2)
  replace b2 := hid (low' b1.out b2)
  replace o2 := hid o2
  clear b1
  go_wp2_with fail
  refine (parse_yes (s := [123, 125]) (by simp) ex3).mono ?_
  rintro e w3 ⟨a3, c3, rfl, o3, b3⟩
  replace o1 := hid (o1.out.below b3)
  replace o2 := hid (o2.out.below b3)
  replace b3 := hid (low' b2.out b3)
  replace o3 := hid o3
  clear b2
  go_wp2_with fail
  refine (parse_not (s := [123, 98, 61, 34, 120, 34, 44, 97, 61, 34, 121, 34, 125]) (by simp) ex4).mono ?_
  rintro e w4 ⟨rfl, b4⟩
  replace o1 := hid (o1.out.below b4)
  replace o2 := hid (o2.out.below b4)
  replace o3 := hid (o3.out.below b4)
  replace b4 := hid (low' b3.out b4)
  clear b3
  go_wp2_with fail
  refine (parse_not (s := [123, 97, 61, 34, 120, 34, 44, 125]) (by simp) ex5).mono ?_
  rintro e w5 ⟨rfl, b5⟩
  replace o1 := hid (o1.out.below b5)
  replace o2 := hid (o2.out.below b5)
  replace o3 := hid (o3.out.below b5)
  replace b5 := hid (low' b4.out b5)
  clear b4
  obtain ⟨-, g1, f1, rfl, k0, k1⟩ := IsLs.two o1.out.isL
  obtain ⟨-, g2, f2, rfl, m0, m1⟩ := IsLs.one o2.out.isL
  unfold str at *
  have hn1 := hid (fun w => mayName_any [97, 95, 49] w (by simp))
  rw [ex6] at hn1
  have hn2 := hid (fun w => mayName_any [49, 97] w (by simp))
  rw [ex7] at hn2
  unfold str at hn1 hn2
  go_wp2_with fail
  refine (hn1.out _).mono ?_
  rintro e w6 ⟨rfl, hw6⟩
  subst hw6
  go_wp2_with fail
  refine (hn2.out _).mono ?_
  rintro e w6 ⟨rfl, hw6⟩
  subst hw6
  go_wp2_with fail
  refine (value_any _ _ [98] _ o1.out.isL).mono ?_
  rintro e w6 ⟨rfl, b6⟩
  rw [ex8]
  replace o2 := hid (o2.out.below b6)
  replace o3 := hid (o3.out.below b6)
  replace b6 := hid (low' b5.out b6)
  clear o1 b5 k0 k1 m0 m1
  unfold str
  go_wp2_with fail
  refine (less_any _ _ _ _ _ o3.out.isL o2.out.isL).mono ?_
  rintro e w7 ⟨rfl, b7⟩
  rw [ex9]
  replace b7 := hid (low' b6.out b7)
  go_wp2
  go_ret
  exact ⟨rfl, b7.out⟩
end Go.Proofs.Ythcbekccnmdgaaa
