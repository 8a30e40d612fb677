/- The chapter's examples, as the statements ask them first: awake returns true and changes nothing that was there. -/
import Derived.Test.YthbdghbfhjimkaaU10
import Derived.Test.YthbdghbfhjimkaaW3
namespace Go.Proofs.Ythbdghbfhjimkaa
open Go.RowKit Go.Shelf

def exM : List Mt := [([97], 0, [120]), ([98], 1, []), ([97], 2, [121])]
theorem ex1 : parseM [123, 97, 61, 34, 120, 34, 44, 98, 33, 61, 34, 34, 44, 97, 94, 61, 34, 121, 34, 125, 91, 53, 93] = some (exM, [91, 53, 93]) := by decide +kernel
theorem ex2 : parseM [123, 125] = some ([], []) := by decide +kernel
theorem ex3 : parseM [123, 97, 126, 34, 120, 34, 125] = none := by decide +kernel
theorem ex4 : doesM [([98], 2, [121])] [([97], [120]), ([98], [121, 121])] = true := by decide +kernel
theorem ex5 : doesM [([99], 1, [])] [([97], [120]), ([98], [121, 121])] = false := by decide +kernel
theorem ex6 : printM [([98], 2, [121])] = [123, 98, 94, 61, 34, 121, 34, 125] := by decide +kernel
theorem parse_yesM {s : Tx} {w : World} {m : List Mt} {t : Tx} (hs : s.length ≤ 4000000000) (h : parseM s = some (m, t)) : Calls Try.prog 21 #[str s] w fun e w' => ∃ a c, e = .returned (.tuple #[.slice a m.length c, .string ⟨t.toArray⟩, .int .i64 0]) ∧ OwnM w.heap.size w' (.slice a m.length c) m ∧ Below w.heap.size w w' := by
  refine (mparse_any s w hs).mono ?_
  rintro e w' ⟨hb, hp⟩
  rw [h] at hp
  obtain ⟨v, he, ho⟩ := hp
  obtain ⟨a, c, rfl⟩ := ho.slice
  exact ⟨a, c, he, ho, hb⟩
theorem parse_notM {s : Tx} {w : World} (hs : s.length ≤ 4000000000) (h : parseM s = none) : Calls Try.prog 21 #[str s] w fun e w' => e = .returned (.tuple #[.slice none 0 0, .string ⟨#[]⟩, .int .i64 80]) ∧ Below w.heap.size w w' := by
  refine (mparse_any s w hs).mono ?_
  rintro e w' ⟨hb, hp⟩
  rw [h] at hp
  exact ⟨hp, hb⟩
theorem IsMs.three {w : World} {a : Option Addr} {n c : Nat} {x y z : Mt} (h : IsMs w (.slice a n c) [x, y, z]) : ∃ b off, a = some ⟨b, off, none⟩ ∧ w.cell? ⟨b, off + 3, none⟩ = some (str y.1) ∧ w.cell? ⟨b, off + 3 + 1, none⟩ = some (opv y.2.1) ∧ w.cell? ⟨b, off + 3 + 2, none⟩ = some (str y.2.2) := by
  obtain ⟨b, off, ha, hc⟩ := h.at (k := 0) (by simp)
  obtain ⟨c0, c1, c2⟩ := hc 1 y rfl
  exact ⟨b, off, ha, c0, c1, c2⟩
theorem isLs_two {w : World} {g : Nat} {n1 v1 n2 v2 : Tx} (h : w.heap[g]? = some (.cells #[str n1, str v1, str n2, str v2] 44)) (h1 : n1.length ≤ maxLen) (h2 : v1.length ≤ maxLen) (h3 : n2.length ≤ maxLen) (h4 : v2.length ≤ maxLen) : IsLs w (.slice (some ⟨g, 0, none⟩) 2 2) [(n1, v1), (n2, v2)] := by
  refine ⟨by unfold maxLen; simp, fun x hx => ?_, _, 2, rfl, by simp, by unfold maxLen; simp, .inr ⟨g, 0, rfl, fun i x hx => ?_⟩⟩
  · simp at hx
    rcases hx with rfl | rfl
    · exact ⟨h1, h2⟩
    · exact ⟨h3, h4⟩
  · match i, hx with
    | 0, hx => cases hx; exact ⟨by rw [cell_of h]; rfl, by rw [cell_of h]; rfl⟩
    | 1, hx => cases hx; exact ⟨by rw [cell_of h]; rfl, by rw [cell_of h]; rfl⟩
    | _ + 2, hx => cases hx
theorem isMs_one {w : World} {g : Nat} {n v : Tx} {o : UInt8} (h : w.heap[g]? = some (.cells #[str n, opv o, str v] 37)) (h1 : n.length ≤ maxLen) (h2 : v.length ≤ maxLen) : IsMs w (.slice (some ⟨g, 0, none⟩) 1 1) [(n, o, v)] := by
  refine ⟨by unfold maxLen; simp, fun x hx => ?_, _, 1, rfl, by simp, by unfold maxLen; simp, .inr ⟨g, 0, rfl, fun i x hx => ?_⟩⟩
  · simp at hx
    subst hx
    exact ⟨h1, h2⟩
  · match i, hx with
    | 0, hx => cases hx; exact ⟨by rw [cell_of h]; rfl, by rw [cell_of h]; rfl, by rw [cell_of h]; rfl⟩
    | _ + 1, hx => cases hx
set_option maxRecDepth 100000 in
set_option maxHeartbeats 4000000 in
theorem awake_any (w : World) :
    Calls Try.prog 22 #[] w fun e w' => e = .returned (.bool true) ∧ Below w.heap.size w w' := by
  go_enter Try.func22, Try.ntmps22
  go_wp2_with fail
  refine (parse_yesM (s := [123, 97, 61, 34, 120, 34, 44, 98, 33, 61, 34, 34, 44, 97, 94, 61, 34, 121, 34, 125, 91, 53, 93]) (by simp) ex1).mono ?_
  rintro e w1 ⟨a1, c1, rfl, o1, b1⟩
  replace o1 := hid o1
  replace b1 := hid b1
  go_wp2_with fail
  refine (parse_yesM (s := [123, 125]) (by simp) ex2).mono ?_
  rintro e w2 ⟨a2, c2, rfl, o2, b2⟩
  replace o1 := hid (o1.out.below b2)
  replace b2 := hid (low' b1.out b2)
  replace o2 := hid o2
  clear b1
  go_wp2_with fail
  refine (parse_notM (s := [123, 97, 126, 34, 120, 34, 125]) (by simp) ex3).mono ?_
  rintro e w3 ⟨rfl, b3⟩
  replace o1 := hid (o1.out.below b3)
  replace b3 := hid (low' b2.out b3)
  clear b2 o2
  obtain ⟨g1, f1, rfl, k0, k1, k2⟩ := IsMs.three o1.out.isM
  have hl : exM.length = 3 := rfl
  have hkb := World.block_lt_of_cell? w3 _ k0
  simp only at hkb
  unfold str opv at *
  clear o1
  have hs0 : (w3.alloc (.cells #[.string ⟨#[97]⟩, .string ⟨#[120]⟩, .string ⟨#[98]⟩, .string ⟨#[121, 121]⟩] 44)).heap.size = w3.heap.size + 1 := by simp
  have nb0 := new_block w3 (.cells #[.string ⟨#[97]⟩, .string ⟨#[120]⟩, .string ⟨#[98]⟩, .string ⟨#[121, 121]⟩] 44)
  have bb0 := alloc_below w3 (.cells #[.string ⟨#[97]⟩, .string ⟨#[120]⟩, .string ⟨#[98]⟩, .string ⟨#[121, 121]⟩] 44)
  generalize hU0 : w3.alloc (.cells #[.string ⟨#[97]⟩, .string ⟨#[120]⟩, .string ⟨#[98]⟩, .string ⟨#[121, 121]⟩] 44) = U0 at *
  have hs1 : (U0.alloc (.cells #[.string ⟨#[98]⟩, .int .u8 2, .string ⟨#[121]⟩] 37)).heap.size = w3.heap.size + 1 + 1 := by simp [hs0]
  have nb1 := new_block U0 (.cells #[.string ⟨#[98]⟩, .int .u8 2, .string ⟨#[121]⟩] 37)
  have bb1 := alloc_below U0 (.cells #[.string ⟨#[98]⟩, .int .u8 2, .string ⟨#[121]⟩] 37)
  generalize hU1 : U0.alloc (.cells #[.string ⟨#[98]⟩, .int .u8 2, .string ⟨#[121]⟩] 37) = U1 at *
  have nb2 := new_block U1 (.cells #[.string ⟨#[99]⟩, .int .u8 1, .string ⟨#[]⟩] 37)
  have bb2 := alloc_below U1 (.cells #[.string ⟨#[99]⟩, .int .u8 1, .string ⟨#[]⟩] 37)
  have hs2 : (U1.alloc (.cells #[.string ⟨#[99]⟩, .int .u8 1, .string ⟨#[]⟩] 37)).heap.size = w3.heap.size + 1 + 1 + 1 := by simp [hs1]
  generalize hU2 : U1.alloc (.cells #[.string ⟨#[99]⟩, .int .u8 1, .string ⟨#[]⟩] 37) = U2 at *
  rw [hs0] at nb1
  rw [hs1] at nb2
  have bU := bb0.trans ((bb1.mono (by omega)).trans (bb2.mono (by omega)))
  have mb0 : U2.heap[w3.heap.size]? = _ := (bb2.block _ (by omega)).trans ((bb1.block _ (by omega)).trans nb0)
  have mb1 : U2.heap[w3.heap.size + 1]? = _ := (bb2.block _ (by omega)).trans nb1
  have k0' := (bU.cell (p := ⟨g1, f1 + 3, none⟩) hkb).trans k0
  have k1' : U2.cell? ⟨g1, f1 + 3 + 1, none⟩ = some (.int .u8 1) := (bU.cell (p := ⟨g1, f1 + 3 + 1, none⟩) hkb).trans k1
  have k2' := (bU.cell (p := ⟨g1, f1 + 3 + 2, none⟩) hkb).trans k2
  have hlL : Hid (∀ W, Below U2.heap.size U2 W → IsLs W (.slice (some ⟨w3.heap.size, 0, none⟩) 2 2) [([97], [120]), ([98], [121, 121])]) := fun W hW => isLs_two ((hW.block _ (by omega)).trans mb0) (by unfold maxLen; simp) (by unfold maxLen; simp) (by unfold maxLen; simp) (by unfold maxLen; simp)
  have hl1 : Hid (∀ W, Below U2.heap.size U2 W → IsMs W (.slice (some ⟨w3.heap.size + 1, 0, none⟩) 1 1) [([98], 2, [121])]) := fun W hW => isMs_one ((hW.block _ (by omega)).trans mb1) (by unfold maxLen; simp) (by unfold maxLen; simp)
  have hl2 : Hid (∀ W, Below U2.heap.size U2 W → IsMs W (.slice (some ⟨w3.heap.size + 1 + 1, 0, none⟩) 1 1) [([99], 1, [])]) := fun W hW => isMs_one ((hW.block _ (by omega)).trans nb2) (by unfold maxLen; simp) (by unfold maxLen; simp)
  have bU' := hid (low' b3.out bU)
  have bUU : Hid (Below U2.heap.size U2 U2) := Below.refl _ _
  clear nb0 nb1 nb2 bb0 bb1 bb2 mb0 mb1 bU k0 k1 k2 b3
  go_wp2_with (rw [hU0, hU1, hU2])
  refine (does_any _ _ _ _ _ (hl1.out _ bUU.out) (hlL.out _ bUU.out)).mono ?_
  rintro e w4 ⟨rfl, b4⟩
  rw [ex4]
  replace b4 := hid b4
  clear hU0 hU1 hU2 k0' k1' k2'
  go_wp2_with fail
  refine (does_any _ _ _ _ _ (hl2.out _ b4.out) (hlL.out _ b4.out)).mono ?_
  rintro e w5 ⟨rfl, b5⟩
  rw [ex5]
  replace b5 := hid (low' b4.out b5)
  clear b4
  go_wp2_with fail
  refine (does_any _ _ [] _ _ (ownM_nil 0 _).isM (hlL.out _ b5.out)).mono ?_
  rintro e w6 ⟨rfl, b6⟩
  rw [does_nil]
  replace b6 := hid (low' b5.out b6)
  clear b5
  go_wp2_with fail
  refine (mprint_any _ _ _ (hl1.out _ b6.out) (by simp) (by rw [ex6]; simp)).mono ?_
  rintro e w7 ⟨rfl, b7⟩
  rw [ex6]
  replace b7 := hid (low' bU'.out (low' b6.out b7))
  unfold str
  go_wp2
  go_ret
  exact ⟨rfl, b7.out⟩
end Go.Proofs.Ythbdghbfhjimkaa
