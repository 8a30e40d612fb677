/- Contract of the statements' own awake: the chapter's examples. -/
import Derived.Test.YtlggdeadkebgiaaC8
namespace Go.Proofs.Ytlggdeadkebgiaa
open Go.RowKit Go.Shelf

/-- tokens reckoned. -/
def scanF : Nat → Nat → Tx → List Tk × Option Nat
  | 0, _, _ => ([], none)
  | n + 1, p, s => if gap s = s.length then ([], none) else
    match first (s.drop (gap s)) with
    | none => ([], some (p + gap s))
    | some q => (⟨q.1, q.2.1, p + gap s⟩ :: (scanF n (p + gap s + q.2.2) (s.drop (gap s + q.2.2))).1, (scanF n (p + gap s + q.2.2) (s.drop (gap s + q.2.2))).2)
theorem scanF_ok : ∀ (n p : Nat) (s : Tx), s.length < n → Scan p s (scanF n p s).1 (scanF n p s).2
  | 0, p, s, h => by omega
  | n + 1, p, s, h => by
    have hg := gap_le s
    unfold scanF
    by_cases h1 : gap s = s.length
    · rw [if_pos h1]; exact .done h1
    · rw [if_neg h1]
      cases hf : first (s.drop (gap s)) with
      | none => exact .bad (by omega) hf
      | some q =>
        obtain ⟨k, x, u⟩ := q
        obtain ⟨hu, hl, _⟩ := first_form hf
        simp only [List.length_drop] at hl
        exact .tok (by omega) hf (scanF_ok n _ _ (by simp; omega))
def ex1 : Tx := [99, 111, 117, 110, 116, 40, 123, 97, 61, 34, 120, 34, 125, 91, 54, 48, 93, 41, 32, 62, 61, 32, 45, 49, 46, 53, 59, 32, 35, 32, 115, 111]
def tk1 : List Tk := [⟨1, [99, 111, 117, 110, 116], 0⟩, ⟨4, [40], 5⟩, ⟨4, [123], 6⟩, ⟨1, [97], 7⟩, ⟨4, [61], 8⟩, ⟨3, [120], 9⟩, ⟨4, [125], 12⟩, ⟨4, [91], 13⟩, ⟨2, [54, 48], 14⟩, ⟨4, [93], 16⟩, ⟨4, [41], 17⟩, ⟨4, [62, 61], 19⟩, ⟨4, [45], 22⟩, ⟨2, [49, 46, 53], 23⟩, ⟨4, [59], 26⟩]
theorem sc1 : Scan 0 ex1 tk1 none := by
  have h := scanF_ok 40 0 ex1 (by decide)
  rw [show scanF 40 0 ex1 = (tk1, none) by kernel_rfl] at h
  exact h
theorem sc2 : Scan 0 [34, 97, 92, 34, 92, 92, 34] [⟨3, [97, 34, 92], 0⟩] none := by
  have h := scanF_ok 10 0 [34, 97, 92, 34, 92, 92, 34] (by decide)
  rw [show scanF 10 0 [34, 97, 92, 34, 92, 92, 34] = ([⟨3, [97, 34, 92], 0⟩], none) by kernel_rfl] at h
  exact h
theorem sc3 : Scan 0 [49, 46, 50, 46, 51] [⟨2, [49, 46, 50], 0⟩] (some 3) := by
  have h := scanF_ok 10 0 [49, 46, 50, 46, 51] (by decide)
  rw [show scanF 10 0 [49, 46, 50, 46, 51] = ([⟨2, [49, 46, 50], 0⟩], some 3) by kernel_rfl] at h
  exact h
theorem sc4 : Scan 0 [97, 46, 98] [⟨1, [97], 0⟩] (some 1) := by
  have h := scanF_ok 10 0 [97, 46, 98] (by decide)
  rw [show scanF 10 0 [97, 46, 98] = ([⟨1, [97], 0⟩], some 1) by kernel_rfl] at h
  exact h
theorem OwnT.cells {B : Nat} {w : World} {a : Option Addr} {n c : Nat} {l : List Tk} (h : OwnT B w (.slice a n c) l) (hn : l ≠ []) : ∃ b, a = some ⟨b, 0, none⟩ ∧ b < w.heap.size ∧ ∀ i x, l[i]? = some x → w.cell? ⟨b, i * 3, none⟩ = some (.int .u8 (x.kind : Int)) ∧ w.cell? ⟨b, i * 3 + 1, none⟩ = some (.string ⟨x.text.toArray⟩) ∧ w.cell? ⟨b, i * 3 + 2, none⟩ = some (.int .i64 (x.at_ : Int)) := by
  rcases h.form with ⟨_, e⟩ | ⟨g, c', cur, e, _, _, _, h3, _, h4⟩
  · exact absurd e hn
  · cases e
    refine ⟨g, rfl, lt_of_block h3, fun i x hx => ?_⟩
    obtain ⟨e1, e2, e3⟩ := cellsT_at l i x hx
    rw [cell_of h3, cell_of h3, cell_of h3]
    exact ⟨h4 _ _ e1, h4 _ _ e2, h4 _ _ e3⟩
set_option maxRecDepth 100000 in
set_option maxHeartbeats 4000000 in
theorem awake_any (w : World) : Calls Try.prog 13 #[] w fun e w' => e = .returned (.bool true) ∧ Below w.heap.size w w' := by
  have h1 := hid (fun w => all_ok ex1 w sc1 (by decide))
  have h2 := hid (fun w => all_ok _ w sc2 (by decide))
  have h3 := hid (fun w => all_bad _ w sc3 (by decide))
  have h4 := hid (fun w => all_bad _ w sc4 (by decide))
  unfold ex1 str at *
  go_enter Try.func13, Try.ntmps13
  go_wp2_with fail
  refine (h1.out _).mono ?_
  rintro e w1 ⟨a1, c1, rfl, o1, b1⟩
  have O1 := hid o1
  have B1 := hid b1
  clear o1 b1 h1
  go_wp2_with fail
  refine (h2.out _).mono ?_
  rintro e w2 ⟨a2, c2, rfl, o2, b2⟩
  have O2 := hid (o2.base (B' := w.heap.size) B1.out.size)
  have O1' := hid (O1.out.below b2)
  have B2 := hid (low' B1.out b2)
  clear o2 b2 h2 O1 B1
  go_wp2_with fail
  refine (h3.out _).mono ?_
  rintro e w3 ⟨rfl, b3⟩
  have O2' := hid (O2.out.below b3)
  have O1 := hid (O1'.out.below b3)
  have B3 := hid (low' B2.out b3)
  clear b3 h3 O1' O2 B2
  go_wp2_with fail
  refine (h4.out _).mono ?_
  rintro e w4 ⟨rfl, b4⟩
  obtain ⟨g1, rfl, hg1, k1⟩ := (O1.out.below b4).cells (by simp [tk1])
  obtain ⟨g2, rfl, hg2, k2⟩ := (O2'.out.below b4).cells (by simp)
  have B4 := hid (low' B3.out b4)
  clear b4 h4 O1 O2' B3
  have p1 := k1 0 _ rfl
  have p2 := k1 5 _ rfl
  have p3 := k1 11 _ rfl
  have p4 := k1 13 _ rfl
  have p5 := k2 0 _ rfl
  clear k1 k2
  simp at p1 p2 p3 p4 p5
  obtain ⟨p11, p12, p13⟩ := p1
  obtain ⟨p21, p22, p23⟩ := p2
  obtain ⟨p31, p32, p33⟩ := p3
  obtain ⟨p41, p42, p43⟩ := p4
  obtain ⟨p51, p52, p53⟩ := p5
  simp only [tk1, List.length_cons, List.length_nil, Nat.reduceAdd]
  go_wp2
  go_ret
  exact ⟨rfl, B4.out⟩
end Go.Proofs.Ytlggdeadkebgiaa
