/- Contract of Names: the files' names, rising. -/
import Derived.Test.YtinnegkkfaaceaaW13
import Derived.Sort.KeysCollected
namespace Go.Proofs.Ytinnegkkfaaceaa
open Go.RowKit Go.Maps Go.MapKept Go.Shelf Go.Sort

def names (l : List Fg) : List (List UInt8) := l.map (·.name)
theorem names_sorted {l : List Fg} (h : Rising l) : (names l).Pairwise fun a b => decide (a ≤ b) = true := by
  refine List.pairwise_map.2 (List.Pairwise.imp (fun {a b} hab => ?_) h)
  simp only [decide_eq_true_eq]
  exact List.le_of_lt hab
theorem names_nodup {l : List Fg} (h : Rising l) : (names l).Nodup := by
  refine List.pairwise_map.2 (List.Pairwise.imp (fun {a b} hab e => ?_) h)
  rw [e] at hab
  exact lt_irrefl _ hab
theorem keys_names {w : World} {b n : Nat} {D : DataW Unit} {l : List Fg} (hD : w.ownsMap Try.prog 9 ptrR b n D) (hM : MapOf D l) (hr : Rising l) {ss : List (List UInt8)} (hs : ss.Perm (strKeys D)) : ss.mergeSort (fun x y => decide (x ≤ y)) = names l := by
  have hT := hD.tidy law
  obtain ⟨es, rfl, hp⟩ := hT
  obtain ⟨es', he, hk⟩ := hD.keysOf
  cases he
  have hperm : (names l).Perm (strKeys (.map es)) := by
    refine perm_strKeys hp (fun p hp' => ?_) (names_nodup hr) fun x => ?_
    · obtain ⟨v, hv⟩ := hk p hp'
      obtain ⟨x, _, hx, _⟩ := Maps.keyOf_str Try.underlying9 hv
      exact ⟨x, hx⟩
    · constructor
      · intro hx
        obtain ⟨f, hf, rfl⟩ := List.mem_map.1 hx
        exact hM.has hf
      · intro hx
        apply Classical.byContradiction
        intro hn
        have := hM.no x fun f hf e => hn (List.mem_map.2 ⟨f, hf, e⟩)
        rw [this] at hx
        cases hx
  have e1 := mergeSort_of_perm (hs.trans hperm.symm)
  have e2 : (names l).mergeSort (fun x y => decide (x ≤ y)) = names l := List.mergeSort_of_pairwise (names_sorted hr)
  exact e1.trans e2
set_option maxHeartbeats 1000000 in
theorem names_any {B sb : Nat} {g : Gs} (w : World) (h : StoreAt B w sb g) :
    Calls Try.prog 19 #[ptr sb] w fun e w' => ∃ a c, e = .returned (.slice a (names g.l).length c) ∧ w'.ownsRow w.heap.size 9 1 (.slice a (names g.l).length c) (names g.l).length ((names g.l).map str) ∧ Below w.heap.size w w' := by
  have hm := hid (made_yes w h)
  have c0 : w.cell? ⟨sb, 0, none⟩ = some (.map (some g.mb)) := by rw [cell_of h.cell]; rfl
  obtain ⟨D, hD, hM⟩ := h.map
  have hsz := hM.size
  have hfew := h.few
  have k1 := hid (callsIn_wide.1 (Try.maps_Keys_53 (some g.mb) w))
  have k2 := hid (callsIn_wide.1 (Try.slices_Sorted_keys_52_53 g.mb g.l.length D ptrR w hD (by unfold maxLen; omega) (by omega)))
  have fin : Hid (∀ v w' (ss : List (List UInt8)), ss.Perm (strKeys D) → w'.ownsRow (w.alloc (.cells #[.map (some g.mb)] 50)).heap.size 9 1 v ss.length ((ss.mergeSort (fun x y => decide (x ≤ y))).map Go.Proofs.encStr) →
      Below (w.alloc (.cells #[.map (some g.mb)] 50)).heap.size (w.alloc (.cells #[.map (some g.mb)] 50)) w' →
      ∃ a c, v = .slice a (names g.l).length c ∧ w'.ownsRow w.heap.size 9 1 (.slice a (names g.l).length c) (names g.l).length ((names g.l).map str) ∧ Below w.heap.size w w') := by
    intro v w' ss hs hrow hb
    have e := keys_names hD hM h.rising hs
    rw [e] at hrow
    have hl : ss.length = (names g.l).length := by rw [← e]; simp
    rw [hl] at hrow
    obtain ⟨a, c, rfl⟩ := row_slice hrow
    refine ⟨a, c, rfl, ownsRow_base hrow fun k hk => ?_, ((Below.refl _ w).alloc (Nat.le_refl _) _).trans (hb.mono (by simp))⟩
    have := (hrow.lt k hk).1
    simp at this
    omega
  unfold ptr at hm ⊢
  clear h hD hM hsz hfew
  go_enter Try.func19, Try.ntmps19
  go_wp2_with (first | (go_at_call 51; refine hm.out.mono ?_; rintro e w' ⟨rfl, rfl⟩) | (go_at_call 53; refine k1.out.mono ?_; rintro e w' ⟨rfl, rfl⟩) | (go_at_call 52; refine k2.out.mono ?_; rintro e w2 ⟨v, ss, rfl, hs, hrow, _, hb⟩; obtain ⟨a, c, rfl, h1, h2⟩ := fin.out v w2 ss hs hrow hb; replace h1 := hid h1; replace h2 := hid h2; clear hs hrow hb))
  go_ret
  exact ⟨a, c, rfl, h1.out, h2.out⟩
end Go.Proofs.Ytinnegkkfaaceaa
