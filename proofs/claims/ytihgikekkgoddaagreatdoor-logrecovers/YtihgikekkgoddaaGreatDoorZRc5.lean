/- LogRecovers: contracts of the law's beginning and fits. -/
import Derived.Test.YtihgikekkgoddaaGreatDoorZRc2
import Derived.Test.YtihgikekkgoddaaGreatDoorZSy2
namespace Go.Proofs.YtihgikekkgoddaaGreatDoor
open Go.RowKit Go.Shelf Sto

set_option maxRecDepth 100000 in
set_option maxHeartbeats 4000000 in
theorem beginning_yes (w : World) (vl va : Value) (all : List (List UInt8)) (k sy : Nat) (hk : k ≤ all.length) (hsy : sy ≤ k) (hl : IsR w vl (all.take k)) (ha : IsR w va all) :
    Calls Tryz.prog 47 #[vl, va, .int .i64 (sy : Int)] w fun e w' => e = .returned (.bool true) ∧ ∃ n, w' = w.drewN n := by
  obtain ⟨a, c, rfl⟩ : ∃ a c, va = .slice a all.length c := by obtain ⟨a, c, e, _⟩ := ha; exact ⟨a, c, e⟩
  obtain ⟨b, d, rfl⟩ : ∃ b d, vl = .slice b k d := by obtain ⟨b, d, e, _⟩ := hl; rw [List.length_take, Nat.min_eq_left hk] at e; exact ⟨b, d, e⟩
  have hcap : all.length ≤ c := by obtain ⟨_, _, e, h1, _⟩ := ha; cases e; exact h1
  have hmax : c ≤ maxLen := by obtain ⟨_, _, e, _, h1, _⟩ := ha; cases e; exact h1
  unfold maxLen at hmax
  have sm := hid (same_yes w _ _ _ hl (isR_take ha hk))
  have t1 : (k : Int) ≤ (all.length : Int) := by omega
  have t2 : (sy : Int) ≤ (k : Int) := by omega
  clear hl ha
  go_enter Tryz.func47, Tryz.ntmps47
  go_wp2_with fail
  refine sm.out.mono ?_
  rintro e w' ⟨rfl, n, rfl⟩
  clear sm
  go_wp2
  go_ret
  exact ⟨rfl, n, rfl⟩
set_option maxRecDepth 100000 in
set_option maxHeartbeats 4000000 in
theorem fits_yes (w : World) (sv nv rv : Value) (S nx : List UInt8) (rs : List (List UInt8)) (sy : Nat) (on : Bool) (tv uv : Value) (S' : List UInt8) (R : List (List UInt8)) (hf : FitS on S nx rs sy S' R) (h1 : Frm.IsB w sv (ints S)) (h2 : Frm.IsB w nv (ints nx)) (h3 : IsR w rv rs) (h4 : Frm.IsB w tv (ints S')) (h5 : IsR w uv R) :
    Calls Tryz.prog 19 #[.agg #[sv, nv, rv, .int .i64 (sy : Int), .bool on], tv, uv] w fun e w' => e = .returned (.bool true) ∧ Below w.heap.size w w' := by
  obtain ⟨V, hV⟩ : ∃ V, w.alloc (.cells #[sv, nv, rv, .int .i64 (sy : Int), .bool on] 47) = V := ⟨_, rfl⟩
  have hal : Below w.heap.size w V := by rw [← hV]; exact alloc_low w _
  have hbx : V.heap[w.heap.size]? = some (.cells #[sv, nv, rv, .int .i64 (sy : Int), .bool on] 47) := by rw [← hV]; exact (MapKept.heap_alloc w _).1
  have c0 : V.cell? ⟨w.heap.size, 0, none⟩ = some sv := by rw [cell_of hbx]; rfl
  have c1 : V.cell? ⟨w.heap.size, 1, none⟩ = some nv := by rw [cell_of hbx]; rfl
  have c2 : V.cell? ⟨w.heap.size, 2, none⟩ = some rv := by rw [cell_of hbx]; rfl
  have c3 : V.cell? ⟨w.heap.size, 3, none⟩ = some (.int .i64 (sy : Int)) := by rw [cell_of hbx]; rfl
  have c4 : V.cell? ⟨w.heap.size, 4, none⟩ = some (.bool on) := by rw [cell_of hbx]; rfl
  have LV' : Hid (∀ q, Below w.heap.size w (V.drewN q)) := fun q => low_drewN q _ hal
  have cs : ∀ q, (convert 22 9 sv).run Tryz.prog (V.drewN q) = .ok (str S) (V.drewN q) := fun q => conv5 (w := V.drewN q) (h1.below (low_drewN q _ hal))
  have cn : ∀ q, (convert 22 9 nv).run Tryz.prog (V.drewN q) = .ok (str nx) (V.drewN q) := fun q => conv5 (w := V.drewN q) (h2.below (low_drewN q _ hal))
  have ct : ∀ q, (convert 22 9 tv).run Tryz.prog (V.drewN q) = .ok (str S') (V.drewN q) := fun q => conv5 (w := V.drewN q) (h4.below (low_drewN q _ hal))
  have cs0 := cs 0
  have cn0 := cn 0
  have ct0 := ct 0
  obtain ⟨ua, uc, hu⟩ : ∃ a c, uv = .slice a R.length c := by obtain ⟨a, c, e, _⟩ := h5; exact ⟨a, c, e⟩
  subst hu
  unfold str at cs cn ct cs0 cn0 ct0
  rw [show V.drewN 0 = V from rfl] at cs0 cn0 ct0
  by_cases hA : on = true ∧ S' = nx ∧ R = []
  · obtain ⟨rfl, rfl, rfl⟩ := hA
    clear hf h1 h2 h3 h4 h5 hal hbx
    go_enter Tryz.func19, Tryz.ntmps19
    go_wp2_with (rw [hV])
    go_ret
    exact ⟨rfl, LV'.out 0⟩
  · obtain ⟨rfl, k, hk, hsy, rfl⟩ : S' = S ∧ ∃ k, k ≤ rs.length ∧ sy ≤ k ∧ R = rs.take k := hf.resolve_left hA
    obtain ⟨ra, rc, hr⟩ : ∃ a c, rv = .slice a rs.length c := by obtain ⟨a, c, e, _⟩ := h3; exact ⟨a, c, e⟩
    subst hr
    have ek : (rs.take k).length = k := by rw [List.length_take]; omega
    have bg : Hid (∀ q, Calls Tryz.prog 47 #[.slice ua (rs.take k).length uc, .slice ra rs.length rc, .int .i64 (sy : Int)] (V.drewN q) fun e w' => e = .returned (.bool true) ∧ ∃ n, w' = (V.drewN q).drewN n) := fun q => beginning_yes (V.drewN q) _ _ rs k sy hk hsy (h5.below (low_drewN q _ hal)) (h3.below (low_drewN q _ hal))
    rw [ek] at bg ⊢
    have hA' : Hid (on = true → S' = nx → k ≠ 0) := fun h1 h2 h3 => hA ⟨h1, h2, by rw [h3]; rfl⟩
    have bg0 := hid (bg.out 0)
    rw [show V.drewN 0 = V from rfl] at bg0
    clear h1 h2 h3 h4 h5 hal hbx hf hA ek
    cases on with
    | false =>
      go_enter Tryz.func19, Tryz.ntmps19
      go_wp2_with (rw [hV])
      refine bg0.out.mono ?_
      rintro e w' ⟨rfl, n, rfl⟩
      clear bg bg0
      go_wp2
      go_ret
      exact ⟨rfl, LV'.out n⟩
    | true =>
      by_cases hn : S' = nx
      · subst hn
        have hk0 : ¬ (k : Int) = 0 := by have := hA'.out rfl rfl; omega
        go_enter Tryz.func19, Tryz.ntmps19
        go_wp2_with (rw [hV])
        refine bg0.out.mono ?_
        rintro e w' ⟨rfl, n, rfl⟩
        clear bg bg0
        go_wp2
        go_ret
        exact ⟨rfl, LV'.out n⟩
      · go_enter Tryz.func19, Tryz.ntmps19
        go_wp2_with (rw [hV])
        refine bg0.out.mono ?_
        rintro e w' ⟨rfl, n, rfl⟩
        clear bg bg0
        go_wp2
        go_ret
        exact ⟨rfl, LV'.out n⟩
end Go.Proofs.YtihgikekkgoddaaGreatDoor
