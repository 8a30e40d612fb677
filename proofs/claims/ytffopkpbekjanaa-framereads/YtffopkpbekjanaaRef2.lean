/- Contract of the document's Next. -/
import Derived.Test.YtffopkpbekjanaaRef1
import Derived.Test.YtffopkpbekjanaaRnP
import Derived.Test.YtffopkpbekjanaaIt
import Derived.Deep.RegionWith
namespace Go.Proofs.Ytffopkpbekjanaa
open Go.RowKit

theorem IsB.take0 {w : World} {a : Option Addr} {n c : Nat} {zs : List Int} (h : IsB w (.slice a n c) zs) (k : Nat) (hk : k ≤ n) : IsB w (.slice a k c) (zs.take k) := by
  obtain ⟨h1, h2, h3, h4⟩ := h.at
  have hl : (zs.take k).length = k := by simp; omega
  refine ⟨by omega, h.byt.take k, a, c, by rw [hl], by omega, h3, ?_⟩
  by_cases h0 : k = 0
  · left; simp [h0]
  · right
    obtain ⟨b, off, rfl, hc⟩ := h4 (by omega)
    refine ⟨b, off, rfl, fun i hi => ?_⟩
    rw [hl] at hi
    rw [hc i (by omega)]
    simp [List.getD, List.getElem?_take_of_lt hi]
set_option maxHeartbeats 4000000 in
theorem rnext (a : Option Addr) (c : Nat) (zs : List Int) (w : World) (h : IsB w (.slice a zs.length c) zs) (hl : zs.length ≤ 1000000) :
    Calls Try.prog 13 #[.slice a zs.length c] w fun e w' => Below w.heap.size w w' ∧ ((nextP zs = none ∧ e = .returned (.tuple #[.slice none 0 0, .int .i64 0, .int .i64 40])) ∨ ∃ p u a' c', nextP zs = some (p, u) ∧ e = .returned (.tuple #[.slice a' p.length c', .int .i64 (u : Int), .int .i64 0]) ∧ Own w.heap.size w' (.slice a' p.length c') p) := by
  obtain ⟨_, hmc, hcm⟩ := h.bound
  have HB := hid h.byt
  replace h := hid h
  go_enter Try.func13, Try.ntmps13
  go_wp2
  go_loopw [5] (fun kv wr => ∃ k : Nat, 1 ≤ k ∧ k ≤ 4 ∧ kv = .int .i64 (k : Int) ∧ (∀ j, 1 ≤ j → j < k → j ≤ zs.length → ¬ hit zs j) ∧ Below w.heap.size w wr) (fun kv _ => 4 - (intOf kv).toNat)
  case atStart => exact ⟨1, by omega, by omega, rfl, (by intro j h1 h2; omega), Below.refl _ _⟩
  case round =>
    obtain ⟨k, hk1, hk4, rfl, hno, hb⟩ := hrel
    have hwr := hid (h.out.below hb)
    replace hb := hid hb
    by_cases hin : k ≤ 3 ∧ k ≤ zs.length
    · obtain ⟨hk3, hkl⟩ := hin
      have hk3' : (k : Int) ≤ 3 := by omega
      have hkl' : (k : Int) ≤ (zs.length : Int) := by omega
      obtain ⟨b, off, rfl, hcell⟩ := (hwr.out.at).2.2.2 (by omega)
      replace hcell := hid hcell
      replace hno := hid hno
      go_wp2_with fail
      go_loop [6, 7] (fun nv iv => ∃ d : Nat, d ≤ k ∧ iv = .int .i64 ((k : Int) - 1 - (d : Int)) ∧ nv = .int .i64 (hs zs k d)) (fun _ iv => (intOf iv + 1).toNat)
      case atStart => exact ⟨0, by omega, by go_num, rfl⟩
      case round =>
        obtain ⟨d, hd, rfl, rfl⟩ := hrel
        obtain ⟨hs0, hs1⟩ := hs_small zs k d (by omega)
        by_cases hdk : d < k
        · have hge : (0 : Int) ≤ (k : Int) - 1 - (d : Int) := by omega
          obtain ⟨i, hi⟩ : ∃ i : Nat, i = k - 1 - d := ⟨_, rfl⟩
          have hii : (k : Int) - 1 - (d : Int) = (i : Int) := by omega
          have hsu := hs_succ zs k d
          rw [← hi] at hsu
          have hck := hcell.out i (by omega)
          have hz := HB.out _ (getD_mem zs i (by omega))
          have hil : (i : Int) < (zs.length : Int) := by omega
          rw [hii]
          generalize zs.getD i 0 = z at *
          generalize hx : hs zs k d = x at *
          replace hx := hid hx
          replace hsu := hid hsu
          replace hii := hid hii
          clear hge hi
          obtain ⟨hz0, hz1⟩ := hz
          go_wp2
          refine ⟨⟨d + 1, by omega, ?_, by rw [hsu.out]⟩, ?_⟩
          · congr 1; have h9 := hii.out; omega
          · simp [intOf]
        · obtain rfl : d = k := by omega
          rw [show (d : Int) - 1 - (d : Int) = -1 by omega]
          have hac := hs_acc zs d hk3
          obtain ⟨n, hn⟩ : ∃ n : Nat, n = numOf zs d := ⟨_, rfl⟩
          have hxn : hs zs d d = (n : Int) := by rw [hn]; unfold numOf; rw [← hac]; omega
          rw [hxn] at hs0 hs1 ⊢
          replace hn := hid hn
          clear hac hxn hk3' hkl'
          by_cases hbad : 65536 < n ∨ zs.length < d + n + 4
          · have hno' : Hid (∀ j, 1 ≤ j → j < d + 1 → j ≤ zs.length → ¬ hit zs j) := fun j h1 h2 h3 => by
              by_cases e : j = d
              · subst e
                rintro ⟨q1, q2, _⟩
                rw [← hn.out] at q1 q2
                omega
              · exact hno.out j h1 (by omega) h3
            by_cases h1 : 65536 < n
            · have h1' : (65536 : Int) < (n : Int) := by omega
              go_wp2
              exact ⟨⟨d + 1, by omega, by omega, by go_num, hno'.out, hb.out⟩, by simp [intOf]; omega⟩
            · have h1' : ¬ (65536 : Int) < (n : Int) := by omega
              have h2' : (zs.length : Int) < (d : Int) + (n : Int) + 4 := by omega
              go_wp2
              exact ⟨⟨d + 1, by omega, by omega, by go_num, hno'.out, hb.out⟩, by simp [intOf]; omega⟩
          · have h1' : ¬ (65536 : Int) < (n : Int) := by omega
            have h2' : ¬ (zs.length : Int) < (d : Int) + (n : Int) + 4 := by omega
            have hcd : ¬ c = d := by omega
            have hdc : (d : Int) + (n : Int) ≤ (c : Int) := by omega
            have hdc4 : (d : Int) + (n : Int) + 4 ≤ (c : Int) := by omega
            have hn65 : n ≤ 65536 := by omega
            have htn : ((d : Int) + (n : Int)).toNat = d + n := by omega
            have htn4 : ((d : Int) + (n : Int) + 4).toNat = d + n + 4 := by omega
            have hw1 : IntKind.i64.wrap ((d : Int) + (n : Int)) = (d : Int) + (n : Int) := by rw [IntKind.wrap_i64]; omega
            have hw2 : IntKind.i64.wrap ((d : Int) + (n : Int) + 4) = (d : Int) + (n : Int) + 4 := by rw [IntKind.wrap_i64]; omega
            clear hs0 hs1
            have hdn : d + n - d = n := by omega
            have hpl : ((zs.drop d).take n).length = n := by simp; omega
            have h65 := hid (show ((zs.drop d).take n).length ≤ 65536 by omega)
            have HF := hid (fun (W : World) (e : W.heap = wr.heap) => (hwr.out.part d (d + n) (by omega) (by omega) n (c - d) (by omega) (by omega) (by unfold maxLen; omega)).heap e)
            have HT := hid (fun (W : World) (hbw : Below wr.heap.size wr W) => (hwr.out.take0 (d + n + 4) (by omega)).below hbw)
            have fin2 : Hid (∀ W2, Below wr.heap.size wr W2 → ∃ a' c' w', (∀ ty, (Builtin.append_ #[22, 22] ty #[.slice none 0 0, .slice (some ⟨b, off + d, none⟩) n (c - d)]).run Try.prog W2 = .ok (.slice a' n c') w') ∧ Own w.heap.size w' (.slice a' n c') ((zs.drop d).take n) ∧ Below w.heap.size w w') := by
              intro W2 hb2
              have hbw := low' hb.out hb2
              obtain ⟨a', c', w', r1, o1, g1, _⟩ := app_run (own_nil w.heap.size W2) ((HF.out wr rfl).below hb2) (by simp; omega) hbw.size
              simp only [List.length_nil, Nat.zero_add, List.nil_append, hpl] at r1 o1
              exact ⟨a', c', w', r1, o1, hbw.trans (app_low (own_nil w.heap.size W2) hbw.size g1)⟩
            cases hq : (fr ((zs.drop d).take n) == zs.take (d + n + 4))
            · have hno' : Hid (∀ j, 1 ≤ j → j < d + 1 → j ≤ zs.length → ¬ hit zs j) := fun j h1 h2 h3 => by
                by_cases e : j = d
                · subst e
                  rintro ⟨_, _, q3⟩
                  rw [← hn.out] at q3
                  simp [q3] at hq
                · exact hno.out j h1 (by omega) h3
              generalize hp : (zs.drop d).take n = p at *
              generalize hp2 : zs.take (d + n + 4) = p2 at *
              replace hp := hid hp
              replace hp2 := hid hp2
              clear hno hpl fin2
              go_wp2_with fail
              go_region_with (first | (go_at_call 12; refine (rframe _ p _ (by exact HF.out _ rfl) h65.out).mono ?_; rintro e w1 ⟨a1, c1, rfl, o1, b1⟩; have O1 := hid o1; have B1 : Hid (Below wr.heap.size wr w1) := (by first | exact b1 | exact (Below.refl wr.heap.size wr).drew.trans b1); clear o1 b1) | (go_at_call 11; refine (same_any _ _ _ _ _ (by first | exact O1.out.isB | exact O1.out.isB.heap rfl) (by first | exact HT.out _ B1.out | exact HT.out _ B1.out.drew)).mono ?_; rintro e w2 ⟨rfl, q, hw2⟩; have B2 : Hid (Below wr.heap.size wr w2) := (by rw [hw2]; first | exact B1.out.trans ⟨rfl, rfl, rfl, Nat.le_refl _, fun _ _ => rfl⟩ | exact B1.out.drew.trans ⟨rfl, rfl, rfl, Nat.le_refl _, fun _ _ => rfl⟩); clear hw2))
              all_goals
                go_wp2
                exact ⟨⟨d + 1, by omega, by omega, by go_num, hno'.out, low' hb.out B2.out⟩, by simp [intOf]; omega⟩
            · have hnx := hit_next (zs := zs) (k := d) (by
                refine ⟨by rw [← hn.out]; omega, by rw [← hn.out]; omega, ?_⟩
                rw [← hn.out]
                simpa using hq)
              rw [← hn.out] at hnx
              generalize hp : (zs.drop d).take n = p at *
              generalize hp2 : zs.take (d + n + 4) = p2 at *
              replace hp := hid hp
              replace hp2 := hid hp2
              replace hnx := hid hnx
              replace hpl := hid hpl
              clear hno
              go_wp2_with fail
              go_region_with (first | (go_at_call 12; refine (rframe _ p _ (by exact HF.out _ rfl) h65.out).mono ?_; rintro e w1 ⟨a1, c1, rfl, o1, b1⟩; have O1 := hid o1; have B1 : Hid (Below wr.heap.size wr w1) := (by first | exact b1 | exact (Below.refl wr.heap.size wr).drew.trans b1); clear o1 b1) | (go_at_call 11; refine (same_any _ _ _ _ _ (by first | exact O1.out.isB | exact O1.out.isB.heap rfl) (by first | exact HT.out _ B1.out | exact HT.out _ B1.out.drew)).mono ?_; rintro e w2 ⟨rfl, q, hw2⟩; have B2 : Hid (Below wr.heap.size wr w2) := (by rw [hw2]; first | exact B1.out.trans ⟨rfl, rfl, rfl, Nat.le_refl _, fun _ _ => rfl⟩ | exact B1.out.drew.trans ⟨rfl, rfl, rfl, Nat.le_refl _, fun _ _ => rfl⟩); obtain ⟨a3, c3, w3, hrun, o3, b3⟩ := fin2.out w2 B2.out; have O3 := hid o3; have B3 := hid b3; clear hw2 o3 b3))
              all_goals
                go_wp2_with (at_builtin; refine wpList_append_run _ rfl _ _ 22 rfl _ _ _ _ rfl rfl hrun ?_)
                refine bodyPost_ret (v := .tuple #[.slice a3 n c3, .int .i64 ((d : Int) + (n : Int) + 4), .int .i64 0]) (by simp [results, Try.results13, go_sem]) rfl ⟨B3.out, .inr ⟨p, d + n + 4, a3, c3, hnx.out, ?_, ?_⟩⟩
                · rw [hpl.out, show ((d + n + 4 : Nat) : Int) = (d : Int) + (n : Int) + 4 by omega]
                · rw [hpl.out]; exact O3.out
    · have hkx : Hid (nextP zs = none) := none_of HB.out fun j h1 h2 h3 => hno j h1 (by omega) h3
      clear hno
      by_cases hk3 : k ≤ 3
      · have hk3' : (k : Int) ≤ 3 := by omega
        have hkl' : ¬ (k : Int) ≤ (zs.length : Int) := by omega
        go_wp2
        exact bodyPost_ret (v := .tuple #[.slice none 0 0, .int .i64 0, .int .i64 40]) (by simp [results, Try.results13, go_sem]) rfl ⟨hb.out, .inl ⟨hkx.out, rfl⟩⟩
      · have hk3' : ¬ (k : Int) ≤ 3 := by omega
        go_wp2
        exact bodyPost_ret (v := .tuple #[.slice none 0 0, .int .i64 0, .int .i64 40]) (by simp [results, Try.results13, go_sem]) rfl ⟨hb.out, .inl ⟨hkx.out, rfl⟩⟩
end Go.Proofs.Ytffopkpbekjanaa
