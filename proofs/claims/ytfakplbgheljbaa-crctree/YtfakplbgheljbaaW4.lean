/- Contracts of the statements' own helpers: Great, All, and the document's sum, told bit by bit. -/
import Derived.Test.YtfakplbgheljbaaW3
import Derived.Test.YtfakplbgheljbaaLeavesP
import Derived.OwnWalk
import Derived.Laws.AppendOwn
import Derived.Laws.AppendOwnNone
import Derived.Laws.ShiftsVar
namespace Go.Proofs.Ytfakplbgheljbaa
open Go.RowKit

/-- a slice's value over a row of slices of bytes, of which a nil one has no room. -/
def IsQ (w : World) (v : Value) (l : List (List Int)) : Prop :=
  l.length ≤ maxLen ∧ ∃ a cap, v = .slice a l.length cap ∧ (l = [] ∨ ∃ b off, a = some ⟨b, off, none⟩ ∧ ∀ i, i < l.length → ∃ u, w.cell? ⟨b, off + i, none⟩ = some u ∧ IsB w u (l.getD i []) ∧ ∀ n c, u = .slice none n c → c = 0)
theorem IsQ.isP {w : World} {v : Value} {l : List (List Int)} (h : IsQ w v l) : IsP w v l := by
  obtain ⟨h1, a, cap, rfl, h3⟩ := h
  refine ⟨h1, a, cap, rfl, ?_⟩
  rcases h3 with rfl | ⟨b, off, rfl, hc⟩
  · exact .inl rfl
  · refine .inr ⟨b, off, rfl, fun i hi => ?_⟩
    obtain ⟨u, hu, hB, _⟩ := hc i hi
    exact ⟨u, hu, hB⟩
theorem IsQ.below {w w' : World} {v : Value} {l : List (List Int)} (h : IsQ w v l) (hb : Below w.heap.size w w') : IsQ w' v l := by
  obtain ⟨h1, a, cap, rfl, h3⟩ := h
  refine ⟨h1, a, cap, rfl, ?_⟩
  rcases h3 with rfl | ⟨b, off, rfl, hc⟩
  · exact .inl rfl
  · refine .inr ⟨b, off, rfl, fun i hi => ?_⟩
    obtain ⟨u, hu, hB, hn⟩ := hc i hi
    refine ⟨u, ?_, hB.below hb, hn⟩
    rw [hb.cell (p := ⟨b, off + i, none⟩) (World.block_lt_of_cell? w _ hu)]
    exact hu
theorem getD_mem_l (l : List (List Int)) (i : Nat) (h : i < l.length) : l.getD i [] ∈ l := by
  simp [List.getD, List.getElem?_eq_getElem h]

set_option maxHeartbeats 2000000 in
theorem great_any (v : Value) (l : List (List Int)) (w : World) (h : IsP w v l) (hs : ∀ z ∈ l, z.length ≤ 140737488351232) :
    Calls Try.prog 9 #[v] w fun e w' => e = .returned (.bool (decide (10000 < wt l))) ∧ w' = w := by
  obtain ⟨hm, a, cap, rfl, hc⟩ := h
  unfold maxLen at hm
  have HC := hid hc
  have HS := hid hs
  clear hc hs
  go_enter Try.func9, Try.ntmps9
  go_wp2
  go_loop [3, 4] (fun n i => ∃ (k : Nat), k ≤ l.length ∧ i = .int .i64 k ∧ wt (l.take k) ≤ 10000 ∧ n = .int .i64 (wt (l.take k) : Int)) (fun _ i => l.length - (intOf i).toNat)
  case atStart => exact ⟨0, by omega, rfl, by simp [wt], by simp [wt]⟩
  case round =>
    obtain ⟨k, hk, rfl, hle, rfl⟩ := hrel
    by_cases hlt : k < l.length
    · have hlt' : (k : Int) < (l.length : Int) := by omega
      obtain ⟨b, off, rfl, hcell⟩ : ∃ b off, a = some ⟨b, off, none⟩ ∧ ∀ i, i < l.length → ∃ u, w.cell? ⟨b, off + i, none⟩ = some u ∧ IsB w u (l.getD i []) := by
        rcases HC.out with h | h
        · subst h; simp at hlt
        · exact h
      obtain ⟨u, hcu, hzm, hzb, a1, cap1, rfl, _, _, hc1⟩ := hcell k hlt
      have hsz := HS.out _ (getD_mem_l l k hlt)
      have HW := hid (wt_take l k hlt)
      have HL := hid (wt_le l (k + 1))
      clear hcell hc1 hzb
      generalize l.getD k [] = zs at *
      generalize wt (l.take k) = n at *
      by_cases h1 : 10000 < n + 1 + zs.length
      · have h1' : (10000 : Int) < (n : Int) + 1 + (zs.length : Int) := by omega
        go_wp2
        go_ret
        refine ⟨?_, rfl⟩
        have : 10000 < wt l := by have := HW.out; have := HL.out; omega
        simp [this]
      · have h1' : ¬ (10000 : Int) < (n : Int) + 1 + (zs.length : Int) := by omega
        go_wp2
        go_round
        case rel => exact ⟨k + 1, by omega, by go_num, by have := HW.out; omega, congrArg (Value.int .i64) (by have := HW.out; omega)⟩
        case measure => simp [intOf]; omega
    · have hlt' : ¬ (k : Int) < (l.length : Int) := by omega
      go_wp2
      go_ret
      refine ⟨?_, rfl⟩
      rw [List.take_of_length_le (by omega)] at hle
      simp; omega

theorem info5 : (Try.prog.info? 5).map (fun i => (i.zero, i.size, i.bytes)) = some (some (.int .u8 0), 1, 1) := by kernel_rfl
def rw8 (l : List Int) : List Value := l.map (Value.int .u8)
theorem rw8_append (a b : List Int) : rw8 (a ++ b) = rw8 a ++ rw8 b := by simp [rw8]
theorem rw8_length (a : List Int) : (rw8 a).length = a.length := by simp [rw8]
theorem own_block {w : World} {base n : Nat} {v : Value} {xs : List Value} (h : w.ownsRow base 5 1 v n xs) : ∀ k, v.ownBlock = some k → base ≤ k := by
  intro k hk
  rcases h.2 with ⟨rfl, _⟩ | ⟨g, cap, cur, rfl, hg, _⟩
  · simp [Value.ownBlock] at hk
  · simp [Value.ownBlock] at hk; omega
theorem own_isB {w : World} {base n : Nat} {v : Value} {zs : List Int} (h : w.ownsRow base 5 1 v n (rw8 zs)) (hz : ∀ z ∈ zs, 0 ≤ z ∧ z < 256) (hm : zs.length ≤ maxLen) : IsB w v zs ∧ ∀ n c, v = .slice none n c → c = 0 := by
  have hn : zs.length = n := by have := h.1; rw [rw8_length] at this; omega
  rcases h.2 with ⟨rfl, h0⟩ | ⟨g, cap, cur, rfl, hg, hblk, hnc, hcm, hsz, htk⟩
  · obtain rfl : zs = [] := List.eq_nil_of_length_eq_zero (by omega)
    exact ⟨⟨by simp, by simp, none, 0, rfl, by simp, by simp, .inl rfl⟩, fun n c h => by cases h; rfl⟩
  · subst hn
    refine ⟨⟨hm, hz, _, _, rfl, hnc, hcm, .inr ⟨_, _, rfl, fun i hi => ?_⟩⟩, fun n c h => by cases h⟩
    have hc := h.cells (g := g) rfl i (.int .u8 (zs.getD i 0)) (by simp [rw8, List.getElem?_eq_getElem hi, List.getD])
    rw [Addr.add_lit] at hc
    exact hc
theorem piece_cells (w : World) (ad : Option Addr) (cap : Nat) (zs : List Int) (h : IsB w (.slice ad zs.length cap) zs) (x : Addr) (hx : ad = some x) :
    ∀ j u, (rw8 zs)[j]? = some u → w.cell? (x.add j) = some u := by
  intro j u hj
  obtain ⟨_, _, a', cap', hv, _, _, hor⟩ := h
  obtain ⟨rfl, rfl⟩ : ad = a' ∧ cap = cap' := by simpa using hv
  have hlt : j < zs.length := by have := (List.getElem?_eq_some_iff.1 hj).1; rwa [rw8_length] at this
  rcases hor with h | ⟨b, off, h, hc⟩
  · subst h; simp at hlt
  · rw [hx] at h
    obtain rfl := Option.some.inj h
    rw [Addr.add_lit, hc j hlt]
    rw [← hj]; simp [rw8, List.getElem?_eq_getElem hlt, List.getD]
theorem rw8_one (zs : List Int) : ∀ v ∈ rw8 zs, v.oneCell' = true := ints_oneCell _ _

theorem piece_at (w wr : World) (l : List (List Int)) (b off k : Nat) (hlt : k < l.length) (hc : ∀ i, i < l.length → ∃ u, w.cell? ⟨b, off + i, none⟩ = some u ∧ IsB w u (l.getD i []) ∧ ∀ n c, u = .slice none n c → c = 0) (hb : Below w.heap.size w wr) :
    ∃ a1 cap1, wr.cell? ⟨b, off + k, none⟩ = some (.slice a1 (l.getD k []).length cap1) ∧ IsB wr (.slice a1 (l.getD k []).length cap1) (l.getD k []) ∧ (a1 = none → cap1 = 0) := by
  obtain ⟨u, hu, hB, hn⟩ := hc k hlt
  obtain ⟨a1, cap1, rfl⟩ : ∃ a cap, u = .slice a (l.getD k []).length cap := by obtain ⟨_, _, a, cap, h, _⟩ := hB; exact ⟨a, cap, h⟩
  refine ⟨a1, cap1, ?_, hB.below hb, fun h => hn (l.getD k []).length _ (by rw [h])⟩
  rw [hb.cell (p := ⟨b, off + k, none⟩) (World.block_lt_of_cell? w _ hu)]
  exact hu

set_option maxHeartbeats 4000000 in
theorem all_any (v : Value) (l : List (List Int)) (w : World) (h : IsQ w v l) (hz : ∀ z ∈ l.flatten, 0 ≤ z ∧ z < 256) (hw : wt l ≤ 10000) :
    Calls Try.prog 10 #[v] w fun e w' => ∃ v', e = .returned v' ∧ IsB w' v' l.flatten ∧ (∀ n c, v' = .slice none n c → c = 0) ∧ Below w.heap.size w w' := by
  obtain ⟨hm, a, cap, rfl, hc⟩ := h
  unfold maxLen at hm
  have HC := hid hc
  have HZ := hid hz
  have HW := hid hw
  clear hc hz hw
  obtain ⟨i0, hi, hz0, hz1, hz2⟩ := info_parts info5
  go_enter Try.func10, Try.ntmps10
  go_wp2
  go_loopw [3, 4] (fun out i wr => ∃ (k : Nat), k ≤ l.length ∧ i = .int .i64 k ∧ wr.ownsRow w.heap.size 5 1 out (l.take k).flatten.length (rw8 (l.take k).flatten) ∧ Below w.heap.size w wr) (fun _ i _ => l.length - (intOf i).toNat)
  case atStart => exact ⟨0, by omega, rfl, World.ownsRow_nil _ _ _ _, Below.refl _ _⟩
  case round =>
    obtain ⟨k, hk, rfl, hown, hbel⟩ := hrel
    by_cases hlt : k < l.length
    · have hlt' : (k : Int) < (l.length : Int) := by omega
      obtain ⟨b, off, rfl, hcell⟩ : ∃ b off, a = some ⟨b, off, none⟩ ∧ ∀ i, i < l.length → ∃ u, w.cell? ⟨b, off + i, none⟩ = some u ∧ IsB w u (l.getD i []) ∧ ∀ n c, u = .slice none n c → c = 0 := by
        rcases HC.out with h | h
        · subst h; simp at hlt
        · exact h
      obtain ⟨a1, cap1, hcu, hB, hnil⟩ := piece_at w wr l b off k hlt hcell hbel
      have HF := hid (flat_take l k hlt)
      have HWK : Hid ((l.take (k + 1)).flatten.length ≤ 10000) := by
        have h1 := wt_le l (k + 1)
        have h2 := HW.out
        unfold wt at h1 h2
        show _ ≤ _
        omega
      generalize l.getD k [] = zs at *
      generalize (l.take k).flatten = ys at *
      obtain ⟨yz, hyz⟩ : ∃ yz, (l.take (k + 1)).flatten = yz := ⟨_, rfl⟩
      rw [hyz] at HF HWK
      have HYZ := hid hyz
      clear hyz
      have HOWN := hid hown
      have HBEL := hid hbel
      have HB := hid hB
      clear hown hbel hB hcell
      cases a1 with
      | none =>
        obtain rfl := hnil rfl
        obtain rfl : zs = [] := by
          obtain ⟨_, _, a', cap', hv, h1, _, hor⟩ := HB.out
          rcases hor with h | ⟨_, _, h, _⟩
          · exact h
          · obtain ⟨h3, _⟩ : none = a' ∧ 0 = cap' := by simpa using hv
            rw [← h3] at h; cases h
        have HB0 := hid (HBEL.out.size)
        go_wp2_with (at_builtin; refine wpList_append_own_none rfl _ _ 24 rfl w.heap.size 5 i0 1 Try.underlying24 hi _ _ _ rfl HOWN.out rfl ?_)
        go_roundw
        case rel => exact ⟨k + 1, by omega, by go_num, by rw [HYZ.out, HF.out, List.append_nil]; exact HOWN.out, HBEL.out⟩
        case measure => simp [intOf]; omega
      | some ad =>
        go_wp2_with (at_builtin; refine wpList_append_own _ rfl _ _ 24 rfl w.heap.size 5 i0 (.int .u8 0) 1 1 Try.underlying24 hi hz0 hz1 hz2 rfl (by decide) _ _ _ rfl HOWN.out ad zs.length cap1 (rw8 zs) rfl (by rw [rw8_length]; omega) (piece_cells _ _ _ _ HB.out ad rfl) (rw8_one zs) ?c1 ?c2 HBEL.out.size ?_)
        case c1 => have := HF.out; have := HWK.out; have e : yz.length = ys.length + zs.length := by rw [HF.out, List.length_append]
                   unfold maxLen; omega
        case c2 => have := HF.out; have := HWK.out; have e : yz.length = ys.length + zs.length := by rw [HF.out, List.length_append]
                   omega
        intro v' w1 hown1 hgrow _
        have hb1 : Below w.heap.size w w1 := HBEL.out.grown hgrow HBEL.out.size (own_block HOWN.out)
        have HO1 := hid hown1
        have HB1 := hid hb1
        clear hown1 hb1 hgrow
        go_wp2
        go_roundw
        case rel => exact ⟨k + 1, by omega, by go_num, by rw [HYZ.out, HF.out, List.length_append, rw8_append]; exact HO1.out, HB1.out⟩
        case measure => simp [intOf]; omega
    · have hlt' : ¬ (k : Int) < (l.length : Int) := by omega
      obtain rfl : k = l.length := by omega
      rw [List.take_length] at hown
      have HB := own_isB hown HZ.out (by have := HW.out; unfold wt at this; unfold maxLen; omega)
      have HB' := hid HB
      have HBEL := hid hbel
      clear hown HB hbel
      go_wp2
      go_ret
      exact ⟨_, rfl, HB'.out.1, HB'.out.2, HBEL.out⟩
end Go.Proofs.Ytfakplbgheljbaa
