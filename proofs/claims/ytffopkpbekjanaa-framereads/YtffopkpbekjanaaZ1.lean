/- append of so many noughts; the document's Copy and Same. -/
import Derived.Test.YtffopkpbekjanaaW4
import Derived.Lib.AppendZerosOnto
namespace Go.Proofs.Ytffopkpbekjanaa
open Go.RowKit

theorem zeroCells_list (k : Nat) : (Builtin.zeroCells (Value.int .u8 0).cells k).toList = (List.replicate k (0 : Int)).map (Value.int .u8) := by
  apply List.ext_getElem
  · simp [Builtin.zeroCells, Value.cells]
  · intro i h1 h2
    simp [Builtin.zeroCells, Value.cells, Nat.mod_one]
theorem zeros_byt (k : Nat) : Byt (List.replicate k 0) := fun z hz => by rw [List.eq_of_mem_replicate hz]; omega
theorem zeros_run {w : World} {base : Nat} {v : Value} {b : List Int} (hr : Own base w v b) (k : Nat) (hl : b.length + k ≤ 140737488355328) (hb : base ≤ w.heap.size) :
    ∃ a' c' w', (∀ ty, (Builtin.append_ #[22, 3] ty #[v, .int .i64 (k : Int)]).run Try.prog w = .ok (.slice a' (b.length + k) c') w') ∧ Own base w' (.slice a' (b.length + k) c') (b ++ List.replicate k 0) ∧ w.grownBy w' v.ownBlock := by
  obtain ⟨i0, hi, hz0, hz1, hz2⟩ := info_parts bytesInfo
  have ht := Try.underlying22
  have htn := Try.underlying3
  have hwk : IntKind.i64.wrap (k : Int) = k := by rw [IntKind.wrap_i64]; omega
  have hw0 : IntKind.i64.wrap 0 = 0 := by decide
  have hneg : ¬ ((k : Int) < 0) := by omega
  have h48 : ¬ ((281474976710656 : Int) < (k : Int)) := by omega
  have hbyt := hr.1.app (zeros_byt k)
  have grow : ∀ (bs : Option Addr) (cap : Nat), v = .slice bs b.length cap → 0 < k → cap < b.length + k → ((Builtin.firstCells i0.size b.length (.slice bs b.length cap)).run Try.prog w.drew = .ok (b.map (Value.int .u8)).toArray w.drew) →
      ∃ a' c' w', (∀ ty, (Builtin.append_ #[22, 3] ty #[v, .int .i64 (k : Int)]).run Try.prog w = .ok (.slice a' (b.length + k) c') w') ∧ Own base w' (.slice a' (b.length + k) c') (b ++ List.replicate k 0) ∧ w.grownBy w' v.ownBlock := by
    intro bs cap e hk0 hc hold
    have hge := grownCap_ge w (b.length + k) cap 5
    have hcm : grownCap w (b.length + k) cap 5 ≤ maxLen := grownCap_le_maxLen w (b.length + k) cap 5 (by unfold maxLen; omega)
    subst e
    have hrun := fun ty => Lib.run_append_grow_zeros (P := Try.prog) w 22 3 ty 5 i0 (.int .u8 0) .i64 .i64 ht htn hi hz0 bs b.length cap (b.map (Value.int .u8)) hold k hk0 (by omega) hc (by omega) (by rw [hz2]; omega) (by rw [hz2]; exact growslice_fits hc (by omega))
    refine ⟨_, _, _, hrun, ⟨hbyt, by simp, .inr ⟨w.heap.size, grownCap w (b.length + k) cap 5, _, by simp, hb, new_block w.drew _, by simpa using hge, hcm, ?_, ?_⟩⟩, ⟨rfl, rfl, rfl, by simp, fun j hj _ => (alloc_below w.drew _).block j hj⟩⟩
    · simp only [Array.size_append, List.size_toArray, List.length_map, size_zeroCells]
      simp [Value.cells]
      omega
    · simp only [Array.toList_append, zeroCells_list, List.map_append]
      exact List.take_left' (by simp)
  rcases hr.2.2 with ⟨e, h0⟩ | ⟨g, cap, cur, e, hbg, hg, hnc, hcm, hcs, htake⟩
  · obtain rfl : b = [] := List.eq_nil_of_length_eq_zero h0
    by_cases hk : k = 0
    · subst hk
      subst e
      refine ⟨none, 0, w, fun ty => ?_, own_nil _ _, ⟨rfl, rfl, rfl, Nat.le_refl _, fun _ _ _ => rfl⟩⟩
      simp [Builtin.append_, run_underlying ht, run_underlying htn, sizeOf, typeInfo, hi, asInt, asIntOf, hw0]
    · exact grow none 0 e (by omega) (by simp; omega) (by simp [Builtin.firstCells])
  · by_cases hroom : b.length + k ≤ cap
    · subst e
      have hst := run_storeCells_at Try.prog g b.length 5 ((List.replicate k (0 : Int)).map (Value.int .u8)) 0 cur w hg (by simp; omega) (by intro u hu; obtain ⟨x, _, rfl⟩ := List.mem_map.1 hu; rfl)
      simp only [Nat.add_zero, List.map_replicate, List.length_replicate] at hst
      by_cases hk : k = 0
      · subst hk
        refine ⟨_, cap, w, fun ty => ?_, by simpa using hr, ⟨rfl, rfl, rfl, Nat.le_refl _, fun _ _ _ => rfl⟩⟩
        simp [Builtin.append_, run_underlying ht, run_underlying htn, sizeOf, typeInfo, hi, asInt, asIntOf, hw0, hnc, storeCells]
      · have hza := zeroCells_list k
        refine ⟨some ⟨g, 0, none⟩, cap, _, fun ty => ?_, ⟨hbyt, by simp, .inr ⟨g, cap, _, by simp, hbg, setRow_heap w g cur (cur.toList.take b.length ++ (List.replicate k (0 : Int)).map (Value.int .u8) ++ cur.toList.drop (b.length + k)).toArray _ _ hg, by simpa using hroom, hcm, ?_, ?_⟩⟩, ⟨rfl, rfl, rfl, by simp, fun j _ hj => setRow_other w g j _ (fun e => hj (by simp [Value.ownBlock, e]))⟩⟩
        · simp [Builtin.append_, run_underlying ht, run_underlying htn, sizeOf, typeInfo, zeroValue, hi, hz0, hz1, hz2, asInt, asIntOf, hwk, hneg, h48, hroom, hk, hza, Addr.add_lit]
          rw [hst]
          simp
        · simp only [List.size_toArray, List.length_append, List.length_take, List.length_drop, List.length_map, List.length_replicate, Array.length_toList]
          omega
        · have h2 : cur.toList.take b.length = b.map (Value.int .u8) := by simpa using htake
          simp only [h2]
          rw [← List.map_append]
          exact List.take_left' (by simp)
    · refine grow _ cap e (by omega) (by omega) ?_
      have := hr.2.cells (g := g) (by rw [e]; rfl)
      have hf := run_firstCells_some (P := Try.prog) w.drew i0.size b.length ⟨g, 0, none⟩ b.length cap (b.map (Value.int .u8)) (by rw [hz1]; simp) (fun j u hj => this j u hj)
      exact hf
set_option maxHeartbeats 1000000 in
theorem copy_any (v : Value) (zs : List Int) (w : World) (h : IsB w v zs) (hl : zs.length ≤ 140737488355328) :
    Calls Try.prog 9 #[v] w fun e w' => ∃ a c, e = .returned (.slice a zs.length c) ∧ Own w.heap.size w' (.slice a zs.length c) zs ∧ Below w.heap.size w w' := by
  obtain ⟨a, c, rfl⟩ := h.slice
  obtain ⟨a', c', w', hrun, ho, hg, _⟩ := app_run (own_nil w.heap.size w) h (by simpa using hl) (Nat.le_refl _)
  have hb := hid (app_low (own_nil w.heap.size w) (Nat.le_refl _) hg)
  simp only [List.length_nil, Nat.zero_add, List.nil_append] at hrun ho
  replace ho := hid ho
  clear h hg
  go_enter Try.func9, Try.ntmps9
  go_wp2_with (at_builtin; refine wpList_append_run _ rfl _ _ 22 rfl _ _ _ _ rfl rfl hrun ?_)
  go_ret
  exact ⟨_, _, rfl, ho.out, hb.out⟩
theorem same_all (a b : List Int) (hl : a.length = b.length) (h : ∀ i, i < a.length → a.getD i 0 = b.getD i 0) : a = b := by
  apply List.ext_getElem hl
  intro i h1 h2
  have := h i h1
  simpa [List.getD, List.getElem?_eq_getElem h1, List.getElem?_eq_getElem h2] using this
set_option maxHeartbeats 1000000 in
theorem same_any (va vb : Value) (a b : List Int) (w : World) (ha : IsB w va a) (hb : IsB w vb b) :
    Calls Try.prog 11 #[va, vb] w fun e w' => e = .returned (.bool (a == b)) ∧ ∃ n, w' = w.drewN n := by
  obtain ⟨aa, ca, rfl⟩ := ha.slice
  obtain ⟨ab, cb, rfl⟩ := hb.slice
  have hba := ha.bound
  have hbb := hb.bound
  by_cases hl : a.length = b.length
  · have hl' : ((a.length : Int) == (b.length : Int)) = true := by simp; omega
    replace ha := hid ha
    replace hb := hid hb
    have HL := hid hl
    clear hl
    go_enter Try.func11, Try.ntmps11
    go_wp2
    go_loopw [5] (fun iv wr => ∃ k : Nat, k ≤ a.length ∧ iv = .int .i64 (k : Int) ∧ (∀ i, i < k → a.getD i 0 = b.getD i 0) ∧ ∃ n, wr = w.drewN n) (fun iv _ => a.length - (intOf iv).toNat)
    case atStart => exact ⟨0, by omega, rfl, (by intro i hi; omega), 0, rfl⟩
    case round =>
      obtain ⟨k, hk, rfl, hp, n, rfl⟩ := hrel
      by_cases hlt : k < a.length
      · have hlt' : (k : Int) < (a.length : Int) := by omega
        have hltb' : k < b.length := by have := HL.out; omega
        have hltb : (k : Int) < (b.length : Int) := by omega
        obtain ⟨b1, o1, rfl, hc1⟩ := (ha.out.at).2.2.2 (by omega)
        obtain ⟨b2, o2, rfl, hc2⟩ := (hb.out.at).2.2.2 (by omega)
        replace hc1 := hc1 k hlt
        replace hc2 := hc2 k hltb'
        by_cases he : a.getD k 0 = b.getD k 0
        · have he' : (a.getD k 0 == b.getD k 0) = true := by simpa using he
          have hp' : Hid (∀ i, i < k + 1 → a.getD i 0 = b.getD i 0) := fun i hi => by
            by_cases h : i = k
            · subst h; exact he
            · exact hp i (by omega)
          clear hp he
          generalize a.getD k 0 = x at *
          generalize b.getD k 0 = y at *
          go_wp2
          go_quiet (fail)
          go_wp2
          exact ⟨⟨k + 1, by omega, by go_num, hp'.out, _, rfl⟩, by simp [intOf]; omega⟩
        · have he' : (a.getD k 0 == b.getD k 0) = false := by simpa using he
          have e : (a == b) = false := by
            simp
            intro h
            exact he (by rw [h])
          clear hp he
          generalize a.getD k 0 = x at *
          generalize b.getD k 0 = y at *
          go_wp2
          go_quiet (fail)
          go_wp2
          go_ret
          exact ⟨by rw [e]; rfl, _, World.drewN_drewN ..⟩
      · have hlt' : ¬ (k : Int) < (a.length : Int) := by omega
        obtain rfl : k = a.length := by omega
        have e : (a == b) = true := by simpa using same_all a b HL.out hp
        clear hp
        go_wp2
        go_ret
        exact ⟨rfl, n, rfl⟩
  · have hl' : ((a.length : Int) == (b.length : Int)) = false := by simp; omega
    have e : (a == b) = false := by simp; intro h; exact hl (by rw [h])
    clear ha hb hl
    rw [e]
    clear e
    go_enter Try.func11, Try.ntmps11
    go_wp2
    go_ret
    exact ⟨rfl, 0, rfl⟩
end Go.Proofs.Ytffopkpbekjanaa
