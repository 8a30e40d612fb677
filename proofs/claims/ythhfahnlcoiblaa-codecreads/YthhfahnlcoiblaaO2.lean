/- The law's read beside other objects; contract of Same of two values that are the same. -/
import Derived.Test.YthhfahnlcoiblaaR4
namespace Go.Proofs.Ythhfahnlcoiblaa
open Go.RowKit

/-- a reader is turned, and bytes of one's own are laid. -/
theorem Many.rdPush {B : Nat} {w0 w : World} {l : List Ob} (h : Many B w0 w l) (i : Nat) {p : Nat} {st : St} (hi : l[i]? = some (.rd p st)) : ∃ F q sv, RAt F w p q sv st ∧ ∀ w' st' v zs, RTo F w w' p q st' → Own w.heap.size w' v zs → Many B w0 w' (l.set i (.rd p st') ++ [.by_ v zs]) := by
  obtain ⟨Fs, h1, h2⟩ := h.ex
  obtain ⟨⟨q, sv, hA⟩, hB⟩ := h1 i _ hi
  have hil : i < l.length := (List.getElem?_eq_some_iff.1 hi).1
  have hlt : ∀ x, x < l.length → ∀ k, Fs x k → k < w.heap.size := fun x hx k hk' => (h1 x _ (List.getElem?_eq_getElem hx)).1.lt k hk'
  refine ⟨Fs i, q, sv, hA, fun w' st' v zs ht ho => ?_⟩
  obtain ⟨sv', hA', hk⟩ := ht
  refine ⟨h.low.trans (hk.below h.size hB), h.le, fun j => if j = l.length then (fun k => v.ownBlock = some k) else Fs j, fun j oj hj => ?_, fun a b k ha hb hab => ?_⟩
  · by_cases e : j = l.length
    · subst e
      rw [List.getElem?_append_right (by simp)] at hj
      simp at hj
      subst hj
      simp only [if_true]
      exact ⟨⟨ho.base (Nat.zero_le _), fun _ hk => hk, fun k hk => (ho.lt hk).2⟩, fun k hk => Nat.le_trans h.size (ho.lt hk).1⟩
    · simp only [e, if_false]
      have hj2 : j < l.length := by have := (List.getElem?_eq_some_iff.1 hj).1; simp at this; omega
      rw [List.getElem?_append_left (by simpa using hj2)] at hj
      by_cases e2 : j = i
      · subst e2
        rw [List.getElem?_set_self hil] at hj
        cases hj
        exact ⟨⟨q, sv', hA'⟩, hB⟩
      · rw [List.getElem?_set_ne (fun e' => e2 e'.symm)] at hj
        have hj' := h1 j oj hj
        exact ⟨hj'.1.keep hk.size fun k hkk => hk.block k (hj'.1.lt k hkk) fun hF => h2 i j k hil hj2 (fun e' => e2 e'.symm) hF hkk, hj'.2⟩
  · simp only [List.length_append, List.length_set, List.length_singleton] at ha hb
    by_cases ea : a = l.length
    · by_cases eb : b = l.length
      · exact (hab (ea.trans eb.symm)).elim
      · simp only [ea, eb, if_true, if_false]
        intro hf hf2
        have := hlt b (by omega) k hf2
        have := (ho.lt hf).1
        omega
    · by_cases eb : b = l.length
      · simp only [ea, eb, if_true, if_false]
        intro hf2 hf
        have := hlt a (by omega) k hf2
        have := (ho.lt hf).1
        omega
      · simp only [ea, eb, if_false]
        exact h2 a b k (by omega) (by omega) hab
def MRead (B : Nat) (w0 : World) (l : List Ob) (i p k : Nat) (most : Int) (st : St) (e : Ending) (w' : World) : Prop :=
  ∃ a c, e = .returned (agg (readP k most st).1 (.slice a (readP k most st).1.l.length c)) ∧ Many B w0 w' (l.set i (.rd p (readP k most st).2) ++ [.by_ (.slice a (readP k most st).1.l.length c) (readP k most st).1.l])
theorem m_read {B : Nat} {w0 w : World} {l : List Ob} (h : Many B w0 w l) (i : Nat) {p : Nat} {st : St} (hi : l[i]? = some (.rd p st)) (k : Nat) (most : Int) (hk : k ≤ 5) (hm : most ≤ 9223372036854775807) (hl : (rpiece st).1.length ≤ 140737488355328) :
    Calls Try.prog 17 #[ptr p, .int .u8 (k : Int), .int .i64 most] w fun e w' => MRead B w0 l i p k most st e w' := by
  obtain ⟨F, q, sv, hA, ht⟩ := h.rdPush i hi
  refine (read_any k most w hA hk hm hl).mono ?_
  rintro e w' ⟨a, c, rfl, ho, hr⟩
  exact ⟨a, c, rfl, ht w' _ _ _ hr ho⟩
theorem rpiece_len {zs : List Int} : (rpiece (some zs)).1.length ≤ zs.length := by
  unfold rpiece
  rw [rnum_eq]
  unfold rnumL
  cases numP zs with
  | none => simp
  | some x =>
    obtain ⟨n, k⟩ := x
    simp only
    by_cases h : n ≤ 18446744073709551615
    · rw [if_pos h]
      simp only
      split
      · simp; omega
      · simp
    · rw [if_neg h]; simp
theorem rpiece_short (st : St) (h : (st.getD []).length ≤ 140737488355328) : (rpiece st).1.length ≤ 140737488355328 := by
  cases st with
  | none => simp [rpiece_none]
  | some zs => exact Nat.le_trans rpiece_len h
theorem numP_rest {zs : List Int} {n k : Nat} (_ : numP zs = some (n, k)) : (zs.drop k).length ≤ zs.length := by simp
theorem rnum_rest (m : Nat) (st : St) : ((rnum m st).2.getD []).length ≤ (st.getD []).length := by
  cases st with
  | none => simp [rnum]
  | some zs =>
    rw [rnum_eq]
    unfold rnumL
    cases numP zs with
    | none => simp
    | some x => simp only; split <;> simp
theorem rpiece_rest (st : St) : ((rpiece st).2.getD []).length ≤ (st.getD []).length := by
  have h := rnum_rest 18446744073709551615 st
  unfold rpiece
  split
  · simp
  · rename_i n zs hr
    rw [hr] at h
    simp only [Option.getD_some] at h
    split
    · simp; omega
    · simp
theorem readP_rest (k : Nat) (most : Int) (st : St) : ((readP k most st).2.getD []).length ≤ (st.getD []).length := by
  obtain rfl | rfl | rfl | rfl | rfl | rfl | ⟨j, rfl⟩ := kinds k
  · exact rnum_rest _ _
  · exact rnum_rest _ _
  · exact rnum_rest _ _
  · exact rpiece_rest _
  · exact rpiece_rest _
  · simp only [readP]
    split
    · simp
    · exact rnum_rest _ _
  · exact Nat.le_refl _
theorem readP_l (k : Nat) (most : Int) (st : St) : (readP k most st).1.l.length ≤ (st.getD []).length ∧ (readP k most st).1.s.length ≤ (st.getD []).length := by
  have hp : (rpiece st).1.length ≤ (st.getD []).length := by
    cases st with
    | none => simp [rpiece_none]
    | some zs => exact rpiece_len
  obtain rfl | rfl | rfl | rfl | rfl | rfl | ⟨j, rfl⟩ := kinds k
  · simp [readP, zeroV]
  · simp [readP, zeroV]
  · simp [readP, zeroV]
  · exact ⟨hp, by simp [readP, zeroV]⟩
  · exact ⟨by simp [readP, zeroV], by simp only [readP, byts_len]; exact hp⟩
  · simp only [readP]
    split <;> simp [zeroV]
  · simp [readP, zeroV]
set_option maxHeartbeats 1000000 in
theorem sameV_yes (x : Vl) (a b : Option Addr) (c d : Nat) (w : World) (ha : IsB w (.slice a x.l.length c) x.l) (hb : IsB w (.slice b x.l.length d) x.l) :
    Calls Try.prog 18 #[agg x (.slice a x.l.length c), agg x (.slice b x.l.length d)] w fun e w' => e = .returned (.bool true) ∧ Below w.heap.size w w' := by
  unfold agg str
  have hw := ((Below.refl w.heap.size w).alloc (Nat.le_refl _) (.cells #[.int .u8 (x.k : Int), .int .u64 (x.u : Int), .int .i64 x.i, .bool x.b, .slice a x.l.length c, .string ⟨x.s.toArray⟩, .int .i64 x.n] 29)).alloc (by simp) (.cells #[.int .u8 (x.k : Int), .int .u64 (x.u : Int), .int .i64 x.i, .bool x.b, .slice b x.l.length d, .string ⟨x.s.toArray⟩, .int .i64 x.n] 29)
  have hs := hid (same_any _ _ _ _ _ (ha.below hw) (hb.below hw))
  rw [show (x.l == x.l) = true by simp] at hs
  replace hw := hid hw
  clear ha hb
  go_enter Try.func18, Try.ntmps18
  go_wp2_with (go_at_call 13; refine hs.out.mono ?_; rintro e w' ⟨rfl, n, rfl⟩)
  go_ret
  exact ⟨rfl, below_drewN hw.out⟩
/-- the last two change places. -/
theorem Many.swap {B : Nat} {w0 w : World} {l : List Ob} {x y : Ob} (h : Many B w0 w (l ++ [x, y])) : Many B w0 w (l ++ [y, x]) := by
  obtain ⟨Fs, h1, h2⟩ := h.ex
  have hn : (l ++ [x, y]).length = l.length + 2 := by simp
  have ha := h1 l.length x (by rw [List.getElem?_append_right (Nat.le_refl _)]; simp)
  have hb := h1 (l.length + 1) y (by rw [List.getElem?_append_right (by omega)]; simp)
  refine ⟨h.low, h.le, fun i => Fs (if i = l.length then l.length + 1 else if i = l.length + 1 then l.length else i), fun i o hi => ?_, fun a b k ha' hb' hab => ?_⟩
  · by_cases e : i = l.length
    · subst e
      rw [List.getElem?_append_right (Nat.le_refl _)] at hi
      simp at hi
      subst hi
      simp only [if_true]
      exact hb
    · by_cases e2 : i = l.length + 1
      · subst e2
        rw [List.getElem?_append_right (by omega)] at hi
        simp at hi
        subst hi
        simp only [e, if_true, if_false]
        exact ha
      · simp only [e, e2, if_false]
        have hi2 : i < l.length := by have := (List.getElem?_eq_some_iff.1 hi).1; simp at this; omega
        rw [List.getElem?_append_left hi2] at hi
        exact h1 i o (by rw [List.getElem?_append_left hi2]; exact hi)
  · simp at ha' hb'
    apply h2
    · rw [hn]; split
      · omega
      · split <;> omega
    · rw [hn]; split
      · omega
      · split <;> omega
    · split <;> split <;> (try split) <;> (try split) <;> omega
/-- a struct's block. -/
theorem m_box {B : Nat} {w0 w : World} {l : List Ob} (h : Many B w0 w l) (i : Nat) {pv : Nat} {cs : Array Value} {t : TypeId} (hi : l[i]? = some (.bx pv cs t)) : w.heap[pv]? = some (.cells cs t) := by
  obtain ⟨F, hA, _, ht⟩ := h.get i hi
  exact hA.2.1
theorem m_boxSet {B : Nat} {w0 w : World} {l : List Ob} (h : Many B w0 w l) (i : Nat) {pv : Nat} {cs : Array Value} {t : TypeId} (hi : l[i]? = some (.bx pv cs t)) (o : Nat) (v : Value) : Many B w0 (w.setCell ⟨pv, o, none⟩ v) (l.set i (.bx pv (cs.setIfInBounds o v) t)) := by
  obtain ⟨F, hA, _, ht⟩ := h.get i hi
  exact ht _ _ ⟨F, ⟨hA.1, heap_set_at hA.2.1 v, fun k hk => by rw [size_set]; exact hA.2.2 k hk⟩, kept_set _ _ _ _ hA.1, fun _ hk => .inl hk⟩
theorem m_boxNew {B : Nat} {w0 w : World} {l : List Ob} (h : Many B w0 w l) (cs : Array Value) (t : TypeId) : Many B w0 (w.alloc (.cells cs t)) (l ++ [.bx w.heap.size cs t]) :=
  h.push (alloc_below _ _) (o := .bx w.heap.size cs t) (F := fun k => k = w.heap.size) ⟨rfl, new_block w _, fun k hk => by simp; omega⟩ fun k hk => by omega
theorem m_box7 {B : Nat} {w0 w : World} {l : List Ob} {y : Ob} {pv : Nat} {cs : Array Value} {t : TypeId} (h : Many B w0 w (l ++ [.bx pv cs t, y])) (hc : cs.size = 7) (v0 v1 v2 v3 v4 v5 v6 : Value) :
    Many B w0 (((((((w.setCell ⟨pv, 0, none⟩ v0).setCell ⟨pv, 1, none⟩ v1).setCell ⟨pv, 2, none⟩ v2).setCell ⟨pv, 3, none⟩ v3).setCell ⟨pv, 4, none⟩ v4).setCell ⟨pv, 5, none⟩ v5).setCell ⟨pv, 6, none⟩ v6) (l ++ [.bx pv #[v0, v1, v2, v3, v4, v5, v6] t, y]) := by
  have st : ∀ (W : World) (cs : Array Value) (o : Nat) (v : Value), Many B w0 W (l ++ [.bx pv cs t, y]) → Many B w0 (W.setCell ⟨pv, o, none⟩ v) (l ++ [.bx pv (cs.setIfInBounds o v) t, y]) := fun W cs o v hW => by
    have := m_boxSet hW l.length (pv := pv) (cs := cs) (t := t) (by rw [List.getElem?_append_right (Nat.le_refl _)]; simp) o v
    rw [List.set_append_right _ _ (Nat.le_refl _)] at this
    simpa using this
  match cs, hc with
  | ⟨[c0, c1, c2, c3, c4, c5, c6]⟩, _ =>
    have g0 := st _ _ 0 v0 h
    have g1 := st _ _ 1 v1 g0
    have g2 := st _ _ 2 v2 g1
    have g3 := st _ _ 3 v3 g2
    have g4 := st _ _ 4 v4 g3
    have g5 := st _ _ 5 v5 g4
    have g6 := st _ _ 6 v6 g5
    clear g0 g1 g2 g3 g4 g5 st h
    simp only [List.setIfInBounds_toArray, List.set_cons_zero, List.set_cons_succ] at g6
    exact g6
/-- a value's cells in a block. -/
theorem box_zero {w : World} {pv : Nat} (h : w.heap[pv]? = some (.cells (zcells 0) 29)) : (w.cell? ⟨pv, 0, none⟩ = some (.int .u8 0) ∧ w.cell? ⟨pv, 1, none⟩ = some (.int .u64 0) ∧ w.cell? ⟨pv, 2, none⟩ = some (.int .i64 0) ∧ w.cell? ⟨pv, 3, none⟩ = some (.bool false) ∧ w.cell? ⟨pv, 4, none⟩ = some (.slice none 0 0) ∧ w.cell? ⟨pv, 5, none⟩ = some (.string ⟨#[]⟩) ∧ w.cell? ⟨pv, 6, none⟩ = some (.int .i64 0)) ∧ ∀ o, w.frozen? ⟨pv, o, none⟩ = false := by
  refine ⟨?_, fun o => frozen_of h o⟩
  simp only [cell_of h]; exact ⟨rfl, rfl, rfl, rfl, rfl, rfl, rfl⟩
end Go.Proofs.Ythhfahnlcoiblaa
