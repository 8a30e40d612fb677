/- The program's store and the document's one beside each other. -/
import Derived.Test.YtinnegkkfaaceaaRefI
namespace Go.Proofs.Ytinnegkkfaaceaa
open Go.RowKit Go.Maps Go.MapKept Go.Shelf

def St.norm (t : St) : St := { t with left := nrm t.left }
theorem nrm_zero (x : Int) : nrm x = 0 ↔ x = 0 := by unfold nrm; split <;> omega
theorem done_norm (t : St) (l : List Ent) : St.done { t.norm with l := l } = (St.done { t with l := l }).norm := by
  show (⟨l, t.acts + 1, if 0 < nrm t.left then nrm t.left - 1 else nrm t.left⟩ : St) = ⟨l, t.acts + 1, nrm (if 0 < t.left then t.left - 1 else t.left)⟩
  congr 1
  unfold nrm
  split <;> (try split) <;> (try split) <;> (try split) <;> omega
theorem with_norm (t : St) (n : List UInt8) (k k' : Ent → Int × St) (h : ∀ f, k' f = ((k f).1, (k f).2.norm)) : t.norm.with n k' = ((t.with n k).1, (t.with n k).2.norm) := by
  unfold St.with
  by_cases h0 : t.left = 0
  · rw [if_pos (show t.norm.left = 0 from (nrm_zero _).2 h0), if_pos h0]
  · rw [if_neg (show ¬ t.norm.left = 0 from fun e => h0 ((nrm_zero _).1 e)), if_neg h0]
    show (match lookE n t.l with | none => _ | some f => _) = _
    cases lookE n t.l with
    | none => rfl
    | some f => exact h f
theorem sync_norm (t : St) (n : List UInt8) : t.norm.sync n = ((t.sync n).1, (t.sync n).2.norm) := with_norm t n _ _ fun f => by
  show ((0, _) : Int × St) = (0, _)
  congr 1
  exact done_norm t _
theorem remove_norm (t : St) (n : List UInt8) : t.norm.remove n = ((t.remove n).1, (t.remove n).2.norm) := with_norm t n _ _ fun f => by
  show ((0, _) : Int × St) = (0, _)
  congr 1
  exact done_norm t _
theorem truncate_norm (t : St) (n : List UInt8) (k : Int) : t.norm.truncate n k = ((t.truncate n k).1, (t.truncate n k).2.norm) := with_norm t n _ _ fun f => by
  by_cases h : k < 0 ∨ (f.b.length : Int) < k
  · rw [if_pos h, if_pos h]
  · rw [if_neg h, if_neg h]
    show ((0, _) : Int × St) = (0, _)
    congr 1
    exact done_norm t _
theorem rename_norm (t : St) (o n : List UInt8) : t.norm.rename o n = ((t.rename o n).1, (t.rename o n).2.norm) := with_norm t o _ _ fun f => by
  by_cases h : mayB n = false
  · rw [if_pos h, if_pos h]
  · rw [if_neg h, if_neg h]
    show ((0, _) : Int × St) = (0, _)
    congr 1
    exact done_norm t _
theorem append_norm (t : St) (n bs : List UInt8) : t.norm.append n bs = ((t.append n bs).1, (t.append n bs).2.norm) := by
  unfold St.append
  by_cases h0 : t.left = 0
  · rw [if_pos (show t.norm.left = 0 from (nrm_zero _).2 h0), if_pos h0]
  · rw [if_neg (show ¬ t.norm.left = 0 from fun e => h0 ((nrm_zero _).1 e)), if_neg h0]
    by_cases hm : mayB n = false
    · rw [if_pos hm, if_pos hm]
    · rw [if_neg hm, if_neg hm]
      show (match lookE n t.l with | some f => _ | none => _) = _
      cases lookE n t.l with
      | some f =>
        show (if _ then _ else _) = _
        by_cases hl : 1048576 < f.b.length + bs.length
        · simp only; rw [if_pos hl, if_pos hl]
        · simp only; rw [if_neg hl, if_neg hl]
          congr 1
          exact done_norm t _
      | none =>
        show (if _ then _ else _) = _
        by_cases hl : 1048576 < bs.length
        · simp only; rw [if_pos hl, if_pos hl]
        · simp only; rw [if_neg hl, if_neg hl]
          by_cases hf : 64 ≤ t.l.length
          · rw [if_pos (show 64 ≤ t.norm.l.length from hf), if_pos hf]
          · rw [if_neg (show ¬ 64 ≤ t.norm.l.length from hf), if_neg hf]
            congr 1
            exact done_norm t _
theorem crash_norm (t : St) (ks : List Int) : t.norm.crash ks = (t.crash ks).norm := rfl
theorem power_norm (t : St) (x : Int) : ({ t with left := x } : St).norm = { t.norm with left := nrm x } := rfl
structure Two (B : Nat) (w wr : World) (sb : Nat) (g : Gs) (rb : Nat) (R : Rs) (t : St) : Prop where
  is : Is B wr sb g t
  ref : RefAt B wr rb R
  abs : R.abs = t.norm
  apart : ∀ k, foot sb g k → ¬ rfoot rb R k
  low : Below B w wr
section
variable {B sb rb : Nat} {w wr w4 : World} {g g4 : Gs} {R R4 : Rs} {t t4 : St}
theorem Two.below (h : Two B w wr sb g rb R t) (hb : Below wr.heap.size wr w4) : Two B w w4 sb g rb R t :=
  ⟨h.is.below hb, h.ref.below hb, h.abs, h.apart, filesCrash.low' h.low h.is.2.2 hb⟩
theorem Two.ok (h : Two B w wr sb g rb R t) (ha : t.acts < 4611686018427387903) : Rok R := by
  have hl : R.ps.map Prod.fst = t.l := congrArg St.l h.abs
  refine ⟨?_, ?_, ?_, fun p hp => ?_⟩
  · have := Is.few h.is
    rw [← hl] at this
    simpa using this
  · have : R.acts = t.acts := congrArg St.acts h.abs
    omega
  · have e : R.left = nrm t.left := congrArg St.left h.abs
    have hb := h.is.1.leftb
    have e2 : g.left = t.left := congrArg St.left h.is.2.1
    rw [e, ← e2]
    unfold nrm
    split <;> omega
  · have hm : p.1 ∈ t.l := by rw [← hl]; exact List.mem_map.2 ⟨p, hp, rfl⟩
    have := Is.file h.is hm
    exact ⟨this.1, this.2.1, this.2.2.2⟩
/-- the program's store goes first. -/
theorem Two.first (h : Two B w wr sb g rb R t) (hs : Step B sb wr w4 g g4) : RefAt B w4 rb R ∧ (∀ k, foot sb g4 k → ¬ rfoot rb R k) ∧ Below B w w4 := by
  refine ⟨h.ref.keep hs.kept.size fun k hk => hs.kept.block k (h.ref.lt hk) fun e => h.apart k e hk, fun k hk hr => ?_, h.low.trans (hs.low h.is)⟩
  rcases hs.fresh k hk with e | e
  · exact h.apart k e hr
  · have := h.ref.lt hr; omega
/-- .. then the document's one. -/
theorem Two.second {W W' : World} {R' : Rs} (h4 : Is B W sb g4 t4) (ha : ∀ k, foot sb g4 k → ¬ rfoot rb R k) (hl : Below B w W) (hs : RStep B rb W W' R R') (hr : RefAt B W rb R) (he : R'.abs = t4.norm) : Two B w W' sb g4 rb R' t4 := by
  refine ⟨⟨h4.1.keep fun k hk => hs.kept.block k (h4.1.lt hk) (ha k hk), h4.2.1, Nat.le_trans h4.2.2 hs.kept.size⟩, hs.ref, he, fun k hk hr' => ?_, hl.trans ⟨hs.kept.os, hs.kept.tape, hs.kept.output, hs.kept.size, fun k hk => hs.kept.block k (by have := h4.2.2; omega) fun e => by have := hr.low e; omega⟩⟩
  rcases hs.fresh k hr' with e | e
  · exact ha k hk e
  · have := h4.1.lt hk; omega
end
/-- append([]int{}, x...). -/
theorem copyI_run {W : World} {v : Value} {ks : List Int} (h : IsI W v ks) (hl : ks.length ≤ 17592186044416) :
    ∃ a' c' w', (∀ ty, (Builtin.append_ #[31, 31] ty #[.slice (some ⟨W.heap.size, 0, none⟩) 0 0, v]).run Try.prog (W.alloc (.cells #[] 3)) = .ok (.slice a' ks.length c') w') ∧ IsI w' (.slice a' ks.length c') ks ∧ Below W.heap.size W w' ∧ ∀ b, (Value.slice a' ks.length c').ownBlock = some b → W.heap.size ≤ b := by
  obtain ⟨i0, hi, hz0, hz1, hz2⟩ := info_parts intInfo
  have hr : (W.alloc (.cells #[] 3)).ownsRow W.heap.size 3 1 (.slice (some ⟨W.heap.size, 0, none⟩) 0 0) 0 [] := World.ownsRow_made W #[] 0 (Nat.le_refl _) (by unfold maxLen; omega) rfl
  obtain ⟨h1, h2, a, c, rfl, h3, h4, h5⟩ := h
  have hb := alloc_below W (.cells #[] 3)
  have key : ∀ (ad : Addr), a = some ad → (∀ j u, (ks.map (Value.int .i64))[j]? = some u → (W.alloc (.cells #[] 3)).cell? (ad.add j) = some u) → ∃ a' c' w', (∀ ty, (Builtin.append_ #[31, 31] ty #[.slice (some ⟨W.heap.size, 0, none⟩) 0 0, .slice a ks.length c]).run Try.prog (W.alloc (.cells #[] 3)) = .ok (.slice a' ks.length c') w') ∧ IsI w' (.slice a' ks.length c') ks ∧ Below W.heap.size W w' ∧ ∀ b, (Value.slice a' ks.length c').ownBlock = some b → W.heap.size ≤ b := by
    intro ad ea hcells
    subst ea
    obtain ⟨v', w', hrun, o1, g1, _, _⟩ := run_append_own_at (P := Try.prog) (W.alloc (.cells #[] 3)) W.heap.size 31 0 3 i0 (.int .i64 0) 1 8 Try.underlying31 hi hz0 hz1 hz2 rfl (by decide) _ 0 [] hr ad ks.length c (ks.map (Value.int .i64)) (by simp) hcells (by intro u hu; obtain ⟨x, _, rfl⟩ := List.mem_map.1 hu; rfl) (by unfold maxLen at h1 ⊢; omega) (by omega) (by simp)
    rw [Nat.zero_add] at o1
    obtain ⟨a', c', rfl⟩ := row_slice o1
    rw [List.nil_append] at o1
    refine ⟨a', c', w', fun ty => hrun, ⟨h1, h2, a', c', rfl, ?_⟩, ⟨g1.os, g1.tape, g1.output, by have := g1.size; simp at this; omega, fun k hk => (g1.block k (by simp; omega) (fun e => by injection e with e; have : k = W.heap.size := e; omega)).trans (hb.block k hk)⟩, fun b hb' => (o1.lt b hb').1⟩
    rcases o1.2 with ⟨e1, e2⟩ | ⟨g, cap, cur, e1, _, hg, k1, k2, _, _⟩
    · injection e1 with e1 _ e3
      refine ⟨by omega, by unfold maxLen; omega, .inl (List.eq_nil_of_length_eq_zero e2)⟩
    · injection e1 with e1 _ e3
      subst e1 e3
      refine ⟨k1, k2, .inr ⟨g, 0, rfl, fun i hi' => ?_⟩⟩
      have := o1.cells (g := g) rfl i (.int .i64 (ks.getD i 0)) (by simp [List.getD, hi'])
      rwa [Addr.add_lit] at this
  rcases h5 with h5 | ⟨b, off, e, h5⟩
  · subst h5
    cases a with
    | some ad => exact key ad rfl (by simp)
    | none =>
      have ht := Try.underlying31
      refine ⟨some ⟨W.heap.size, 0, none⟩, 0, W.alloc (.cells #[] 3), fun ty => ?_, ⟨by simp, by simp, _, 0, rfl, by simp, by unfold maxLen; omega, .inl rfl⟩, hb, fun b hb' => by injection hb' with e; have : W.heap.size = b := e; omega⟩
      simp [Builtin.append_, run_underlying ht, sizeOf, typeInfo, hi, Builtin.lenOf, Builtin.firstCells, loadCells, storeCells, Result.andThen]
  · refine key ⟨b, off, none⟩ e fun j u hu => ?_
    have hj : j < ks.length := by have := (List.getElem?_eq_some_iff.1 hu).1; simpa using this
    rw [Addr.add_lit]
    have h6 := h5 j hj
    refine ((hb.cell (p := ⟨b, off + j, none⟩) (World.block_lt_of_cell? W ⟨b, off + j, none⟩ h6)).trans h6).trans ?_
    rw [← hu]
    simp [List.getD, hj]
end Go.Proofs.Ytinnegkkfaaceaa
