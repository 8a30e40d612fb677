/- How far a crash of the document's store has come. -/
import Derived.Test.YtinnegkkfaaceaaRefG
namespace Go.Proofs.Ytinnegkkfaaceaa
open Go.RowKit Go.Maps Go.MapKept Go.Shelf

theorem flat3_set : ∀ {ps : List (Ent × Value)} {i : Nat} {p : Ent × Value} (_ : ps[i]? = some p) (x : Ent × Value) (_ : x.1.name = p.1.name), flat3 (ps.set i x) = ((flat3 ps).set (i * 3 + 1) x.2).set (i * 3 + 2) (.int .i64 (x.1.s : Int))
  | [], i, p, h, _, _ => by simp at h
  | q :: r, 0, p, h, x, hn => by
    have e : q = p := by simpa using h
    subst e
    show cells3 x ++ flat3 r = ((cells3 q ++ flat3 r).set 1 _).set 2 _
    simp [cells3, hn]
  | q :: r, i + 1, p, h, x, hn => by
    have ih := flat3_set (ps := r) (i := i) (p := p) (by simpa using h) x hn
    show cells3 q ++ flat3 (r.set i x) = ((cells3 q ++ flat3 r).set ((i + 1) * 3 + 1) _).set ((i + 1) * 3 + 2) _
    rw [ih, List.set_append_right _ _ (by simp [cells3]; omega), List.set_append_right _ _ (by simp [cells3]; omega)]
    have e1 : (i + 1) * 3 + 1 - (cells3 q).length = i * 3 + 1 := by simp [cells3]; omega
    have e2 : (i + 1) * 3 + 2 - (cells3 q).length = i * 3 + 2 := by simp [cells3]; omega
    rw [e1, e2]
theorem row_setN {w : World} {base : Nat} {e : TypeId} {size n c b : Nat} {xs : List Value} (h : w.ownsRow base e size (.slice (some ⟨b, 0, none⟩) n c) n xs) (j : Nat) (u : Value) : (w.setCell ⟨b, j, none⟩ u).ownsRow base e size (.slice (some ⟨b, 0, none⟩) n c) n (xs.set j u) := by
  refine ⟨by rw [List.length_set]; exact h.1, ?_⟩
  rcases h.2 with ⟨e0, _⟩ | ⟨g, cap, cur, e1, hb, hg, h1, h2, h3, h4⟩
  · cases e0
  · cases e1
    refine .inr ⟨b, c, cur.setIfInBounds j u, rfl, hb, heap_set_at hg u, h1, h2, by simpa using h3, ?_⟩
    rw [Array.toList_setIfInBounds, List.take_set, h4]
section
variable {B rb : Nat} {R R1 : Rs} {w W : World}
/-- a file of the row is turned in its place. -/
theorem RStep.turn (S : RStep B rb w W R R1) {i : Nat} {p : Ent × Value} (hp : R1.ps[i]? = some p) {lb lc : Nat} (hlv : R1.lv = .slice (some ⟨lb, 0, none⟩) R1.ps.length lc) (f' : Ent) (v' : Value) (hn : f'.name = p.1.name) (hv : W.ownsRow B 5 1 v' f'.b.length (f'.b.map bv)) (hX : ∀ k, v'.ownBlock = some k → rfoot rb R k ∨ w.heap.size ≤ k) :
    RStep B rb w ((W.setCell ⟨lb, i * 3 + 1, none⟩ v').setCell ⟨lb, i * 3 + 2, none⟩ (.int .i64 (f'.s : Int))) R { R1 with ps := R1.ps.set i (f', v') } := by
  have hlb : rfoot rb R1 lb := .inr (.inl (by rw [hlv]; rfl))
  have hrow := S.ref.row
  rw [hlv] at hrow
  obtain ⟨cs, hblk⟩ := row_block1 hrow (k := lb) rfl
  have hsame : ∀ k, k ≠ lb → ((W.setCell ⟨lb, i * 3 + 1, none⟩ v').setCell ⟨lb, i * 3 + 2, none⟩ (.int .i64 (f'.s : Int))).heap[k]? = W.heap[k]? := fun k hk => (heap_set _ _ _ _ _ hk).trans (heap_set _ _ _ _ _ hk)
  have hne : rb ≠ lb := fun e => by
    have := S.ref.cell
    rw [e, hblk] at this
    simp at this
  have keepR : ∀ {e s v n xs}, W.ownsRow B e s v n xs → e ≠ 35 → ((W.setCell ⟨lb, i * 3 + 1, none⟩ v').setCell ⟨lb, i * 3 + 2, none⟩ (.int .i64 (f'.s : Int))).ownsRow B e s v n xs := fun {e s v n xs} hr he => ownsRow_block hr fun k hk => hsame k fun e' => by
    obtain ⟨c, h1⟩ := row_block1 hr hk
    rw [e', hblk] at h1
    simp at h1
    exact he h1.2.symm
  have hsz : ((W.setCell ⟨lb, i * 3 + 1, none⟩ v').setCell ⟨lb, i * 3 + 2, none⟩ (.int .i64 (f'.s : Int))).heap.size = W.heap.size := by rw [size_set, size_set]
  refine ⟨⟨(hsame rb hne).trans S.ref.cell, ?_, fun q hq => ?_, S.ref.base, by rw [hsz]; exact S.ref.size⟩, ⟨S.kept.os, S.kept.tape, S.kept.output, by rw [hsz]; exact S.kept.size, fun k hk hnf => (hsame k fun e => ?_).trans (S.kept.block k hk hnf)⟩, fun k hk => ?_, fun v n xs hv' => keepR (S.old v n xs hv') (by decide)⟩
  · show World.ownsRow _ B _ 3 R1.lv (R1.ps.set i (f', v')).length _
    rw [hlv, flat3_set hp (f', v') hn, List.length_set]
    exact row_setN (row_setN hrow _ _) _ _
  · rcases List.mem_or_eq_of_mem_set hq with hq | rfl
    · exact keepR (S.ref.els q hq) (by decide)
    · exact keepR hv (by decide)
  · subst e
    rcases S.fresh k hlb with e | e
    · exact hnf e
    · omega
  · rcases hk with rfl | hk | ⟨q, hq, hk⟩
    · exact .inl (.inl rfl)
    · exact S.fresh k (.inr (.inl hk))
    · rcases List.mem_or_eq_of_mem_set hq with hq | rfl
      · exact S.fresh k (.inr (.inr ⟨q, hq, hk⟩))
      · exact hX k hk
structure Fell (B rb : Nat) (w wr : World) (R : Rs) (keep : List Int) (i nn : Nat) (ps : List (Ent × Value)) : Prop where
  step : RStep B rb w wr R { R with ps := ps }
  len : ps.length = R.ps.length
  same : ∀ j, i ≤ j → ps[j]? = R.ps[j]?
  path : ∃ d, d.length = i ∧ ps.map Prod.fst = d ++ (R.ps.map Prod.fst).drop i ∧ d ++ crashL ((R.ps.map Prod.fst).drop i) (keep.drop nn) = crashL (R.ps.map Prod.fst) keep
theorem Fell.start {keep : List Int} (h : RefAt B w rb R) : Fell B rb w w R keep 0 0 R.ps :=
  ⟨RStep.below h (Below.refl _ _), rfl, fun _ _ => rfl, [], rfl, by simp, by simp⟩
theorem Fell.pass {keep : List Int} {i nn : Nat} {ps : List (Ent × Value)} (h : Fell B rb w W R keep i nn ps) {p : Ent × Value} (hp : R.ps[i]? = some p) (hs : p.1.b.length ≤ p.1.s) {W' : World} (hb : Below W.heap.size W W') : Fell B rb w W' R keep (i + 1) nn ps := by
  obtain ⟨d, hd, hl, hc⟩ := h.path
  obtain ⟨hi, rfl⟩ := List.getElem?_eq_some_iff.1 hp
  have hi' : i < (R.ps.map Prod.fst).length := by simpa using hi
  rw [List.drop_eq_getElem_cons hi'] at hl hc
  refine ⟨h.step.trans (RStep.below h.step.ref hb), h.len, fun j hj => h.same j (by omega), d ++ [(R.ps.map Prod.fst)[i]], by simp [hd], by rw [hl]; simp, ?_⟩
  rw [← hc]
  show _ = d ++ (if ((R.ps.map Prod.fst)[i]).b.length ≤ ((R.ps.map Prod.fst)[i]).s then _ else _)
  rw [if_pos (by simpa using hs)]
  simp
theorem Fell.next {keep : List Int} {i nn : Nat} {ps : List (Ent × Value)} (h : Fell B rb w W R keep i nn ps) {p : Ent × Value} (hp : R.ps[i]? = some p) (hs : ¬ p.1.b.length ≤ p.1.s) {W' : World} (f' : Ent) (v' : Value) (hf : f' = ⟨p.1.name, p.1.b.take (p.1.s + keptOf (keep.drop nn) (p.1.b.length - p.1.s)), p.1.s + keptOf (keep.drop nn) (p.1.b.length - p.1.s)⟩) (hst : RStep B rb w W' R { R with ps := ps.set i (f', v') }) : Fell B rb w W' R keep (i + 1) (nn + 1) (ps.set i (f', v')) := by
  obtain ⟨d, hd, hl, hc⟩ := h.path
  obtain ⟨hi, rfl⟩ := List.getElem?_eq_some_iff.1 hp
  have hi' : i < (R.ps.map Prod.fst).length := by simpa using hi
  rw [List.drop_eq_getElem_cons hi'] at hl hc
  refine ⟨hst, by rw [List.length_set]; exact h.len, fun j hj => ?_, d ++ [f'], by simp [hd], ?_, ?_⟩
  · rw [List.getElem?_set_ne (by omega)]
    exact h.same j (by omega)
  · rw [List.map_set, hl, List.set_append_right _ _ (by omega)]
    have : i - d.length = 0 := by omega
    rw [this]
    simp
  · rw [← hc]
    show _ = d ++ (if ((R.ps.map Prod.fst)[i]).b.length ≤ ((R.ps.map Prod.fst)[i]).s then _ else _)
    rw [if_neg (by simpa using hs), hf]
    simp only [List.getElem_map, List.tail_drop, List.append_assoc, List.cons_append, List.nil_append]
theorem Fell.done {keep : List Int} {i nn : Nat} {ps : List (Ent × Value)} (h : Fell B rb w W R keep i nn ps) (hi : R.ps.length ≤ i) : ps.map Prod.fst = crashL (R.ps.map Prod.fst) keep := by
  obtain ⟨d, _, hl, hc⟩ := h.path
  rw [List.drop_of_length_le (by simpa using hi)] at hl hc
  rw [hl, ← hc]
  simp [crashL]
end
end Go.Proofs.Ytinnegkkfaaceaa
