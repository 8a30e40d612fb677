/- Where the power stays: the log's calls at a store that tells something. -/
import Derived.Test.YtihgikekkgoddaaGreatDoorZLT
import Derived.Test.YtihgikekkgoddaaGreatDoorZL17
namespace Go.Proofs.YtihgikekkgoddaaGreatDoor
open Go.RowKit Go.Shelf Sto

/-- the power stays. -/
def LV (t : St) : Prop := t.left = -1
theorem lv_done {t : St} (h : LV t) : LV t.done := by unfold LV St.done at *; simp [h]
theorem lv_remove (t : St) (m : List UInt8) (h : LV t) : LV (t.remove m).2 := by
  unfold St.remove St.with
  split
  · exact h
  · split
    · exact h
    · exact lv_done (t := { t with l := delE m t.l }) h
theorem lv_append (t : St) (m bs : List UInt8) (h : LV t) : LV (t.append m bs).2 := by
  unfold St.append
  split
  · exact h
  · split
    · exact h
    · split
      · split
        · exact h
        · exact lv_done h
      · split
        · exact h
        · split
          · exact h
          · exact lv_done h
theorem lv_sync (t : St) (m : List UInt8) (h : LV t) : LV (t.sync m).2 := by
  unfold St.sync St.with
  split
  · exact h
  · split
    · exact h
    · exact lv_done h
theorem lv_truncate (t : St) (m : List UInt8) (k : Int) (h : LV t) : LV (t.truncate m k).2 := by
  unfold St.truncate St.with
  split
  · exact h
  · split
    · exact h
    · simp only
      split
      · exact h
      · exact lv_done h
theorem lv_rename (t : St) (o n : List UInt8) (h : LV t) : LV (t.rename o n).2 := by
  unfold St.rename St.with
  split
  · exact h
  · split
    · exact h
    · simp only
      split
      · exact h
      · exact lv_done h
theorem lv_dropNew {p : List UInt8} {t t' : St} {r : Int} (h : LV t) (ht : dropNewA p t = (r, t')) : LV t' := by
  unfold dropNewA at ht
  split at ht
  · have := lv_remove t (nameOf p pNew) h; rw [ht] at this; exact this
  · cases ht; exact h
theorem lv_makeFile {p : List UInt8} {n : Nat} {t t' : St} {r : Int} (h : LV t) (ht : makeFileA p n t = (r, t')) : LV t' := by
  unfold makeFileA at ht
  split at ht
  · cases ht; exact h
  · have := lv_append t (nameOf p (pLog n)) [] h; rw [ht] at this; exact this
theorem lv_load {nm : List UInt8} {t t' : St} {recs : List (List UInt8)} {r : Int} (h : LV t) (ht : loadA nm t recs = (r, t')) : LV t' := by
  unfold loadA at ht
  split at ht
  · cases ht; exact h
  · simp only at ht
    have key : ∀ t1 : Int × St, LV t1.2 → (if t1.1 ≠ 0 then t1 else t1.2.sync nm) = (r, t') → LV t' := by
      intro t1 h1 h3
      split at h3
      · subst h3; exact h1
      · have := lv_sync t1.2 nm h1; rw [h3] at this; exact this
    refine key _ ?_ ht
    split
    · exact lv_truncate t nm _ h
    · exact h
theorem lv_drop {n : Nat} : ∀ (l : List (List UInt8 × Part)) (t t' : St) (r : Int), LV t → dropF n l t = (r, t') → LV t'
  | [], t, t', r, h, ht => by cases ht; exact h
  | (nm, q) :: l, t, t', r, h, ht => by
    unfold dropF at ht
    split at ht
    · exact lv_drop l t t' r h ht
    · split at ht
      · exact lv_drop l _ t' r (lv_remove t nm h) ht
      · have := lv_remove t nm h; rw [ht] at this; exact this
theorem lv_at {p : List UInt8} {t : St} (h : LV t) {i : Nat} {ti : St} {n : Nat} {s : List UInt8} {recs : List (List UInt8)} (ho : OpenAt p t i ti n s recs) : LV ti := by
  induction ho with
  | s0 => exact h
  | s1 e => exact lv_dropNew h e
  | s2 _ _ ih => exact ih
  | s3 _ e ih => exact lv_makeFile ih e
  | s4 _ _ e ih => exact lv_load ih e
  | s5 _ e ih => exact lv_drop _ _ _ _ ih e
theorem lv_no {p : List UInt8} {t t' : St} (h : LV t) {r : Int} (ho : OpenNo p t r t') : LV t' := by
  cases ho with
  | f1 e _ => exact lv_dropNew h e
  | f2 h1 _ _ => exact lv_at h h1
  | f3 h1 e _ => exact lv_makeFile (lv_at h h1) e
  | f4 h1 _ e _ => exact lv_load (lv_at h h1) e
  | f5 h1 e _ => exact lv_drop _ _ _ _ (lv_at h h1) e
theorem nd_drop {n : Nat} : ∀ (l : List (List UInt8 × Part)) (t t' : St) (r : Int), ND t → dropF n l t = (r, t') → ND t'
  | [], t, t', r, h, ht => by cases ht; exact h
  | (nm, q) :: l, t, t', r, h, ht => by
    unfold dropF at ht
    split at ht
    · exact nd_drop l t t' r h ht
    · split at ht
      · exact nd_drop l _ t' r (nd_remove t nm h) ht
      · have := nd_remove t nm h; rw [ht] at this; exact this
theorem nd_is {B sb : Nat} {w : World} {g : Gs} {t : St} (h : Is B w sb g t) : ND t := by
  unfold ND namesOf
  rw [← h.2.1]
  have hr := h.1.rising
  unfold Gs.abs
  simp only [List.map_map]
  refine List.Pairwise.imp ?_ (List.pairwise_map.2 hr : ((g.l.map Fg.name).Pairwise fun a b => a < b))
  intro a b hab e
  rw [e] at hab
  exact lt_irrefl _ hab
/-- what Open tells, the power staying. -/
structure Opened (B : Nat) (w : World) (sb : Nat) (g : Gs) (t : St) (p : List UInt8) (N : Nat) (S X : List UInt8) (K : Nat) (w' : World) (lb : Nat) (sv rv : Value) (t' : St) (g' : Gs) (recs : List (List UInt8)) : Prop where
  reads : Read8 X recs
  bo : Bo B w' lb g' t' ⟨sb, p, N, recs.length, false⟩
  rs : RS p t' N S (encs recs) (encs recs).length (K + 1)
  nd : ND t'
  lv : LV t'
  high : w.heap.size ≤ lb
  has : ∃ f, lookE (nameOf p (pLog N)) t'.l = some f
  acts : t'.acts ≤ t.acts + 4 + (K + 1)
  snap : SnapAt (lb + 2) sb g' w' sv S
  recs : RecsAt (lb + 2) sb g' w' rv recs
  kept : Kept (foot sb g) w w'
  fresh : ∀ b, foot sb g' b → foot sb g b ∨ w.heap.size ≤ b
theorem open_live (w : World) {B sb : Nat} {g : Gs} {t : St} (h : Is B w sb g t) {p : List UInt8} {N : Nat} {S X : List UInt8} {s K : Nat} (hr : RS p t N S X s K) (hlv : LV t) (hK : K < 64) (ha : t.acts + 200 < 4611686018427387904) :
    Calls Tryz.prog 7 #[ptr sb, str p] w fun e w' => ∃ lb sv rv t' g' recs, e = .returned (.tuple #[ptr lb, sv, rv, .int .i64 0]) ∧ Opened B w sb g t p N S X K w' lb sv rv t' g' recs := by
  refine (open_any w h p hr.len hr.good ha).mono ?_
  have hd := nd_is h
  have hne : t.left ≠ 0 := by unfold LV at hlv; omega
  rintro e w' (⟨r, t', g', rfl, h0, hor, _⟩ | ⟨lb, sv, rv, t', g', n, s', recs, rfl, _, ho, hbo, hlb, hn, hs, hrc, hk, hf⟩)
  · exfalso
    rcases hor with ⟨h1, _⟩ | ⟨_, h1⟩
    · exact hne h1
    · have h2 := open_fails hr hd hK h1
      have h3 := lv_no hlv h1
      unfold LV at h3
      omega
  · obtain ⟨rfl, rfl, h1, h2, h3, h4⟩ := open_tells hr hd hK ho
    exact ⟨lb, sv, rv, t', g', recs, rfl, h1, hbo, h2, nd_is hbo.is, lv_at hlv ho, hlb, h4, h3, hs, hrc, hk, hf⟩
theorem RS.file {p : List UInt8} {t : St} {N : Nat} {S X : List UInt8} {s K : Nat} (h : RS p t N S X s K) {f : Ent} (hf : lookE (nameOf p (pLog N)) t.l = some f) : f.b = X ∧ f.s = s := by
  rcases h.log with ⟨h1, _⟩ | ⟨f', h1, h2⟩
  · rw [h1] at hf; cases hf
  · rw [h1] at hf; cases hf; exact h2
theorem append_live (w : World) {B lb sb c : Nat} {g : Gs} {t : St} {p : List UInt8} {N : Nat} {S X : List UInt8} {s K : Nat} (h : Bo B w lb g t ⟨sb, p, N, c, false⟩) (hr : RS p t N S X s K) (hlv : LV t) {f : Ent} (hf : lookE (nameOf p (pLog N)) t.l = some f) (v : Value) (bs : List UInt8) (hv : Frm.IsB w v (ints bs)) (hl : bs.length ≤ 65536) (hX : X.length + (enc bs).length ≤ 1048576) (hc : c ≤ 1000000) (ha : t.acts + 200 < 4611686018427387904) :
    Calls Tryz.prog 8 #[ptr lb, v] w fun e w' => e = .returned (.int .i64 0) ∧ ∃ g' t' f', BStep B lb w w' g g' ⟨sb, p, N, c, false⟩ ⟨sb, p, N, c + 1, false⟩ t' ∧ RS p t' N S (X ++ enc bs) s K ∧ LV t' ∧ lookE (nameOf p (pLog N)) t'.l = some f' ∧ t'.acts ≤ t.acts + 1 := by
  have hsm := hr.small
  obtain ⟨e1, e2⟩ := hr.file hf
  have hfn := (look_name hf).1
  obtain ⟨r, t', ht⟩ : ∃ r t', t.append (nameOf p (pLog N)) (enc bs) = (r, t') := ⟨_, _, rfl⟩
  have hne : t.left ≠ 0 := by unfold LV at hlv; omega
  rcases append_old (may_name (ok_log (by omega)) hr.len) hf (by rw [e1]; exact hX) ht with ⟨_, _, h0⟩ | ⟨rfl, _, hl', _⟩
  · exact absurd h0 hne
  · have hac := append_acts t (nameOf p (pLog N)) (enc bs)
    have hlv' := lv_append t (nameOf p (pLog N)) (enc bs) hlv
    rw [ht] at hac hlv'
    have h2 := hr.relog (t' := t') (f := { f with b := f.b ++ enc bs }) hfn hl' (K' := K) (by rw [hl']; exact Nat.le_trans (len_put_old ⟨f, (look_name hf).2, rfl⟩) hr.few)
    simp only at h2
    rw [e1, e2] at h2
    refine (lappend w h hr.len (by show N < 100; omega) v bs hv hl hc (by omega) (r := 0) (t' := t') (by unfold appendA; rw [if_neg (by simp)]; exact ht)).mono ?_
    rintro e w' ⟨rfl, g', hs⟩
    rw [appX_yes] at hs
    exact ⟨rfl, g', t', _, hs, h2, hlv', by rw [hl', look_put, if_pos hfn.symm], hac⟩
theorem sync_live (w : World) {B lb sb c : Nat} {g : Gs} {t : St} {p : List UInt8} {N : Nat} {S X : List UInt8} {s K : Nat} (h : Bo B w lb g t ⟨sb, p, N, c, false⟩) (hr : RS p t N S X s K) (hlv : LV t) {f : Ent} (hf : lookE (nameOf p (pLog N)) t.l = some f) (ha : t.acts + 200 < 4611686018427387904) :
    Calls Tryz.prog 9 #[ptr lb] w fun e w' => e = .returned (.int .i64 0) ∧ ∃ g' t' f', BStep B lb w w' g g' ⟨sb, p, N, c, false⟩ ⟨sb, p, N, c, false⟩ t' ∧ RS p t' N S X X.length K ∧ LV t' ∧ lookE (nameOf p (pLog N)) t'.l = some f' ∧ t'.acts ≤ t.acts + 1 := by
  have hsm := hr.small
  obtain ⟨e1, e2⟩ := hr.file hf
  have hfn := (look_name hf).1
  obtain ⟨r, t', ht⟩ : ∃ r t', t.sync (nameOf p (pLog N)) = (r, t') := ⟨_, _, rfl⟩
  have hne : t.left ≠ 0 := by unfold LV at hlv; omega
  rcases sync_old hf ht with ⟨_, _, h0⟩ | ⟨rfl, _, hl', _⟩
  · exact absurd h0 hne
  · have hac := sync_acts t (nameOf p (pLog N))
    have hlv' := lv_sync t (nameOf p (pLog N)) hlv
    rw [ht] at hac hlv'
    have h2 := hr.relog (t' := t') (f := { f with s := f.b.length }) hfn hl' (K' := K) (by rw [hl']; exact Nat.le_trans (len_put_old ⟨f, (look_name hf).2, rfl⟩) hr.few)
    simp only at h2
    rw [e1] at h2
    refine (lsync w h hr.len (by show N < 100; omega) (by omega) (r := 0) (t' := t') (by unfold syncA; rw [if_neg (by simp)]; exact ht)).mono ?_
    rintro e w' ⟨rfl, g', hs⟩
    exact ⟨rfl, g', t', _, hs, h2, hlv', by rw [hl', look_put, if_pos hfn.symm], hac⟩
/-- a crash of a store that has the log's file alone. -/
theorem RS.crash1 {p : List UInt8} {t : St} {N : Nat} {S X : List UInt8} {s : Nat} (h : RS p t N S X s 1) {f : Ent} (hf : lookE (nameOf p (pLog N)) t.l = some f) (hN : N = 0) (ks : List Int) (hsX : s ≤ X.length) : ∃ f', lookE (nameOf p (pLog N)) (t.crash ks).l = some f' ∧ RS p (t.crash ks) N S (X.take (s + keptOf ks (X.length - s))) (min X.length (s + keptOf ks (X.length - s))) 1 := by
  obtain ⟨e1, e2⟩ := h.file hf
  obtain ⟨hfn, hfm⟩ := look_name hf
  have hl : t.l = [f] := by
    have hfew := h.few
    match hh : t.l, hfm, hfew with
    | [a], hm, _ => rw [hh] at hfm; simp at hfm; rw [hfm]
    | a :: b :: r, _, hx => simp at hx
  have hcr : (t.crash ks).l = [⟨f.name, X.take (s + keptOf ks (X.length - s)), min X.length (s + keptOf ks (X.length - s))⟩] := by
    unfold St.crash
    simp only [hl]
    unfold crashL
    have hk := keptOf_le ks (X.length - s)
    by_cases hle : f.b.length ≤ f.s
    · rw [if_pos hle]
      rw [e1, e2] at hle
      rw [show X.length - s = 0 by omega] at hk ⊢
      have hz : keptOf ks 0 = 0 := by omega
      rw [hz, List.take_of_length_le (by omega), show min X.length (s + 0) = s by omega]
      obtain ⟨n1, b1, s1⟩ := f
      simp only at e1 e2
      rw [e1, e2]; rfl
    · rw [if_neg hle, e1, e2]
      rw [show min X.length (s + keptOf ks (X.length - s)) = s + keptOf ks (X.length - s) by rw [e1, e2] at hle; omega]
      rfl
  have hnm : namesOf (t.crash ks) = namesOf t := by unfold namesOf; rw [hcr, hl]; rfl
  refine ⟨⟨f.name, X.take (s + keptOf ks (X.length - s)), min X.length (s + keptOf ks (X.length - s))⟩, ?_, h.len, by rw [hnm]; exact h.good, fun q hq hm => h.top q hq (by rw [← hnm]; exact hm), h.small, ?_, .inr ⟨⟨f.name, X.take (s + keptOf ks (X.length - s)), min X.length (s + keptOf ks (X.length - s))⟩, ?_, rfl, rfl⟩, by rw [hcr]; simp⟩
  · rw [hcr, ← hfn]; unfold lookE; simp
  · rcases h.snap with h1 | ⟨h1, _⟩
    · exact .inl h1
    · omega
  · rw [hcr, ← hfn]; unfold lookE; simp
end Go.Proofs.YtihgikekkgoddaaGreatDoor
