/- What the calls of one prefix leave of files whose names have another. -/
import Derived.Test.YtihgikekkgoddaaGreatDoorZLX
namespace Go.Proofs.YtihgikekkgoddaaGreatDoor
open Go.RowKit Go.Shelf Sto

def Sm (m : List UInt8) (t t' : St) : Prop := lookE m t'.l = lookE m t.l
theorem Sm.refl (m : List UInt8) (t : St) : Sm m t t := rfl
theorem Sm.trans {m : List UInt8} {t t1 t2 : St} (a : Sm m t t1) (b : Sm m t1 t2) : Sm m t t2 := Eq.trans b a
theorem sm_remove {m n : List UInt8} (h : m ≠ n) (t : St) : Sm m t (t.remove n).2 := by
  unfold St.remove St.with
  split
  · rfl
  · split
    · rfl
    · show lookE m (delE n t.l) = _
      rw [look_del, if_neg h]
theorem sm_append {m n : List UInt8} (h : m ≠ n) (t : St) (bs : List UInt8) : Sm m t (t.append n bs).2 := by
  unfold St.append
  split
  · rfl
  · split
    · rfl
    · split
      · rename_i f hf
        split
        · rfl
        · show lookE m (putE _ t.l) = _
          rw [look_put, if_neg (by show m ≠ f.name; rw [(look_name hf).1]; exact h)]
      · split
        · rfl
        · split
          · rfl
          · show lookE m (putE _ t.l) = _
            rw [look_put, if_neg h]
theorem sm_sync {m n : List UInt8} (h : m ≠ n) (t : St) : Sm m t (t.sync n).2 := by
  unfold St.sync St.with
  split
  · rfl
  · split
    · rfl
    · rename_i f hf
      show lookE m (putE _ t.l) = _
      rw [look_put, if_neg (by show m ≠ f.name; rw [(look_name hf).1]; exact h)]
theorem sm_truncate {m n : List UInt8} (h : m ≠ n) (t : St) (k : Int) : Sm m t (t.truncate n k).2 := by
  unfold St.truncate St.with
  split
  · rfl
  · split
    · rfl
    · rename_i f hf
      simp only
      split
      · rfl
      · show lookE m (putE _ t.l) = _
        rw [look_put, if_neg (by show m ≠ f.name; rw [(look_name hf).1]; exact h)]
theorem sm_rename {m o n : List UInt8} (h : m ≠ o) (h2 : m ≠ n) (t : St) : Sm m t (t.rename o n).2 := by
  unfold St.rename St.with
  split
  · rfl
  · split
    · rfl
    · simp only
      split
      · rfl
      · show lookE m (putE _ (delE o t.l)) = _
        rw [look_put, if_neg h2, look_del, if_neg h]
theorem not_pre {p m : List UInt8} (h : ¬ p <+: m) (q : Part) : m ≠ nameOf p q := fun e => h (by rw [e]; exact List.prefix_append _ _)
theorem sm_dropNew {p m : List UInt8} (hm : ¬ p <+: m) (t : St) : Sm m t (dropNewA p t).2 := by
  unfold dropNewA
  split
  · exact sm_remove (not_pre hm _) t
  · rfl
theorem sm_makeFile {p m : List UInt8} (hm : ¬ p <+: m) (n : Nat) (t : St) : Sm m t (makeFileA p n t).2 := by
  unfold makeFileA
  split
  · rfl
  · exact sm_append (not_pre hm _) t _
theorem sm_load {nm m : List UInt8} (hm : m ≠ nm) (t : St) (recs : List (List UInt8)) : Sm m t (loadA nm t recs).2 := by
  unfold loadA
  split
  · rfl
  · simp only
    have key : ∀ t1 : Int × St, Sm m t t1.2 → Sm m t (if t1.1 ≠ 0 then t1 else t1.2.sync nm).2 := by
      intro t1 h1
      split
      · exact h1
      · exact h1.trans (sm_sync hm _)
    refine key _ ?_
    split
    · exact sm_truncate hm t _
    · rfl
theorem sm_drop {m : List UInt8} {n : Nat} : ∀ (l : List (List UInt8 × Part)) (t : St), (∀ x ∈ l, m ≠ x.1) → Sm m t (dropF n l t).2
  | [], t, _ => rfl
  | (nm, q) :: l, t, h => by
    unfold dropF
    split
    · exact sm_drop l t fun x hx => h x (by simp [hx])
    · split
      · exact (sm_remove (h (nm, q) (by simp)) t).trans (sm_drop l _ fun x hx => h x (by simp [hx]))
      · exact sm_remove (h (nm, q) (by simp)) t
theorem sm_at {p m : List UInt8} (hm : ¬ p <+: m) {t : St} {i : Nat} {ti : St} {n : Nat} {s : List UInt8} {recs : List (List UInt8)} (ho : OpenAt p t i ti n s recs) : Sm m t ti := by
  induction ho with
  | s0 => rfl
  | s1 e => have := sm_dropNew hm t; rw [e] at this; exact this
  | s2 _ _ ih => exact ih
  | @s3 t1 t3 n s _ e ih => have := sm_makeFile hm n t1; rw [e] at this; exact ih.trans this
  | @s4 t3 t4 n s recs _ _ e ih => have := sm_load (not_pre hm (pLog n)) t3 recs; rw [e] at this; exact ih.trans this
  | @s5 t4 t5 n s recs _ e ih =>
    have := sm_drop (m := m) (n := n) (ownT p t4) t4 (fun x hx => by
      have := (mem_own.1 hx).2.2
      rw [this]; exact not_pre hm _)
    rw [e] at this
    exact ih.trans this
theorem sm_seq {m : List UInt8} {fs : List (St → Int × St)} (h : ∀ f ∈ fs, ∀ t, Sm m t (f t).2) (t : St) : Sm m t (seqA fs t).2 := by
  induction fs generalizing t with
  | nil => rfl
  | cons f fs ih =>
    unfold seqA
    split
    · exact (h f (by simp) t).trans (ih (fun f hf => h f (by simp [hf])) _)
    · exact h f (by simp) t
theorem sm_write {p m : List UInt8} (hm : ¬ p <+: m) (n : Nat) (bs : List UInt8) (t : St) : Sm m t (seqA (writeL p n bs) t).2 := by
  refine sm_seq ?_ t
  intro f hf
  simp only [writeL, List.mem_cons, List.not_mem_nil, or_false] at hf
  rcases hf with rfl | rfl | rfl | rfl
  · exact fun t => sm_dropNew hm t
  · exact fun t => sm_append (not_pre hm _) t _
  · exact fun t => sm_sync (not_pre hm _) t
  · exact fun t => sm_rename (not_pre hm _) (not_pre hm _) t
theorem sm_third {p m : List UInt8} (hm : ¬ p <+: m) (n : Nat) (t : St) : Sm m t (third p n t).2 := by
  unfold third
  split
  · rfl
  · exact sm_remove (not_pre hm _) t
theorem sm_move {p m : List UInt8} (hm : ¬ p <+: m) (n : Nat) (t : St) : Sm m t (seqA (moveL p n) t).2 := by
  refine sm_seq ?_ t
  intro f hf
  simp only [moveL, List.mem_cons, List.not_mem_nil, or_false] at hf
  rcases hf with rfl | rfl | rfl
  · exact fun t => sm_append (not_pre hm _) t _
  · exact fun t => sm_remove (not_pre hm _) t
  · exact fun t => sm_third hm n t
theorem sm_check {m : List UInt8} {x : Lg} (hm : ¬ x.p <+: m) (t : St) (bs : List UInt8) : Sm m t (checkA x t bs).2.1 := by
  have h1 := sm_write hm x.n bs t
  have h2 := sm_move hm x.n (seqA (writeL x.p x.n bs) t).2
  unfold checkA
  split
  · rfl
  · split
    · exact h1
    · split
      · exact h1.trans h2
      · exact h1.trans h2
/-- what is told under another prefix stays told. -/
theorem RS.other {p q : List UInt8} {t t' : St} {N : Nat} {S X : List UInt8} {s K K' : Nat} (h : RS q t N S X s K) (hs : ∀ m, ¬ p <+: m → Sm m t t') (hpq : ∀ m, q <+: m → ¬ p <+: m) (hk : t'.l.length ≤ K') : RS q t' N S X s K' := by
  have hq : ∀ r : Part, lookE (nameOf q r) t'.l = lookE (nameOf q r) t.l := fun r => hs _ (hpq _ (List.prefix_append _ _))
  have hnm : ∀ m, q <+: m → m ∈ namesOf t' → m ∈ namesOf t := fun m hm h1 => by
    obtain ⟨f, hf⟩ := look_some_of h1
    have := hs m (hpq m hm)
    unfold Sm at this
    rw [hf] at this
    exact Classical.byContradiction fun hn => by rw [look_none.2 hn] at this; cases this
  refine ⟨h.len, fun m hm hp => h.good m (hnm m hp hm) hp, fun r hr hm hk => h.top r hr (hnm _ (List.prefix_append _ _) hm) hk, h.small, ?_, ?_, hk⟩
  · rw [hq]; exact h.snap
  · rw [hq]; exact h.log
theorem open_two (w : World) {B sb : Nat} {g : Gs} {t : St} (h : Is B w sb g t) {p : List UInt8} {N : Nat} {S X : List UInt8} {s K : Nat} (hr : RS p t N S X s K) (hlv : LV t) (hK : K < 64) (ha : t.acts + 200 < 4611686018427387904) :
    Calls Tryz.prog 7 #[ptr sb, str p] w fun e w' => ∃ lb sv rv t' g' recs, e = .returned (.tuple #[ptr lb, sv, rv, .int .i64 0]) ∧ Opened B w sb g t p N S X K w' lb sv rv t' g' recs ∧ ∀ m, ¬ p <+: m → Sm m t t' := by
  refine (open_any w h p hr.len hr.good ha).mono ?_
  have hd := nd_is h
  have hne : t.left ≠ 0 := by unfold LV at hlv; omega
  rintro e w' (⟨r, t', g', rfl, h0, hor, _⟩ | ⟨lb, sv, rv, t', g', n, s', recs, rfl, _, ho, hbo, hlb, hn, hs, hrc, hk, hf⟩)
  · exfalso
    rcases hor with ⟨h1, _⟩ | ⟨_, h1⟩
    · exact hne h1
    · have h2 := open_fails hr hd hK h1
      have h3 := lv_no hlv h1
      unfold LV at h3
      omega
  · obtain ⟨rfl, rfl, h1, h2, h3, h4⟩ := open_tells hr hd hK ho
    exact ⟨lb, sv, rv, t', g', recs, rfl, ⟨h1, hbo, h2, nd_is hbo.is, lv_at hlv ho, hlb, h4, h3, hs, hrc, hk, hf⟩, fun m hm => sm_at hm ho⟩
theorem append_two (w : World) {B lb sb c : Nat} {g : Gs} {t : St} {p : List UInt8} {N : Nat} {S X : List UInt8} {s K : Nat} (h : Bo B w lb g t ⟨sb, p, N, c, false⟩) (hr : RS p t N S X s K) (hlv : LV t) {f : Ent} (hf : lookE (nameOf p (pLog N)) t.l = some f) (v : Value) (bs : List UInt8) (hv : Frm.IsB w v (ints bs)) (hl : bs.length ≤ 65536) (hX : X.length + (enc bs).length ≤ 1048576) (hc : c ≤ 1000000) (ha : t.acts + 200 < 4611686018427387904) :
    Calls Tryz.prog 8 #[ptr lb, v] w fun e w' => e = .returned (.int .i64 0) ∧ ∃ g' t' f', BStep B lb w w' g g' ⟨sb, p, N, c, false⟩ ⟨sb, p, N, c + 1, false⟩ t' ∧ RS p t' N S (X ++ enc bs) s K ∧ LV t' ∧ lookE (nameOf p (pLog N)) t'.l = some f' ∧ t'.acts ≤ t.acts + 1 ∧ ∀ m, ¬ p <+: m → Sm m t t' := by
  have hsm := hr.small
  obtain ⟨e1, e2⟩ := hr.file hf
  have hfn := (look_name hf).1
  obtain ⟨r, t', ht⟩ : ∃ r t', t.append (nameOf p (pLog N)) (enc bs) = (r, t') := ⟨_, _, rfl⟩
  have hne : t.left ≠ 0 := by unfold LV at hlv; omega
  rcases append_old (may_name (ok_log (by omega)) hr.len) hf (by rw [e1]; exact hX) ht with ⟨_, _, h0⟩ | ⟨rfl, _, hl', _⟩
  · exact absurd h0 hne
  · have hac := append_acts t (nameOf p (pLog N)) (enc bs)
    have hlv' := lv_append t (nameOf p (pLog N)) (enc bs) hlv
    have hap : ∀ m, ¬ p <+: m → Sm m t (t.append (nameOf p (pLog N)) (enc bs)).2 := fun m hm => sm_append (not_pre hm _) t _
    rw [ht] at hac hlv' hap
    have h2 := hr.relog (t' := t') (f := { f with b := f.b ++ enc bs }) hfn hl' (K' := K) (by rw [hl']; exact Nat.le_trans (len_put_old ⟨f, (look_name hf).2, rfl⟩) hr.few)
    simp only at h2
    rw [e1, e2] at h2
    refine (lappend w h hr.len (by show N < 100; omega) v bs hv hl hc (by omega) (r := 0) (t' := t') (by unfold appendA; rw [if_neg (by simp)]; exact ht)).mono ?_
    rintro e w' ⟨rfl, g', hs⟩
    rw [appX_yes] at hs
    exact ⟨rfl, g', t', _, hs, h2, hlv', by rw [hl', look_put, if_pos hfn.symm], hac, hap⟩
theorem check_two (w : World) {B lb sb c : Nat} {g : Gs} {t : St} {p : List UInt8} {N : Nat} {S X : List UInt8} {s K : Nat} (h : Bo B w lb g t ⟨sb, p, N, c, false⟩) (hr : RS p t N S X s K) (hlv : LV t) {f : Ent} (hf : lookE (nameOf p (pLog N)) t.l = some f) (hN : N + 1 < 90) (hK : K + 2 < 64) (v : Value) (bs : List UInt8) (hv : Frm.IsB w v (ints bs)) (hl : bs.length ≤ 65536) (ha : t.acts + 200 < 4611686018427387904) :
    Calls Tryz.prog 10 #[ptr lb, v] w fun e w' => e = .returned (.int .i64 0) ∧ ∃ g' t' f', BStep B lb w w' g g' ⟨sb, p, N, c, false⟩ ⟨sb, p, N + 1, 0, false⟩ t' ∧ RS p t' (N + 1) bs [] 0 (K + 2) ∧ LV t' ∧ lookE (nameOf p (pLog (N + 1))) t'.l = some f' ∧ t'.acts ≤ t.acts + 7 ∧ ∀ m, ¬ p <+: m → Sm m t t' := by
  obtain ⟨tA, fA, hck, rsA, lvA, hfA, acA⟩ := check_plain hr hlv hf hN hK bs hl sb c
  have hap : ∀ m, ¬ p <+: m → Sm m t (checkA ⟨sb, p, N, c, false⟩ t bs).2.1 := fun m hm => sm_check (x := ⟨sb, p, N, c, false⟩) hm t bs
  rw [hck] at hap
  refine (lcheck w h hr.good hr.len (by show N + 1 < 100; omega) v bs hv hl (by omega) hck).mono ?_
  rintro e w' ⟨rfl, g', st⟩
  exact ⟨rfl, g', tA, fA, st, rsA, lvA, hfA, acA, hap⟩
end Go.Proofs.YtihgikekkgoddaaGreatDoor
