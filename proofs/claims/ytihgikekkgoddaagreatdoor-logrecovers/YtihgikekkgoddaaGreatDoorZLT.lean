/- Opening a store that tells something tells it; and again. Plain mathematics. -/
import Derived.Test.YtihgikekkgoddaaGreatDoorZLQ
namespace Go.Proofs.YtihgikekkgoddaaGreatDoor
open Sto

theorem may_name {p : List UInt8} {q : Part} (hq : q.ok) (hp : p.length ≤ 16) : mayB (nameOf p q) = true := by
  have := nameOf_len hq hp
  unfold mayB
  simp
  omega
theorem append_new {t t' : St} {n bs : List UInt8} {r : Int} (hm : mayB n = true) (hn : lookE n t.l = none) (hl : t.l.length < 64) (hb : bs.length ≤ 1048576) (h : t.append n bs = (r, t')) : (t' = t ∧ r = 30 ∧ t.left = 0) ∨ (r = 0 ∧ t.left ≠ 0 ∧ t'.l = putE ⟨n, bs, 0⟩ t.l ∧ t'.left = (t.done).left) := by
  unfold St.append at h
  by_cases h0 : t.left = 0
  · rw [if_pos h0] at h; cases h; exact .inl ⟨rfl, rfl, h0⟩
  · rw [if_neg h0, if_neg (by simp [hm]), hn] at h
    simp only at h
    rw [if_neg (by omega), if_neg (by omega)] at h
    cases h
    exact .inr ⟨rfl, h0, rfl, rfl⟩
theorem append_old {t t' : St} {n bs : List UInt8} {f : Ent} {r : Int} (hm : mayB n = true) (hn : lookE n t.l = some f) (hb : f.b.length + bs.length ≤ 1048576) (h : t.append n bs = (r, t')) : (t' = t ∧ r = 30 ∧ t.left = 0) ∨ (r = 0 ∧ t.left ≠ 0 ∧ t'.l = putE { f with b := f.b ++ bs } t.l ∧ t'.left = (t.done).left) := by
  unfold St.append at h
  by_cases h0 : t.left = 0
  · rw [if_pos h0] at h; cases h; exact .inl ⟨rfl, rfl, h0⟩
  · rw [if_neg h0, if_neg (by simp [hm]), hn] at h
    simp only at h
    rw [if_neg (by omega)] at h
    cases h
    exact .inr ⟨rfl, h0, rfl, rfl⟩
theorem sync_old {t t' : St} {n : List UInt8} {f : Ent} {r : Int} (hn : lookE n t.l = some f) (h : t.sync n = (r, t')) : (t' = t ∧ r = 30 ∧ t.left = 0) ∨ (r = 0 ∧ t.left ≠ 0 ∧ t'.l = putE { f with s := f.b.length } t.l ∧ t'.left = (t.done).left) := by
  unfold St.sync St.with at h
  by_cases h0 : t.left = 0
  · rw [if_pos h0] at h; cases h; exact .inl ⟨rfl, rfl, h0⟩
  · rw [if_neg h0, hn] at h
    simp only at h
    cases h
    exact .inr ⟨rfl, h0, rfl, rfl⟩
theorem truncate_old {t t' : St} {n : List UInt8} {f : Ent} {k : Nat} {r : Int} (hn : lookE n t.l = some f) (hk : k ≤ f.b.length) (h : t.truncate n (k : Int) = (r, t')) : (t' = t ∧ r = 30 ∧ t.left = 0) ∨ (r = 0 ∧ t.left ≠ 0 ∧ t'.l = putE { f with b := f.b.take k, s := min f.s k } t.l ∧ t'.left = (t.done).left) := by
  unfold St.truncate St.with at h
  by_cases h0 : t.left = 0
  · rw [if_pos h0] at h; cases h; exact .inl ⟨rfl, rfl, h0⟩
  · rw [if_neg h0, hn] at h
    simp only at h
    rw [if_neg (by omega)] at h
    cases h
    exact .inr ⟨rfl, h0, by simp [St.done], rfl⟩
/-- the log's file is another one. -/
theorem RS.relog {p : List UInt8} {t t' : St} {N : Nat} {S X : List UInt8} {s K : Nat} (h : RS p t N S X s K) {f : Ent} (hf : f.name = nameOf p (pLog N)) (hl : t'.l = putE f t.l) {K' : Nat} (hk : t'.l.length ≤ K') : RS p t' N S f.b f.s K' := by
  have hsm := h.small
  have hnm : ∀ n ∈ namesOf t', n = nameOf p (pLog N) ∨ n ∈ namesOf t := fun n hn => by
    have := names_put hl hn; rwa [hf] at this
  refine ⟨h.len, h.good.one (ok_log (by omega)) hnm, fun q hq hm hk' => ?_, h.small, ?_, .inr ⟨f, by rw [hl, look_put, if_pos hf.symm], rfl, rfl⟩, hk⟩
  · rcases hnm _ hm with e | e
    · have := nameOf_inj hq (ok_log (by omega)) e
      rw [this]; exact Nat.le_refl _
    · exact h.top q hq e hk'
  · rcases h.snap with h1 | ⟨h1, h2, f', h3, h4⟩
    · exact .inl h1
    · refine .inr ⟨h1, h2, f', ?_, h4⟩
      rw [hl, look_put, if_neg (by rw [hf]; exact ne_snap_log h1 (by omega) (by omega))]
      exact h3
theorem RS.makeFile {p : List UInt8} {t t' : St} {N : Nat} {S X : List UInt8} {s K : Nat} {r : Int} (h : RS p t N S X s K) (hK : K < 64) (ht : makeFileA p N t = (r, t')) : RS p t' N S X s (K + 1) ∧ Fails t' r ∧ (r = 0 → ∃ f, lookE (nameOf p (pLog N)) t'.l = some f ∧ f.b = X ∧ f.s = s) := by
  have hsm := h.small
  have hfew := h.few
  unfold makeFileA at ht
  split at ht
  · rename_i hin
    cases ht
    refine ⟨h.mono (by omega), fun e => absurd rfl e, fun _ => ?_⟩
    rcases h.log with ⟨h1, _⟩ | h1
    · exact absurd hin (look_none.1 h1)
    · exact h1
  · rename_i hin
    have hno := look_none.2 hin
    rcases h.log with ⟨_, rfl, rfl⟩ | ⟨f, h1, _⟩
    · rcases append_new (may_name (ok_log (by omega)) h.len) hno (by omega) (by simp) ht with ⟨rfl, rfl, h0⟩ | ⟨rfl, h0, hl, _⟩
      · exact ⟨h.mono (by omega), fun _ => ⟨rfl, h0⟩, fun e => by omega⟩
      · have h2 := h.relog (t' := t') (f := ⟨nameOf p (pLog N), [], 0⟩) rfl hl (K' := K + 1) (by rw [hl]; exact Nat.le_trans (len_put _ _) (by omega))
        exact ⟨h2, fun e => absurd rfl e, fun _ => ⟨_, by rw [hl, look_put, if_pos rfl], rfl, rfl⟩⟩
    · rw [hno] at h1; cases h1
theorem RS.load {p : List UInt8} {t t' : St} {N : Nat} {S X : List UInt8} {s K : Nat} {r : Int} (h : RS p t N S X s K) {f : Ent} (hf : lookE (nameOf p (pLog N)) t.l = some f) (hX : f.b = X) (hs : f.s = s) {recs : List (List UInt8)} (hR : Read8 (t.read (nameOf p (pLog N))).1 recs) (ht : loadA (nameOf p (pLog N)) t recs = (r, t')) :
    Fails t' r ∧ (r = 0 → Read8 X recs) ∧ ∃ X' s', RS p t' N S X' s' K ∧ (X' = X ∨ X' = encs recs ∧ Read8 X recs) ∧ min s X'.length ≤ s' ∧ (r = 0 → X' = encs recs ∧ s' = X'.length ∧ ∃ f, lookE (nameOf p (pLog N)) t'.l = some f) := by
  have hsm := h.small
  have hfn := (look_name hf).1
  have hlog := h.log
  unfold loadA at ht
  by_cases h0 : t.left = 0
  · rw [read_dead h0, if_pos (by simp)] at ht
    cases ht
    exact ⟨fun _ => ⟨rfl, h0⟩, fun e => by omega, X, s, h, .inl rfl, by omega, fun e => by omega⟩
  · rw [read_in hf h0] at ht hR
    simp only at hR
    rw [hX] at ht hR
    rw [if_neg (by simp)] at ht
    simp only at ht
    obtain ⟨rest, hpre⟩ := hR.pre
    have hle : (encs recs).length ≤ X.length := by rw [hpre, List.length_append]; omega
    have hold : ∃ x ∈ t.l, x.name = nameOf p (pLog N) := ⟨f, (look_name hf).2, hfn⟩
    -- the sync
    have fin : ∀ (t1 : St) (f1 : Ent) (X1 : List UInt8) (s1 : Nat), RS p t1 N S X1 s1 K → lookE (nameOf p (pLog N)) t1.l = some f1 → f1.b = X1 → f1.s = s1 → X1 = encs recs → min s X1.length ≤ s1 → t1.sync (nameOf p (pLog N)) = (r, t') →
        Fails t' r ∧ (r = 0 → Read8 X recs) ∧ ∃ X' s', RS p t' N S X' s' K ∧ (X' = X ∨ X' = encs recs ∧ Read8 X recs) ∧ min s X'.length ≤ s' ∧ (r = 0 → X' = encs recs ∧ s' = X'.length ∧ ∃ f, lookE (nameOf p (pLog N)) t'.l = some f) := by
      intro t1 f1 X1 s1 h1 hf1 hX1 hs1 hXe hms hsy
      have hfn1 := (look_name hf1).1
      rcases sync_old hf1 hsy with ⟨rfl, rfl, h2⟩ | ⟨rfl, h2, hl, _⟩
      · exact ⟨fun _ => ⟨rfl, h2⟩, fun e => by omega, X1, s1, h1, .inr ⟨hXe, hR⟩, hms, fun e => by omega⟩
      · have h3 := h1.relog (t' := t') (f := { f1 with s := f1.b.length }) hfn1 hl (K' := K) (by
          rw [hl]; exact Nat.le_trans (len_put_old ⟨f1, (look_name hf1).2, rfl⟩) h1.few)
        simp only at h3
        rw [hX1] at h3
        exact ⟨fun e => absurd rfl e, fun _ => hR, X1, X1.length, h3, .inr ⟨hXe, hR⟩, by omega, fun _ => ⟨hXe, rfl, _, by rw [hl, look_put, if_pos hfn1.symm]⟩⟩
    by_cases hlt : (encs recs).length < X.length
    · rw [if_pos hlt] at ht
      obtain ⟨r1, t1, hp1⟩ : ∃ r1 t1, t.truncate (nameOf p (pLog N)) ((encs recs).length : Int) = (r1, t1) := ⟨_, _, rfl⟩
      rw [hp1] at ht
      simp only at ht
      rcases truncate_old hf (by rw [hX]; omega) hp1 with ⟨rfl, rfl, h2⟩ | ⟨rfl, h2, hl, _⟩
      · exact absurd h2 h0
      · rw [if_neg (by simp)] at ht
        have e : f.b.take (encs recs).length = encs recs := by rw [hX, hpre, List.take_left' rfl]
        rw [e] at hl
        have h3 := h.relog (t' := t1) (f := { f with b := encs recs, s := min f.s (encs recs).length }) hfn hl (K' := K) (by
          rw [hl]; exact Nat.le_trans (len_put_old ⟨f, (look_name hf).2, rfl⟩) h.few)
        simp only at h3
        refine fin t1 { f with b := encs recs, s := min f.s (encs recs).length } (encs recs) _ h3 (by rw [hl, look_put, if_pos hfn.symm]) rfl rfl rfl (by rw [hs]; omega) ht
    · rw [if_neg hlt] at ht
      simp only at ht
      rw [if_neg (by simp)] at ht
      have hXe : X = encs recs := by
        have e : rest = [] := by
          have := congrArg List.length hpre
          rw [List.length_append] at this
          exact List.eq_nil_of_length_eq_zero (by omega)
        rw [hpre, e, List.append_nil]
      exact fin t f X s h hf hX hs hXe (by omega) ht
theorem RS.drop {p : List UInt8} {N : Nat} {S X : List UInt8} {s K : Nat} : ∀ (l : List (List UInt8 × Part)) (t t' : St) (r : Int), RS p t N S X s K → (∀ x ∈ l, x.2.ok ∧ x.1 = nameOf p x.2 ∧ x.1 ∈ namesOf t) → (l.map Prod.fst).Nodup → dropF N l t = (r, t') → RS p t' N S X s K ∧ Fails t' r ∧ lookE (nameOf p (pLog N)) t'.l = lookE (nameOf p (pLog N)) t.l
  | [], t, t', r, h, _, _, ht => by cases ht; exact ⟨h, fun e => absurd rfl e, rfl⟩
  | (nm, q) :: rest, t, t', r, h, hin, hnd, ht => by
    have hsm := h.small
    obtain ⟨hq, hnm, hmem⟩ := hin (nm, q) List.mem_cons_self
    simp only at hq hnm hmem
    have hnd' := List.nodup_cons.1 hnd
    unfold dropF at ht
    by_cases hA : q.kind ≠ kNew ∧ q.num = N
    · rw [if_pos hA] at ht
      exact RS.drop rest t t' r h (fun x hx => hin x (List.mem_cons_of_mem _ hx)) hnd'.2 ht
    · rw [if_neg hA] at ht
      obtain ⟨r1, t1, hp1⟩ : ∃ r1 t1, t.remove nm = (r1, t1) := ⟨_, _, rfl⟩
      rw [hp1] at ht
      simp only at ht
      rcases remove_in hmem hp1 with ⟨rfl, rfl, h0⟩ | ⟨rfl, h0, hl, _⟩
      · rw [if_neg (by simp)] at ht
        cases ht
        exact ⟨h, fun _ => ⟨rfl, h0⟩, rfl⟩
      · rw [if_pos rfl] at ht
        have hlk : lookE (nameOf p (pLog N)) t1.l = lookE (nameOf p (pLog N)) t.l := by
          rw [hl, look_del, if_neg (fun e => ?_)]
          have := nameOf_inj (ok_log (by omega)) hq (e.trans hnm)
          rw [← this] at hA; exact hA ⟨log_ne_new, rfl⟩
        have h1 : RS p t1 N S X s K := by
          refine h.same (fun n hn => names_del hl hn) (fun hN => ?_) ?_ (by rw [hl]; exact Nat.le_trans (len_del _ _) h.few)
          · rw [hl, look_del, if_neg (fun e => ?_)]
            have := nameOf_inj (ok_snap hN (by omega)) hq (e.trans hnm)
            rw [← this] at hA; exact hA ⟨snap_ne_new, rfl⟩
          · rw [hl, look_del, if_neg (fun e => ?_)]
            have := nameOf_inj (ok_log (by omega)) hq (e.trans hnm)
            rw [← this] at hA; exact hA ⟨log_ne_new, rfl⟩
        refine (fun ⟨a, b, c⟩ => ⟨a, b, c.trans hlk⟩) (RS.drop rest t1 t' r h1 (fun x hx => ?_) hnd'.2 ht)
        obtain ⟨a, b, c⟩ := hin x (List.mem_cons_of_mem _ hx)
        refine ⟨a, b, ?_⟩
        obtain ⟨f, hf, e⟩ := mem_names.1 c
        refine mem_names.2 ⟨f, ?_, e⟩
        rw [hl]
        refine mem_delE.2 ⟨hf, fun e' => hnd'.1 ?_⟩
        rw [← e', e]
        exact List.mem_map.2 ⟨x, hx, rfl⟩
theorem own_nodup {p : List UInt8} {l : List (List UInt8)} (h : l.Nodup) : ((ownOf p l).map Prod.fst).Nodup := by
  induction l with
  | nil => simp [ownOf]
  | cons a r ih =>
    obtain ⟨h1, h2⟩ := List.nodup_cons.1 h
    cases e : decode p a with
    | none => rw [own_cons_no e]; exact ih h2
    | some q =>
      rw [own_cons_yes e]
      refine List.nodup_cons.2 ⟨fun hm => h1 ?_, ih h2⟩
      obtain ⟨x, hx, e2⟩ := List.mem_map.1 hm
      have e3 : x.1 = a := e2
      rw [← e3]
      exact (mem_own.1 hx).1
/-- no name twice. -/
def ND (t : St) : Prop := (namesOf t).Nodup
theorem nd_ins {f : Ent} : ∀ {l : List Ent}, (l.map Ent.name).Nodup → f.name ∉ l.map Ent.name → ((insE f l).map Ent.name).Nodup
  | [], _, _ => by simp [insE]
  | g :: r, h, hf => by
    have h' := List.nodup_cons.1 h
    unfold insE
    split
    · exact List.nodup_cons.2 ⟨hf, h⟩
    · refine List.nodup_cons.2 ⟨fun hm => ?_, nd_ins h'.2 (fun hm => hf (List.mem_cons_of_mem _ hm))⟩
      obtain ⟨x, hx, e⟩ := List.mem_map.1 hm
      rcases (mem_insE f x r).1 hx with rfl | hx
      · exact hf (by rw [e]; exact List.mem_cons_self)
      · exact h'.1 (by rw [← e]; exact List.mem_map.2 ⟨x, hx, rfl⟩)
theorem nd_del {t t' : St} {m : List UInt8} (h : ND t) (hl : t'.l = delE m t.l) : ND t' := by
  unfold ND namesOf at *
  rw [hl]
  unfold delE
  exact List.Nodup.sublist (List.Sublist.map _ List.filter_sublist) h
theorem nd_put {t t' : St} {f : Ent} (h : ND t) (hl : t'.l = putE f t.l) : ND t' := by
  have h1 : ND { t with l := delE f.name t.l } := nd_del h rfl
  unfold ND namesOf at *
  rw [hl]
  unfold putE
  refine nd_ins h1 (fun hm => ?_)
  obtain ⟨x, hx, e⟩ := List.mem_map.1 hm
  exact (mem_delE.1 hx).2 e
theorem nd_remove (t : St) (m : List UInt8) (h : ND t) : ND (t.remove m).2 := by
  unfold St.remove St.with
  split
  · exact h
  · split
    · exact h
    · exact nd_del (t' := St.done { t with l := delE m t.l }) h rfl
theorem nd_append (t : St) (m bs : List UInt8) (h : ND t) : ND (t.append m bs).2 := by
  unfold St.append
  split
  · exact h
  · split
    · exact h
    · split
      · split
        · exact h
        · exact nd_put (t' := St.done _) h rfl
      · split
        · exact h
        · split
          · exact h
          · exact nd_put (t' := St.done _) h rfl
theorem nd_sync (t : St) (m : List UInt8) (h : ND t) : ND (t.sync m).2 := by
  unfold St.sync St.with
  split
  · exact h
  · split
    · exact h
    · exact nd_put (t' := St.done _) h rfl
theorem nd_truncate (t : St) (m : List UInt8) (k : Int) (h : ND t) : ND (t.truncate m k).2 := by
  unfold St.truncate St.with
  split
  · exact h
  · split
    · exact h
    · simp only
      split
      · exact h
      · exact nd_put (t' := St.done _) h rfl
theorem nd_rename (t : St) (o n : List UInt8) (h : ND t) : ND (t.rename o n).2 := by
  unfold St.rename St.with
  split
  · exact h
  · split
    · exact h
    · simp only
      split
      · exact h
      · refine nd_put (t := { t with l := delE o t.l }) (t' := St.done _) (nd_del h rfl) rfl
theorem nd_dropNew {p : List UInt8} {t t' : St} {r : Int} (h : ND t) (ht : dropNewA p t = (r, t')) : ND t' := by
  unfold dropNewA at ht
  split at ht
  · have := nd_remove t (nameOf p pNew) h; rw [ht] at this; exact this
  · cases ht; exact h
theorem nd_makeFile {p : List UInt8} {n : Nat} {t t' : St} {r : Int} (h : ND t) (ht : makeFileA p n t = (r, t')) : ND t' := by
  unfold makeFileA at ht
  split at ht
  · cases ht; exact h
  · have := nd_append t (nameOf p (pLog n)) [] h; rw [ht] at this; exact this
theorem nd_load {nm : List UInt8} {t t' : St} {recs : List (List UInt8)} {r : Int} (h : ND t) (ht : loadA nm t recs = (r, t')) : ND t' := by
  unfold loadA at ht
  split at ht
  · cases ht; exact h
  · simp only at ht
    have key : ∀ t1 : Int × St, ND t1.2 → (if t1.1 ≠ 0 then t1 else t1.2.sync nm) = (r, t') → ND t' := by
      intro t1 h1 h3
      split at h3
      · subst h3; exact h1
      · have := nd_sync t1.2 nm h1; rw [h3] at this; exact this
    refine key _ ?_ ht
    split
    · exact nd_truncate t nm _ h
    · exact h
theorem acts_drop {n : Nat} : ∀ (l : List (List UInt8 × Part)) (t t' : St) (r : Int), dropF n l t = (r, t') → t'.acts ≤ t.acts + l.length
  | [], t, t', r, ht => by cases ht; exact Nat.le_refl _
  | (nm, q) :: l, t, t', r, ht => by
    have h1 := remove_acts t nm
    unfold dropF at ht
    split at ht
    · have := acts_drop l t t' r ht
      simp only [List.length_cons]; omega
    · split at ht
      · have := acts_drop l _ t' r ht
        simp only [List.length_cons]; omega
      · rw [ht] at h1; simp only [List.length_cons]; simp only at h1; omega
/-- opening: what it tells, and what it leaves. -/
theorem open_tells {p : List UInt8} {t t' : St} {N : Nat} {S X : List UInt8} {s K n : Nat} {s' : List UInt8} {recs : List (List UInt8)} (h : RS p t N S X s K) (hd : ND t) (hK : K < 64) (ho : OpenAt p t 5 t' n s' recs) :
    n = N ∧ s' = S ∧ Read8 X recs ∧ RS p t' N S (encs recs) (encs recs).length (K + 1) ∧ t'.acts ≤ t.acts + 4 + (K + 1) ∧ ∃ f, lookE (nameOf p (pLog N)) t'.l = some f := by
  cases ho with
  | s5 h4 e5 =>
    cases h4 with
    | s4 h3 hR e4 =>
      cases h3 with
      | s3 h2 e3 =>
        cases h2 with
        | s2 h1 e2 =>
          cases h1 with
          | s1 e1 =>
            obtain ⟨a1, _, _⟩ := h.dropNew e1
            have d1 := nd_dropNew hd e1
            obtain ⟨b1, _⟩ := a1.newest e2
            obtain ⟨rfl, rfl⟩ := b1 rfl
            obtain ⟨c1, _, c2⟩ := a1.makeFile hK e3
            have d3 := nd_makeFile d1 e3
            obtain ⟨f, hf, hX, hs⟩ := c2 rfl
            obtain ⟨_, g1, X', s'', g2, g3, g4, g5⟩ := c1.load hf hX hs hR e4
            obtain ⟨rfl, rfl, f4, hf4⟩ := g5 rfl
            have d4 := nd_load d3 e4
            obtain ⟨k1, _, k3⟩ := RS.drop _ _ _ _ g2 (fun x hx => by obtain ⟨q1, q2, q3⟩ := mem_own.1 hx; exact ⟨q2, q3, q1⟩) (own_nodup d4) e5
            refine ⟨rfl, rfl, g1 rfl, k1, ?_, f4, k3.trans hf4⟩
            have q1 := (dropNew_good h.good e1).2
            have q3 := (makeFile_good (by have := h.small; omega) a1.good e3).2
            have q4 := (load_good c1.good e4).2
            have q5 := acts_drop _ _ _ _ e5
            have q7 := g2.few
            have q6 : ∀ t4 : St, (ownT p t4).length ≤ t4.l.length := fun t4 => by
              have := own_len p (namesOf t4); rw [names_len] at this; exact this
            refine Nat.le_trans q5 (Nat.le_trans (Nat.add_le_add_left (q6 _) _) (by omega))
/-- opening that fails: the power went; what is told stays. -/
theorem open_fails {p : List UInt8} {t t' : St} {N : Nat} {S X : List UInt8} {s K : Nat} {r : Int} (h : RS p t N S X s K) (hd : ND t) (hK : K < 64) (ho : OpenNo p t r t') :
    r = 30 ∧ t'.left = 0 ∧ ∃ X' s', RS p t' N S X' s' (K + 1) ∧ (X' = X ∨ ∃ recs, X' = encs recs ∧ Read8 X recs) ∧ min s X'.length ≤ s' := by
  have step1 : ∀ {t1}, OpenAt p t 1 t1 0 [] [] → RS p t1 N S X s K ∧ ND t1 := fun h1 => by
    cases h1 with
    | s1 e1 => exact ⟨(h.dropNew e1).1, nd_dropNew hd e1⟩
  have step2 : ∀ {t1 n s'}, OpenAt p t 2 t1 n s' [] → RS p t1 N S X s K ∧ ND t1 ∧ n = N := fun h2 => by
    cases h2 with
    | s2 h1 e2 =>
      obtain ⟨a, b⟩ := step1 h1
      exact ⟨a, b, ((a.newest e2).1 rfl).1⟩
  have step3 : ∀ {t3 n s'}, OpenAt p t 3 t3 n s' [] → RS p t3 N S X s (K + 1) ∧ ND t3 ∧ n = N ∧ ∃ f, lookE (nameOf p (pLog N)) t3.l = some f ∧ f.b = X ∧ f.s = s := fun h3 => by
    cases h3 with
    | s3 h2 e3 =>
      obtain ⟨a, b, rfl⟩ := step2 h2
      obtain ⟨c1, _, c2⟩ := a.makeFile hK e3
      exact ⟨c1, nd_makeFile b e3, rfl, c2 rfl⟩
  cases ho with
  | f1 e1 hr =>
    obtain ⟨a, b, _⟩ := h.dropNew e1
    exact ⟨(b hr).1, (b hr).2, X, s, a.mono (by omega), .inl rfl, by omega⟩
  | f2 h1 e2 hr =>
    obtain ⟨a, _⟩ := step1 h1
    have b := (a.newest e2).2 hr
    exact ⟨b.1, b.2, X, s, a.mono (by omega), .inl rfl, by omega⟩
  | f3 h2 e3 hr =>
    obtain ⟨a, _, rfl⟩ := step2 h2
    obtain ⟨c1, c2, _⟩ := a.makeFile hK e3
    exact ⟨(c2 hr).1, (c2 hr).2, X, s, c1, .inl rfl, by omega⟩
  | f4 h3 hR e4 hr =>
    obtain ⟨a, _, rfl, f, hf, hX, hs⟩ := step3 h3
    obtain ⟨g0, _, X', s'', g2, g3, g4, _⟩ := a.load hf hX hs hR e4
    exact ⟨(g0 hr).1, (g0 hr).2, X', s'', g2, g3.imp id (fun h => ⟨_, h.1, h.2⟩), g4⟩
  | f5 h4 e5 hr =>
    cases h4 with
    | s4 h3 hR e4 =>
      obtain ⟨a, b, rfl, f, hf, hX, hs⟩ := step3 h3
      obtain ⟨_, g1, X', s'', g2, g3, g4, g5⟩ := a.load hf hX hs hR e4
      have d4 := nd_load b e4
      obtain ⟨k1, k2, _⟩ := RS.drop _ _ _ _ g2 (fun x hx => by obtain ⟨q1, q2, q3⟩ := mem_own.1 hx; exact ⟨q2, q3, q1⟩) (own_nodup d4) e5
      exact ⟨(k2 hr).1, (k2 hr).2, X', s'', k1, g3.imp id (fun h => ⟨_, h.1, h.2⟩), g4⟩
end Go.Proofs.YtihgikekkgoddaaGreatDoor
