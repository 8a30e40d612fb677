/- Plain mathematics of opening: how it goes; which names there are behind each of the store's calls. -/
import Derived.Test.YtihgikekkgoddaaGreatDoorZL9
namespace Go.Proofs.YtihgikekkgoddaaGreatDoor
open Sto

theorem mem_insE (f x : Ent) : ∀ l : List Ent, x ∈ insE f l ↔ x = f ∨ x ∈ l
  | [] => by simp [insE]
  | g :: r => by
    unfold insE
    split
    · simp
    · simp [mem_insE f x r]; constructor
      · rintro (h | h | h) <;> simp [h]
      · rintro (h | h | h) <;> simp [h]
theorem mem_delE {n : List UInt8} {l : List Ent} {x : Ent} : x ∈ delE n l ↔ x ∈ l ∧ x.name ≠ n := by simp [delE]
theorem mem_putE {f x : Ent} {l : List Ent} : x ∈ putE f l ↔ x = f ∨ (x ∈ l ∧ x.name ≠ f.name) := by simp [putE, mem_insE, mem_delE]
theorem mem_names {t : St} {n : List UInt8} : n ∈ namesOf t ↔ ∃ f ∈ t.l, f.name = n := by simp [namesOf]
theorem names_put {t t' : St} {f : Ent} (hl : t'.l = putE f t.l) {n : List UInt8} (h : n ∈ namesOf t') : n = f.name ∨ n ∈ namesOf t := by
  obtain ⟨x, hx, rfl⟩ := mem_names.1 h
  rw [hl] at hx
  rcases mem_putE.1 hx with rfl | ⟨h1, _⟩
  · exact .inl rfl
  · exact .inr (mem_names.2 ⟨x, h1, rfl⟩)
theorem names_del {t t' : St} {m : List UInt8} (hl : t'.l = delE m t.l) {n : List UInt8} (h : n ∈ namesOf t') : n ∈ namesOf t := by
  obtain ⟨x, hx, rfl⟩ := mem_names.1 h
  rw [hl] at hx
  exact mem_names.2 ⟨x, (mem_delE.1 hx).1, rfl⟩
/-- the names behind a call are those ahead of it, and maybe one more. -/
def Nm (m : List UInt8) (t t' : St) : Prop := ∀ n ∈ namesOf t', n = m ∨ n ∈ namesOf t
theorem look_name {n : List UInt8} {l : List Ent} {f : Ent} (h : lookE n l = some f) : f.name = n ∧ f ∈ l := ⟨by simpa using List.find?_some h, List.mem_of_find?_eq_some h⟩
theorem remove_nm (t : St) (m : List UInt8) : ∀ n ∈ namesOf (t.remove m).2, n ∈ namesOf t := by
  unfold St.remove St.with
  intro n hn
  split at hn
  · exact hn
  · split at hn
    · exact hn
    · exact names_del (t := t) (t' := St.done { t with l := delE m t.l }) rfl hn
theorem append_nm (t : St) (m bs : List UInt8) : Nm m t (t.append m bs).2 := by
  unfold St.append
  intro n hn
  split at hn
  · exact .inr hn
  · split at hn
    · exact .inr hn
    · split at hn
      · rename_i f hf
        split at hn
        · exact .inr hn
        · have := names_put (t := t) (t' := St.done { t with l := putE { f with b := f.b ++ bs } t.l }) rfl hn
          simpa [(look_name hf).1] using this
      · split at hn
        · exact .inr hn
        · split at hn
          · exact .inr hn
          · exact names_put (t := t) (t' := St.done { t with l := putE ⟨m, bs, 0⟩ t.l }) rfl hn
theorem sync_nm (t : St) (m : List UInt8) : ∀ n ∈ namesOf (t.sync m).2, n ∈ namesOf t := by
  unfold St.sync St.with
  intro n hn
  split at hn
  · exact hn
  · split at hn
    · exact hn
    · rename_i f hf
      have := names_put (t := t) (t' := St.done { t with l := putE { f with s := f.b.length } t.l }) rfl hn
      rcases this with h | h
      · rw [h]; exact mem_names.2 ⟨f, (look_name hf).2, rfl⟩
      · exact h
theorem truncate_nm (t : St) (m : List UInt8) (k : Int) : ∀ n ∈ namesOf (t.truncate m k).2, n ∈ namesOf t := by
  unfold St.truncate St.with
  intro n hn
  split at hn
  · exact hn
  · split at hn
    · exact hn
    · rename_i f hf
      simp only at hn
      split at hn
      · exact hn
      · have := names_put (t := t) (t' := St.done { t with l := putE { f with b := f.b.take k.toNat, s := min f.s k.toNat } t.l }) rfl hn
        rcases this with h | h
        · rw [h]; exact mem_names.2 ⟨f, (look_name hf).2, rfl⟩
        · exact h
theorem Good.sub {p : List UInt8} {l l' : List (List UInt8)} (h : Good p l) (hs : ∀ n ∈ l', n ∈ l) : Good p l' := fun n hn hp => h n (hs n hn) hp
theorem Good.one {p : List UInt8} {l l' : List (List UInt8)} {q : Part} (h : Good p l) (hq : q.ok) (hs : ∀ n ∈ l', n = nameOf p q ∨ n ∈ l) : Good p l' := fun n hn hp => (hs n hn).elim (fun e => ⟨q, hq, e⟩) (fun h' => h n h' hp)
theorem append_acts (t : St) (m bs : List UInt8) : (t.append m bs).2.acts ≤ t.acts + 1 := by
  unfold St.append
  split
  · simp
  · split
    · simp
    · split
      · split <;> simp [St.done]
      · split
        · simp
        · split <;> simp [St.done]
theorem sync_acts (t : St) (n : List UInt8) : (t.sync n).2.acts ≤ t.acts + 1 := by
  unfold St.sync
  exact with_acts t n _ fun f => by simp [St.done]
theorem dropNew_good {p : List UInt8} {t t' : St} {r : Int} (h : Good p (namesOf t)) (ht : dropNewA p t = (r, t')) : Good p (namesOf t') ∧ t'.acts ≤ t.acts + 1 := by
  unfold dropNewA at ht
  split at ht
  · have h1 := remove_nm t (nameOf p pNew)
    have h2 := remove_acts t (nameOf p pNew)
    rw [ht] at h1 h2
    exact ⟨h.sub h1, h2⟩
  · cases ht; exact ⟨h, by omega⟩
theorem makeFile_good {p : List UInt8} {n : Nat} (hn : n < 100) {t t' : St} {r : Int} (h : Good p (namesOf t)) (ht : makeFileA p n t = (r, t')) : Good p (namesOf t') ∧ t'.acts ≤ t.acts + 1 := by
  unfold makeFileA at ht
  split at ht
  · cases ht; exact ⟨h, by omega⟩
  · have h1 := append_nm t (nameOf p (pLog n)) []
    have h2 := append_acts t (nameOf p (pLog n)) []
    rw [ht] at h1 h2
    exact ⟨h.one (ok_log hn) h1, h2⟩
theorem load_good {p nm : List UInt8} {t t' : St} {recs : List (List UInt8)} {r : Int} (h : Good p (namesOf t)) (ht : loadA nm t recs = (r, t')) : Good p (namesOf t') ∧ t'.acts ≤ t.acts + 2 := by
  unfold loadA at ht
  split at ht
  · cases ht; exact ⟨h, by omega⟩
  · simp only at ht
    have key : ∀ t1 : Int × St, Good p (namesOf t1.2) → t1.2.acts ≤ t.acts + 1 → (if t1.1 ≠ 0 then t1 else t1.2.sync nm) = (r, t') → Good p (namesOf t') ∧ t'.acts ≤ t.acts + 2 := by
      intro t1 h1 h2 h3
      split at h3
      · subst h3; exact ⟨h1, by simp at h2; omega⟩
      · have h4 := sync_nm t1.2 nm
        have h5 := sync_acts t1.2 nm
        rw [h3] at h4 h5
        exact ⟨h1.sub h4, by simp at h5; omega⟩
    refine key _ ?_ ?_ ht
    · split
      · exact h.sub (truncate_nm t nm _)
      · exact h
    · split
      · exact truncate_acts t nm _
      · simp
/-- how opening goes: so many steps are done. -/
inductive OpenAt (p : List UInt8) (t : St) : Nat → St → Nat → List UInt8 → List (List UInt8) → Prop
  | s0 : OpenAt p t 0 t 0 [] []
  | s1 {t1} : dropNewA p t = (0, t1) → OpenAt p t 1 t1 0 [] []
  | s2 {t1 n s} : OpenAt p t 1 t1 0 [] [] → newF t1 (ownT p t1) 0 [] = (0, n, s) → OpenAt p t 2 t1 n s []
  | s3 {t1 t3 n s} : OpenAt p t 2 t1 n s [] → makeFileA p n t1 = (0, t3) → OpenAt p t 3 t3 n s []
  | s4 {t3 t4 n s recs} : OpenAt p t 3 t3 n s [] → Read8 (t3.read (nameOf p (pLog n))).1 recs → loadA (nameOf p (pLog n)) t3 recs = (0, t4) → OpenAt p t 4 t4 n s recs
  | s5 {t4 t5 n s recs} : OpenAt p t 4 t4 n s recs → dropF n (ownT p t4) t4 = (0, t5) → OpenAt p t 5 t5 n s recs
/-- it fails: that is its answer, and so the store is left. -/
inductive OpenNo (p : List UInt8) (t : St) : Int → St → Prop
  | f1 {r t1} : dropNewA p t = (r, t1) → r ≠ 0 → OpenNo p t r t1
  | f2 {t1 r n s} : OpenAt p t 1 t1 0 [] [] → newF t1 (ownT p t1) 0 [] = (r, n, s) → r ≠ 0 → OpenNo p t r t1
  | f3 {t1 n s r t3} : OpenAt p t 2 t1 n s [] → makeFileA p n t1 = (r, t3) → r ≠ 0 → OpenNo p t r t3
  | f4 {t3 n s recs r t4} : OpenAt p t 3 t3 n s [] → Read8 (t3.read (nameOf p (pLog n))).1 recs → loadA (nameOf p (pLog n)) t3 recs = (r, t4) → r ≠ 0 → OpenNo p t r t4
  | f5 {t4 n s recs r t5} : OpenAt p t 4 t4 n s recs → dropF n (ownT p t4) t4 = (r, t5) → r ≠ 0 → OpenNo p t r t5
end Go.Proofs.YtihgikekkgoddaaGreatDoor
