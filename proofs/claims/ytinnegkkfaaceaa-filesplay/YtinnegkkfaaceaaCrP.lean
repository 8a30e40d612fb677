/- Plain mathematics of FilesCrash: what calls and crashes leave. -/
import Derived.Test.YtinnegkkfaaceaaGreat
namespace Go.Proofs.Ytinnegkkfaaceaa
theorem Is.rising {B sb : Nat} {w : World} {g : Gs} {t : St} (h : Is B w sb g t) : RisingE t.l := by rw [← h.2.1]; exact risingE_map h.1.rising
theorem Is.file {B sb : Nat} {w : World} {g : Gs} {t : St} (h : Is B w sb g t) {f : Ent} (hf : f ∈ t.l) : f.s ≤ f.b.length ∧ f.b.length ≤ 1048576 ∧ 1 ≤ f.name.length ∧ f.name.length ≤ 32 := by
  rw [← h.2.1] at hf
  obtain ⟨x, hx, rfl⟩ := List.mem_map.1 hf
  have := h.1.files x hx
  exact ⟨this.syn, this.big, this.nm⟩
theorem Is.few {B sb : Nat} {w : World} {g : Gs} {t : St} (h : Is B w sb g t) : t.l.length ≤ 64 := by
  rw [← h.2.1]; simpa [Gs.abs] using h.1.few
theorem Is.names {B sb : Nat} {w : World} {g : Gs} {t : St} (h : Is B w sb g t) : names g.l = t.l.map Ent.name := by
  rw [← h.2.1]; unfold Go.Proofs.Ytinnegkkfaaceaa.names Gs.abs; rw [List.map_map]; rfl
theorem lookE_at {l : List Ent} (h : RisingE l) (j : Nat) (hj : j < l.length) : lookE l[j].name l = some l[j] := by
  induction l generalizing j with
  | nil => cases hj
  | cons x r ih =>
    have h' := List.pairwise_cons.1 h
    cases j with
    | zero => simp [lookE]
    | succ j =>
      have hj' : j < r.length := by simpa using hj
      have hlt := h'.1 r[j] (List.getElem_mem hj')
      have ne : ¬ x.name = r[j].name := fun e => by rw [e] at hlt; exact lt_irrefl _ hlt
      have hi := ih h'.2 j hj'
      unfold lookE at hi ⊢
      simpa [ne] using hi
theorem read_at {t : St} (hl : t.left = -1) (h : RisingE t.l) {j : Nat} {f : Ent} (hj : t.l[j]? = some f) : t.read f.name = (f.b, 0) := by
  obtain ⟨hj', rfl⟩ := List.getElem?_eq_some_iff.1 hj
  unfold St.read
  rw [if_neg (by rw [hl]; decide), lookE_at h j hj']
theorem get_at {t : St} (hl : t.left = -1) (h : RisingE t.l) (k : Ent → Int) {j : Nat} {f : Ent} (hj : t.l[j]? = some f) : t.get f.name k = (k f, 0) := by
  obtain ⟨hj', rfl⟩ := List.getElem?_eq_some_iff.1 hj
  unfold St.get
  rw [if_neg (by rw [hl]; decide), lookE_at h j hj']
namespace filesCrash
def Calm (k : Nat) (t : St) : Prop := t.left = -1 ∧ t.acts ≤ k
theorem Calm.up {k : Nat} {t : St} (h : Calm k t) : Calm (k + 1) t := ⟨h.1, by have := h.2; omega⟩
theorem Calm.done {k : Nat} {t : St} (h : Calm k t) (l : List Ent) : Calm (k + 1) (St.done { t with l := l }) := by
  obtain ⟨h1, h2⟩ := h
  refine ⟨?_, ?_⟩
  · show (if 0 < t.left then t.left - 1 else t.left) = -1
    rw [h1]; decide
  · show t.acts + 1 ≤ k + 1
    omega
theorem Calm.with {k : Nat} {t : St} (h : Calm k t) (n : List UInt8) (K : Ent → Int × St) (hK : ∀ f, Calm (k + 1) (K f).2) : Calm (k + 1) (t.with n K).2 := by
  unfold St.with
  split
  · exact h.up
  · split
    · exact h.up
    · exact hK _
theorem Calm.sync {k : Nat} {t : St} (h : Calm k t) (n : List UInt8) : Calm (k + 1) (t.sync n).2 := h.with _ _ fun _ => h.done _
theorem Calm.remove {k : Nat} {t : St} (h : Calm k t) (n : List UInt8) : Calm (k + 1) (t.remove n).2 := h.with _ _ fun _ => h.done _
theorem Calm.truncate {k : Nat} {t : St} (h : Calm k t) (n : List UInt8) (x : Int) : Calm (k + 1) (t.truncate n x).2 := h.with _ _ fun f => by
  split
  · exact h.up
  · exact h.done _
theorem Calm.rename {k : Nat} {t : St} (h : Calm k t) (o n : List UInt8) : Calm (k + 1) (t.rename o n).2 := h.with _ _ fun f => by
  split
  · exact h.up
  · exact h.done _
theorem Calm.append {k : Nat} {t : St} (h : Calm k t) (n bs : List UInt8) : Calm (k + 1) (t.append n bs).2 := by
  unfold St.append
  split
  · exact h.up
  split
  · exact h.up
  split
  · split
    · exact h.up
    · exact h.done _
  · split
    · exact h.up
    · split
      · exact h.up
      · exact h.done _
theorem crashL_length : ∀ (l : List Ent) (ks : List Int), (crashL l ks).length = l.length
  | [], _ => rfl
  | f :: r, ks => by
    unfold crashL
    split
    · simp [crashL_length r]
    · simp [crashL_length r]
theorem crashL_at : ∀ (l : List Ent) (ks : List Int), (∀ f ∈ l, f.s ≤ f.b.length) → ∀ (j : Nat) (f : Ent), l[j]? = some f → ∃ m, f.s ≤ m ∧ m ≤ f.b.length ∧ (crashL l ks)[j]? = some ⟨f.name, f.b.take m, m⟩ ∧ (f.b.length ≤ f.s → m = f.b.length)
  | [], _, _, j, f, h => by simp at h
  | x :: r, ks, hs, j, f, h => by
    have hx := hs x List.mem_cons_self
    unfold crashL
    cases j with
    | zero =>
      have e : x = f := by simpa using h
      subst e
      split
      · rename_i hle
        refine ⟨x.s, Nat.le_refl _, hx, ?_, fun _ => by omega⟩
        have : x.b.take x.s = x.b := List.take_of_length_le hle
        simp [this]
      · rename_i hle
        have := keptOf_le ks (x.b.length - x.s)
        exact ⟨x.s + keptOf ks (x.b.length - x.s), by omega, by omega, by simp, fun h => absurd h hle⟩
    | succ j =>
      have h' : r[j]? = some f := by simpa using h
      split
      · obtain ⟨m, h1, h2, h3, h4⟩ := crashL_at r ks (fun y hy => hs y (List.mem_cons_of_mem _ hy)) j f h'
        exact ⟨m, h1, h2, by simpa using h3, h4⟩
      · obtain ⟨m, h1, h2, h3, h4⟩ := crashL_at r ks.tail (fun y hy => hs y (List.mem_cons_of_mem _ hy)) j f h'
        exact ⟨m, h1, h2, by simpa using h3, h4⟩
/-- what is known of the files ahead of the k-th crash: S: so many bytes of each were safe. -/
structure Known (k : Nat) (S : List Nat) (ns : List (List UInt8)) (l : List Ent) : Prop where
  len : S.length = l.length
  nm : l.map Ent.name = ns
  safe : ∀ j f, l[j]? = some f → S.getD j 0 ≤ f.s
  syn : ∀ f ∈ l, f.s ≤ f.b.length
  all : 0 < k → ∀ f ∈ l, f.b.length ≤ f.s
theorem Known.start {l : List Ent} (h : ∀ f ∈ l, f.s ≤ f.b.length) : Known 0 (l.map Ent.s) (l.map Ent.name) l :=
  ⟨by simp, rfl, fun j f hj => by simp [List.getD, hj], h, fun h => by cases h⟩
theorem Known.fall {k : Nat} {S : List Nat} {ns : List (List UInt8)} {l : List Ent} (h : Known k S ns l) (ks : List Int) : ∀ j f, l[j]? = some f → ∃ m, S.getD j 0 ≤ m ∧ m ≤ f.b.length ∧ (crashL l ks)[j]? = some ⟨f.name, f.b.take m, m⟩ ∧ (0 < k → m = f.b.length) := by
  intro j f hj
  obtain ⟨m, h1, h2, h3, h4⟩ := crashL_at l ks h.syn j f hj
  exact ⟨m, Nat.le_trans (h.safe j f hj) h1, h2, h3, fun hk => h4 (h.all hk f (List.mem_of_getElem? hj))⟩
theorem Known.next {k : Nat} {S : List Nat} {ns : List (List UInt8)} {l : List Ent} (h : Known k S ns l) (ks : List Int) : Known (k + 1) S ns (crashL l ks) := by
  have key : ∀ j f', (crashL l ks)[j]? = some f' → ∃ f m, l[j]? = some f ∧ S.getD j 0 ≤ m ∧ m ≤ f.b.length ∧ f' = ⟨f.name, f.b.take m, m⟩ := by
    intro j f' hj
    have hlt : j < l.length := by rw [← crashL_length l ks]; exact (List.getElem?_eq_some_iff.1 hj).1
    obtain ⟨m, h1, h2, h3, _⟩ := h.fall ks j l[j] (List.getElem?_eq_getElem hlt)
    rw [hj] at h3
    exact ⟨l[j], m, List.getElem?_eq_getElem hlt, h1, h2, Option.some.inj h3⟩
  have mem : ∀ f' ∈ crashL l ks, f'.b.length = f'.s := by
    intro f' hf
    obtain ⟨j, hj⟩ := List.getElem?_of_mem hf
    obtain ⟨f, m, _, _, h2, rfl⟩ := key j f' hj
    simp; omega
  refine ⟨by rw [crashL_length, h.len], ?_, ?_, fun f hf => by rw [mem f hf]; exact Nat.le_refl _, fun _ f hf => by rw [mem f hf]; exact Nat.le_refl _⟩
  · rw [← h.nm]
    apply List.ext_getElem?
    intro j
    rw [List.getElem?_map, List.getElem?_map]
    by_cases hlt : j < l.length
    · obtain ⟨m, h1, h2, h3, _⟩ := h.fall ks j l[j] (List.getElem?_eq_getElem hlt)
      rw [h3, List.getElem?_eq_getElem hlt]; rfl
    · rw [List.getElem?_eq_none (by rw [crashL_length]; omega), List.getElem?_eq_none (by omega)]
  · intro j f' hj
    obtain ⟨f, m, _, h1, h2, rfl⟩ := key j f' hj
    exact h1
theorem set_step {α : Type} (A A' : List α) (hl : A'.length = A.length) (j : Nat) (x : α) (hx : A'[j]? = some x) : (A'.take j ++ A.drop j).set j x = A'.take (j + 1) ++ A.drop (j + 1) := by
  obtain ⟨hj, rfl⟩ := List.getElem?_eq_some_iff.1 hx
  have hj2 : j < A.length := by omega
  rw [List.set_append_right _ _ (by simp; omega), List.take_succ_eq_append_getElem hj, List.drop_eq_getElem_cons hj2]
  have : j - (A'.take j).length = 0 := by simp; omega
  rw [this, ← List.drop_eq_getElem_cons hj2, List.drop_eq_getElem_cons hj2, List.set_cons_zero, List.append_assoc]
  rfl
theorem mid_at {α : Type} (A A' : List α) (hl : A'.length = A.length) (j : Nat) (x : α) (hx : A[j]? = some x) : (A'.take j ++ A.drop j)[j]? = some x := by
  obtain ⟨hj, rfl⟩ := List.getElem?_eq_some_iff.1 hx
  rw [List.getElem?_append_right (by simp; omega), List.getElem?_drop]
  have : j + (j - (A'.take j).length) = j := by simp; omega
  rw [this]
  exact hx
theorem mid_length {α : Type} (A A' : List α) (hl : A'.length = A.length) (j : Nat) (hj : j ≤ A.length) : (A'.take j ++ A.drop j).length = A.length := by
  simp; omega
end filesCrash
end Go.Proofs.Ytinnegkkfaaceaa
