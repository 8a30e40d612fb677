/- What a store tells whoever opens a log of a prefix; each step of opening leaves that. Plain mathematics. -/
import Derived.Test.YtihgikekkgoddaaGreatDoorZLM
namespace Go.Proofs.YtihgikekkgoddaaGreatDoor
open Sto

theorem look_ins {f : Ent} {n : List UInt8} : ∀ {l : List Ent}, (∀ x ∈ l, x.name ≠ f.name) → lookE n (insE f l) = if n = f.name then some f else lookE n l
  | [], _ => by
    unfold insE lookE
    by_cases h : n = f.name
    · simp [h]
    · have h' : ¬ f.name = n := fun e => h e.symm
      simp [h, h']
  | g :: r, hne => by
    have ih := look_ins (n := n) (l := r) (f := f) fun x hx => hne x (List.mem_cons_of_mem _ hx)
    have hg := hne g List.mem_cons_self
    unfold insE
    split
    · unfold lookE
      by_cases h : n = f.name
      · simp [h]
      · have h' : ¬ f.name = n := fun e => h e.symm
        simp [h, h']
    · unfold lookE at ih ⊢
      rw [List.find?_cons, List.find?_cons]
      by_cases h : g.name = n
      · have h2 : ¬ n = f.name := fun e => hg (h.trans e)
        simp [h, h2]
      · have h3 : (g.name == n) = false := by simpa using h
        rw [h3]
        simp only
        exact ih
theorem look_del {n m : List UInt8} (l : List Ent) : lookE n (delE m l) = if n = m then none else lookE n l := by
  induction l with
  | nil => unfold lookE delE; simp
  | cons g r ih =>
    unfold lookE delE at *
    by_cases h : g.name = m
    · rw [List.filter_cons_of_neg (by simp [h]), ih]
      by_cases h2 : n = m
      · simp [h2]
      · have h3 : (g.name == n) = false := by rw [h]; simpa using fun e => h2 e.symm
        rw [if_neg h2, if_neg h2, List.find?_cons, h3]
    · rw [List.filter_cons_of_pos (by simpa using h), List.find?_cons, List.find?_cons]
      by_cases h2 : g.name = n
      · have h3 : ¬ n = m := fun e => h (h2.trans e)
        simp [h2, h3]
      · have h3 : (g.name == n) = false := by simpa using h2
        rw [h3]
        simp only
        exact ih
theorem look_put (f : Ent) (n : List UInt8) (l : List Ent) : lookE n (putE f l) = if n = f.name then some f else lookE n l := by
  unfold putE
  rw [look_ins (fun x hx => (mem_delE.1 hx).2), look_del]
  by_cases h : n = f.name
  · rw [if_pos h, if_pos h]
  · rw [if_neg h, if_neg h, if_neg h]
theorem look_none {n : List UInt8} {t : St} : lookE n t.l = none ↔ n ∉ namesOf t := by
  rw [mem_names]
  unfold lookE
  rw [List.find?_eq_none]
  constructor
  · rintro h ⟨f, hf, e⟩
    exact h f hf (by simp [e])
  · intro h f hf e
    exact h ⟨f, hf, by simpa using e⟩
theorem look_some_of {n : List UInt8} {t : St} (h : n ∈ namesOf t) : ∃ f, lookE n t.l = some f := by
  cases e : lookE n t.l with
  | none => exact absurd h (look_none.1 e)
  | some f => exact ⟨f, rfl⟩
theorem len_ins (f : Ent) : ∀ l : List Ent, (insE f l).length = l.length + 1
  | [] => rfl
  | g :: r => by
    unfold insE
    split
    · rfl
    · simp [len_ins f r]
theorem len_del (n : List UInt8) (l : List Ent) : (delE n l).length ≤ l.length := List.length_filter_le _ _
theorem len_put (f : Ent) (l : List Ent) : (putE f l).length ≤ l.length + 1 := by
  unfold putE
  rw [len_ins]
  have := len_del f.name l
  omega
theorem len_put_old {f : Ent} {l : List Ent} (h : ∃ x ∈ l, x.name = f.name) : (putE f l).length ≤ l.length := by
  unfold putE
  rw [len_ins]
  obtain ⟨x, hx, e⟩ := h
  have : (delE f.name l).length < l.length := by
    unfold delE
    refine List.length_filter_lt_length_iff_exists.2 ⟨x, hx, by simp [e]⟩
  omega

/-- the store tells, under the prefix: the number N, its snapshot S; its log's bytes are X, of which s are synced. K files at most. -/
structure RS (p : List UInt8) (t : St) (N : Nat) (S X : List UInt8) (s K : Nat) : Prop where
  len : p.length ≤ 16
  good : Good p (namesOf t)
  top : ∀ q : Part, q.ok → nameOf p q ∈ namesOf t → q.kind ≠ kNew → q.num ≤ N
  small : N < 90
  snap : (N = 0 ∧ S = []) ∨ (1 ≤ N ∧ S.length ≤ 65536 ∧ ∃ f, lookE (nameOf p (pSnap N)) t.l = some f ∧ f.b = enc S ∧ f.s = (enc S).length)
  log : (lookE (nameOf p (pLog N)) t.l = none ∧ X = [] ∧ s = 0) ∨ ∃ f, lookE (nameOf p (pLog N)) t.l = some f ∧ f.b = X ∧ f.s = s
  few : t.l.length ≤ K
theorem ne_snap_log {p : List UInt8} {n m : Nat} (hn0 : 1 ≤ n) (hn : n < 100) (hm : m < 100) : nameOf p (pSnap n) ≠ nameOf p (pLog m) := fun e => by
  have := nameOf_inj (ok_snap hn0 hn) (ok_log hm) e
  exact log_ne_snap (congrArg Part.kind this).symm
theorem ne_snap_new {p : List UInt8} {n : Nat} (hn0 : 1 ≤ n) (hn : n < 100) : nameOf p (pSnap n) ≠ nameOf p pNew := fun e => by
  have := nameOf_inj (ok_snap hn0 hn) ok_new e
  exact snap_ne_new (congrArg Part.kind this)
theorem ne_log_new {p : List UInt8} {n : Nat} (hn : n < 100) : nameOf p (pLog n) ≠ nameOf p pNew := fun e => by
  have := nameOf_inj (ok_log hn) ok_new e
  exact log_ne_new (congrArg Part.kind this)
/-- another store in which the log's two files are the same. -/
theorem RS.same {p : List UInt8} {t t' : St} {N : Nat} {S X : List UInt8} {s K K' : Nat} (h : RS p t N S X s K) (hn : ∀ n ∈ namesOf t', n ∈ namesOf t) (h1 : 1 ≤ N → lookE (nameOf p (pSnap N)) t'.l = lookE (nameOf p (pSnap N)) t.l) (h2 : lookE (nameOf p (pLog N)) t'.l = lookE (nameOf p (pLog N)) t.l) (hk : t'.l.length ≤ K') : RS p t' N S X s K' :=
  ⟨h.len, h.good.sub hn, fun q hq hm => h.top q hq (hn _ hm), h.small, h.snap.imp id (fun ⟨a, b, f, c, d⟩ => ⟨a, b, f, (h1 a).trans c, d⟩), h.log.imp (fun ⟨a, b⟩ => ⟨h2.trans a, b⟩) (fun ⟨f, a, b⟩ => ⟨f, h2.trans a, b⟩), hk⟩
theorem RS.mono {p : List UInt8} {t : St} {N : Nat} {S X : List UInt8} {s K K' : Nat} (h : RS p t N S X s K) (hk : K ≤ K') : RS p t N S X s K' := ⟨h.len, h.good, h.top, h.small, h.snap, h.log, Nat.le_trans h.few hk⟩
/-- only the power can fail. -/
def Fails (t' : St) (r : Int) : Prop := r ≠ 0 → r = 30 ∧ t'.left = 0
theorem remove_in {t t' : St} {n : List UInt8} {r : Int} (hin : n ∈ namesOf t) (h : t.remove n = (r, t')) : (t' = t ∧ r = 30 ∧ t.left = 0) ∨ (r = 0 ∧ t.left ≠ 0 ∧ t'.l = delE n t.l ∧ t'.left = (t.done).left) := by
  obtain ⟨f, hf⟩ := look_some_of hin
  unfold St.remove St.with at h
  by_cases h0 : t.left = 0
  · rw [if_pos h0] at h; cases h; exact .inl ⟨rfl, rfl, h0⟩
  · rw [if_neg h0, hf] at h
    simp only at h
    cases h
    exact .inr ⟨rfl, h0, rfl, rfl⟩
theorem RS.dropNew {p : List UInt8} {t t' : St} {N : Nat} {S X : List UInt8} {s K : Nat} {r : Int} (h : RS p t N S X s K) (ht : dropNewA p t = (r, t')) : RS p t' N S X s K ∧ Fails t' r ∧ (r = 0 → lookE (nameOf p pNew) t'.l = none) := by
  unfold dropNewA at ht
  have hs := h.small
  split at ht
  · rename_i hin
    rcases remove_in hin ht with ⟨rfl, rfl, h0⟩ | ⟨rfl, h0, hl, _⟩
    · exact ⟨h, fun _ => ⟨rfl, h0⟩, fun e => by omega⟩
    · refine ⟨h.same (fun n hn => names_del hl hn) (fun h1 => ?_) ?_ (by rw [hl]; exact Nat.le_trans (len_del _ _) h.few), fun e => absurd rfl e, fun _ => ?_⟩
      · rw [hl, look_del, if_neg (ne_snap_new h1 (by omega))]
      · rw [hl, look_del, if_neg (ne_log_new (by omega))]
      · rw [hl, look_del, if_pos rfl]
  · rename_i hin
    cases ht
    exact ⟨h, fun e => absurd rfl e, fun _ => look_none.2 hin⟩
theorem read_in {t : St} {n : List UInt8} {f : Ent} (hf : lookE n t.l = some f) (h0 : t.left ≠ 0) : t.read n = (f.b, 0) := by
  unfold St.read; rw [if_neg h0, hf]
theorem read_dead {t : St} {n : List UInt8} (h0 : t.left = 0) : t.read n = ([], 30) := by unfold St.read; rw [if_pos h0]
/-- the newest snapshot. -/
theorem new_live {p : List UInt8} {t : St} {N : Nat} {S : List UInt8} (h0 : t.left ≠ 0) {f : Ent} (hf : lookE (nameOf p (pSnap N)) t.l = some f) (hb : f.b = enc S) (hS : S.length ≤ 65536) :
    ∀ (l : List (List UInt8 × Part)) (n : Nat) (s : List UInt8), (∀ x ∈ l, x.1 ∈ namesOf t ∧ x.2.ok ∧ x.1 = nameOf p x.2) → (∀ x ∈ l, x.2.kind = kSnap → x.2.num ≤ N) → ((n = N ∧ s = S) ∨ (n < N ∧ (nameOf p (pSnap N), pSnap N) ∈ l)) → newF t l n s = (0, N, S)
  | [], n, s, _, _, h => by
    rcases h with ⟨rfl, rfl⟩ | ⟨_, h⟩
    · rfl
    · cases h
  | (nm, q) :: r, n, s, hin, htop, h => by
    have hin' : ∀ x ∈ r, x.1 ∈ namesOf t ∧ x.2.ok ∧ x.1 = nameOf p x.2 := fun x hx => hin x (List.mem_cons_of_mem _ hx)
    have htop' : ∀ x ∈ r, x.2.kind = kSnap → x.2.num ≤ N := fun x hx => htop x (List.mem_cons_of_mem _ hx)
    obtain ⟨hi1, hi2, hi3⟩ := hin (nm, q) List.mem_cons_self
    simp only at hi1 hi2 hi3
    unfold newF
    by_cases hA : q.kind ≠ kSnap ∨ q.num < n
    · rw [if_pos hA]
      refine new_live h0 hf hb hS r n s hin' htop' ?_
      rcases h with h | ⟨h1, h2⟩
      · exact .inl h
      · rcases List.mem_cons.1 h2 with e | h2
        · exfalso
          have eq : q = pSnap N := (congrArg Prod.snd e).symm
          rcases hA with hA | hA
          · rw [eq] at hA; exact hA rfl
          · rw [eq] at hA; have : N < n := hA; omega
        · exact .inr ⟨h1, h2⟩
    · rw [if_neg hA]
      have hk : q.kind = kSnap := Classical.not_not.1 fun h' => hA (.inl h')
      have hq : ¬ q.num < n := fun h' => hA (.inr h')
      have hqN := htop (nm, q) List.mem_cons_self hk
      simp only at hqN
      obtain ⟨f', hf'⟩ := look_some_of hi1
      rw [read_in hf' h0, if_neg (by simp)]
      by_cases hqe : q.num = N
      · have eq : q = pSnap N := by obtain ⟨k1, n1⟩ := q; simp only at hk hqe; rw [hk, hqe]; rfl
        subst eq
        rw [hi3] at hf'
        rw [hf'] at hf
        cases hf
        simp only [hb, one_enc hS]
        exact new_live h0 hf' hb hS r _ _ hin' htop' (.inl ⟨hqe, rfl⟩)
      · have hlt : (nameOf p (pSnap N), pSnap N) ∈ r ∧ n < N := by
          rcases h with ⟨rfl, _⟩ | ⟨h1, h2⟩
          · omega
          · refine ⟨?_, h1⟩
            rcases List.mem_cons.1 h2 with e | h2
            · have eq : q = pSnap N := (congrArg Prod.snd e).symm
              rw [eq] at hqe; exact absurd rfl hqe
            · exact h2
        cases ho : one f'.b with
        | none => simp only; exact new_live h0 hf hb hS r n s hin' htop' (.inr ⟨hlt.2, hlt.1⟩)
        | some s' => simp only; exact new_live h0 hf hb hS r q.num s' hin' htop' (.inr ⟨by omega, hlt.1⟩)
/-- without snapshots there is none. -/
theorem new_none {t : St} : ∀ (l : List (List UInt8 × Part)) (n : Nat) (s : List UInt8), (∀ x ∈ l, x.2.kind ≠ kSnap) → newF t l n s = (0, n, s)
  | [], _, _, _ => rfl
  | (nm, q) :: r, n, s, h => by
    unfold newF
    rw [if_pos (.inl (h (nm, q) List.mem_cons_self))]
    exact new_none r n s fun x hx => h x (List.mem_cons_of_mem _ hx)
/-- where the power is gone a snapshot can't be read. -/
theorem new_dead {t : St} (h0 : t.left = 0) : ∀ (l : List (List UInt8 × Part)) (s : List UInt8), (∃ x ∈ l, x.2.kind = kSnap) → (newF t l 0 s).1 = 30
  | [], s, h => by obtain ⟨x, hx, _⟩ := h; cases hx
  | (nm, q) :: r, s, h => by
    unfold newF
    by_cases hk : q.kind = kSnap
    · rw [if_neg (by simp [hk]), read_dead h0]
      simp
    · rw [if_pos (.inl hk)]
      refine new_dead h0 r s ?_
      obtain ⟨x, hx, e⟩ := h
      rcases List.mem_cons.1 hx with rfl | hx
      · exact absurd e hk
      · exact ⟨x, hx, e⟩
theorem RS.newest {p : List UInt8} {t : St} {N : Nat} {S X : List UInt8} {s K : Nat} (h : RS p t N S X s K) {r : Int} {n : Nat} {s' : List UInt8} (ht : newF t (ownT p t) 0 [] = (r, n, s')) : (r = 0 → n = N ∧ s' = S) ∧ Fails t r := by
  have hsm := h.small
  have hmem : ∀ x ∈ ownT p t, x.1 ∈ namesOf t ∧ x.2.ok ∧ x.1 = nameOf p x.2 := fun x hx => mem_own.1 hx
  have htop : ∀ x ∈ ownT p t, x.2.kind = kSnap → x.2.num ≤ N := fun x hx hk => by
    obtain ⟨h1, h2, h3⟩ := hmem x hx
    exact h.top x.2 h2 (by rw [← h3]; exact h1) (by rw [hk]; exact snap_ne_new)
  rcases h.snap with ⟨rfl, rfl⟩ | ⟨h1, h2, f, h3, h4, _⟩
  · have : newF t (ownT p t) 0 [] = (0, 0, []) := new_none _ _ _ fun x hx hk => by
      have h5 := htop x hx hk
      rcases ok_cases (hmem x hx).2.1 with e | ⟨n, _, e⟩ | ⟨n, hn, _, e⟩
      · rw [e] at hk; exact snap_ne_new hk.symm
      · rw [e] at hk; exact log_ne_snap hk
      · rw [e] at h5; have : n ≤ 0 := h5; omega
    rw [this] at ht
    cases ht
    exact ⟨fun _ => ⟨rfl, rfl⟩, fun e => absurd rfl e⟩
  · have hin : (nameOf p (pSnap N), pSnap N) ∈ ownT p t := mem_own.2 ⟨by
      rw [mem_names]; exact ⟨f, (look_name h3).2, (look_name h3).1⟩, ok_snap h1 (by omega), rfl⟩
    by_cases h0 : t.left = 0
    · have := new_dead h0 (ownT p t) [] ⟨_, hin, rfl⟩
      rw [ht] at this
      simp only at this
      exact ⟨fun e => by omega, fun _ => ⟨this, h0⟩⟩
    · have := new_live h0 h3 h4 h2 (ownT p t) 0 [] hmem htop (.inr ⟨by omega, hin⟩)
      rw [this] at ht
      cases ht
      exact ⟨fun _ => ⟨rfl, rfl⟩, fun e => absurd rfl e⟩
end Go.Proofs.YtihgikekkgoddaaGreatDoor
