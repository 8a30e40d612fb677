/- What All tells beside what Tell tells, in one contract. -/
import Derived.Test.YtlggdeadkebgiaaG9
namespace Go.Proofs.Ytlggdeadkebgiaa
open Go.RowKit Go.Shelf

/-- the rows that are told, by what All told: its tokens, or its place and error. -/
structure TellRows (r : List (Tk × Nat)) (L : List Tk) (p E : Nat) : Prop where
  ok : E = 0 → r = L.map fun x => (x, 0)
  bad : E ≠ 0 → ∃ l : List Tk, r = l.map (fun x => (x, 0)) ++ [(⟨0, [], p⟩, E)]
theorem TellRows.at {r : List (Tk × Nat)} {L : List Tk} {p E : Nat} (h : TellRows r L p E) {k : Nat} {x : Tk} {e : Nat} (hx : r[k]? = some (x, e)) :
    (e = 0 ∧ (E = 0 → L[k]? = some x) ∧ (E ≠ 0 → k + 1 < r.length)) ∨ (e = E ∧ E ≠ 0 ∧ x = ⟨0, [], p⟩ ∧ k + 1 = r.length) := by
  by_cases hE : E = 0
  · left
    have hr := h.ok hE
    rw [hr, List.getElem?_map] at hx
    cases hy : L[k]? with
    | none => rw [hy] at hx; cases hx
    | some y =>
      rw [hy] at hx
      simp at hx
      obtain ⟨rfl, rfl⟩ := hx
      exact ⟨rfl, fun _ => rfl, fun h => absurd hE h⟩
  · obtain ⟨l, hr⟩ := h.bad hE
    rw [hr] at hx
    by_cases hk : k < l.length
    · left
      rw [List.getElem?_append_left (by simpa using hk), List.getElem?_map, List.getElem?_eq_getElem hk] at hx
      simp at hx
      obtain ⟨rfl, rfl⟩ := hx
      exact ⟨rfl, fun h => absurd h hE, fun _ => by rw [hr]; simp; omega⟩
    · right
      rw [List.getElem?_append_right (by simpa using hk)] at hx
      simp only [List.length_map] at hx
      have hk1 : k - l.length = 0 := by
        have := (List.getElem?_eq_some_iff.1 hx).1
        simp at this
        omega
      rw [hk1] at hx
      simp at hx
      obtain ⟨rfl, rfl⟩ := hx
      exact ⟨rfl, hE, rfl, by rw [hr]; simp; omega⟩
theorem TellRows.len {r : List (Tk × Nat)} {L : List Tk} {p E : Nat} (h : TellRows r L p E) : (E = 0 → L.length = r.length) ∧ (E ≠ 0 → 0 < r.length) := by
  constructor
  · intro hE
    rw [h.ok hE]; simp
  · intro hE
    obtain ⟨l, hr⟩ := h.bad hE
    rw [hr]; simp
theorem all_tell (s : Tx) (r : List (Tk × Nat)) (hr : TellOf s r) (w : World) (hs : s.length ≤ 35184372088832) : Calls Try.prog 10 #[str s] w fun e w' => ∃ (L : List Tk) (p E : Nat) (a : Option Addr) (c : Nat), e = .returned (.tuple #[.slice a L.length c, .int .i64 (p : Int), .int .i64 (E : Int)]) ∧ OwnT w.heap.size w' (.slice a L.length c) L ∧ Below w.heap.size w w' ∧ TellRows r L p E ∧ E ≤ 1000 ∧ p ≤ 4096 ∧ L.length ≤ 4096 := by
  rcases hr with ⟨h, rfl⟩ | ⟨h, l, b, hsc, rfl⟩
  · refine (all_long s w h hs).mono ?_
    rintro e w' ⟨rfl, hb⟩
    exact ⟨[], 0, 3, none, 0, rfl, ownT_nil _ _, hb, ⟨(fun h => by omega), fun _ => ⟨[], rfl⟩⟩, by omega, by omega, by simp⟩
  · obtain ⟨m1, _, m3⟩ := scan_mem hsc
    cases b with
    | some p =>
      refine (all_bad s w hsc h).mono ?_
      rintro e w' ⟨rfl, hb⟩
      exact ⟨[], p, 90, none, 0, rfl, ownT_nil _ _, hb, ⟨(fun h => by omega), fun _ => ⟨l, rfl⟩⟩, by omega, by have := m3 p rfl; omega, by simp⟩
    | none =>
      refine (all_ok s w hsc h).mono ?_
      rintro e w' ⟨a, c, rfl, ho, hb⟩
      exact ⟨l, 0, 0, a, c, rfl, ho, hb, ⟨(fun _ => by simp [told, bads]), (fun h => absurd rfl h)⟩, by omega, by omega, by omega⟩
end Go.Proofs.Ytlggdeadkebgiaa
