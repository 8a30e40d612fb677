/- The document's small functions of expr: its tables, is, window. -/
import Derived.Test.YtjhodmpgggaknaaGreatDoorZGM
import Derived.Test.YtjhodmpgggaknaaGreatDoorZGE
import Derived.Test.YtjhodmpgggaknaaGreatDoorZTD
namespace Go.Proofs.YtjhodmpgggaknaaGreatDoor
open Go.RowKit Go.Shelf Go.Maps

/-- does a token stand there? -/
def isK (k : Nat) (t : Tx) : List Key → Bool
  | [] => false
  | x :: _ => x.1 == k && (x.2 == t || t == [42])
def kat (l : List Tk) (i : Nat) : List Key := keysT (l.drop i)
theorem kat_cons {l : List Tk} {i : Nat} {x : Tk} (hx : l[i]? = some x) : kat l i = x.key :: kat l (i + 1) := by
  obtain ⟨hi, e⟩ := List.getElem?_eq_some_iff.1 hx
  unfold kat keysT
  rw [List.drop_eq_getElem_cons hi, e]
  rfl
theorem kat_end {l : List Tk} {i : Nat} (hi : l.length ≤ i) : kat l i = [] := by
  unfold kat keysT
  rw [List.drop_eq_nil_of_le hi]
  rfl
theorem kat_len (l : List Tk) (i : Nat) : (kat l i).length = l.length - i := by simp [kat, keysT]
theorem isK_yes {l : List Tk} {i k : Nat} {t : Tx} (h : isK k t (kat l i) = true) : ∃ x, l[i]? = some x ∧ i < l.length ∧ x.kind = k ∧ (x.text = t ∨ t = [42]) ∧ kat l i = (k, x.text) :: kat l (i + 1) := by
  by_cases hi : i < l.length
  · have hx := List.getElem?_eq_getElem hi
    have e := kat_cons hx
    rw [e] at h
    simp [isK, Tk.key] at h
    refine ⟨_, hx, hi, h.1, h.2, ?_⟩
    rw [e, ← h.1]
    rfl
  · rw [kat_end (by omega)] at h
    cases h
theorem isK_sign {l : List Tk} {i k : Nat} {t : Tx} (h : isK k t (kat l i) = true) (ht : t ≠ [42]) : i < l.length ∧ kat l i = (k, t) :: kat l (i + 1) := by
  obtain ⟨x, _, h2, _, h4, h5⟩ := isK_yes h
  rcases h4 with e | e
  · rw [h5, e]; exact ⟨h2, rfl⟩
  · exact absurd e ht
theorem isK_no {k : Nat} {t : Tx} {ks : List Key} (h : isK k t ks = false) : ∀ r, ks ≠ (k, t) :: r := fun r e => by
  rw [e] at h
  simp [isK] at h
theorem isK_star {k : Nat} {ks : List Key} (h : isK k [42] ks = false) : ∀ y r, ks ≠ (k, y) :: r := fun y r e => by
  rw [e] at h
  simp [isK] at h
set_option maxRecDepth 100000 in
set_option maxHeartbeats 1000000 in
theorem is_any {w : World} {v : Value} {l : List Tk} (h : IsDs w v l) (i k : Nat) (t : Tx) : Calls Tryz.prog 62 #[v, .int .i64 (i : Int), .int .u8 (k : Int), str t] w fun e w' => e = .returned (.bool (isK k t (kat l i))) ∧ ∃ n, w' = w.drewN n := by
  obtain ⟨a, c, rfl⟩ := h.slice
  by_cases hi : i < l.length
  · obtain ⟨b, off, rfl, hc⟩ := h.at hi
    obtain ⟨x, hx⟩ : ∃ x, l[i]? = some x := ⟨_, List.getElem?_eq_getElem hi⟩
    obtain ⟨c0, c1, -, -⟩ := hc i x hx
    have hk := kat_cons hx
    have hi' : (i : Int) < (l.length : Int) := by omega
    have hi0 : (0 : Int) ≤ (i : Int) := by omega
    unfold kv str at *
    clear hc hx h
    by_cases e1 : x.kind = k
    · have q1 : ((x.kind : Int) == (k : Int)) = true := by simp [e1]
      by_cases e2 : x.text = t
      · have q2 : (x.text == t) = true := by simp [e2]
        have hr : Hid (isK k t (kat l i) = true) := by show _ = _; rw [hk]; simp [isK, Tk.key, e1, e2]
        generalize isK k t (kat l i) = r at *
        obtain rfl := hr.out
        clear hr e1 e2 hk
        go_enter Tryz.func62, Tryz.ntmps62
        go_wp2
        go_ret
        exact ⟨rfl, 0, rfl⟩
      · have q2 : (x.text == t) = false := by simp [e2]
        have hr : Hid (isK k t (kat l i) = (t == [42])) := by show _ = _; rw [hk]; simp [isK, Tk.key, e1, e2]
        generalize isK k t (kat l i) = r at *
        obtain rfl := hr.out
        clear hr e1 e2 hk
        go_enter Tryz.func62, Tryz.ntmps62
        go_wp2
        go_ret
        exact ⟨rfl, 0, rfl⟩
    · have q1 : ((x.kind : Int) == (k : Int)) = false := by simp; omega
      have hr : Hid (isK k t (kat l i) = false) := by show _ = _; rw [hk]; simp [isK, Tk.key, e1]
      generalize isK k t (kat l i) = r at *
      obtain rfl := hr.out
      clear hr e1 hk
      go_enter Tryz.func62, Tryz.ntmps62
      go_wp2
      go_ret
      exact ⟨rfl, 0, rfl⟩
  · have hi' : decide ((i : Int) < (l.length : Int)) = false := decide_eq_false (by omega)
    have hr : Hid (isK k t (kat l i) = false) := by show _ = _; rw [kat_end (by omega)]; rfl
    generalize isK k t (kat l i) = r at *
    obtain rfl := hr.out
    clear hr h
    unfold str
    go_enter Tryz.func62, Tryz.ntmps62
    go_wp2
    go_ret
    exact ⟨rfl, 0, rfl⟩
theorem is_low {w : World} {v : Value} {l : List Tk} (h : IsDs w v l) (i k : Nat) (t : Tx) : Calls Tryz.prog 62 #[v, .int .i64 (i : Int), .int .u8 (k : Int), .string ⟨t.toArray⟩] w fun e w' => e = .returned (.bool (isK k t (kat l i))) ∧ Below w.heap.size w w' := (is_any h i k t).mono (by
  rintro e w' ⟨rfl, n, rfl⟩
  exact ⟨rfl, below_drewN (Below.refl _ _)⟩)
/-- the tables. -/
def opS3 (n : Nat) : Tx := match n with
  | 0 => [61]
  | 1 => [33, 61]
  | 2 => [94, 61]
  | _ => []
set_option maxRecDepth 100000 in
set_option maxHeartbeats 1000000 in
theorem op_any (n : Nat) (hn : n < 3) (w : World) : Calls Tryz.prog 130 #[.int .i64 (n : Int)] w fun e w' => e = .returned (str (opS3 n)) ∧ Below w.heap.size w w' := by
  match n, hn with
  | 0, _ | 1, _ | 2, _ =>
    unfold str opS3
    go_enter Tryz.func130, Tryz.ntmps130
    go_wp2
    go_ret
    exact ⟨rfl, alloc_below _ _⟩
set_option maxRecDepth 100000 in
set_option maxHeartbeats 1000000 in
theorem agg_any (n : Nat) (hn : n < 6) (w : World) : Calls Tryz.prog 27 #[.int .i64 (n : Int)] w fun e w' => e = .returned (str (aggS n)) ∧ Below w.heap.size w w' := by
  match n, hn with
  | 0, _ | 1, _ | 2, _ | 3, _ | 4, _ | 5, _ =>
    unfold str aggS
    go_enter Tryz.func27, Tryz.ntmps27
    go_wp2
    go_ret
    exact ⟨rfl, alloc_below _ _⟩
set_option maxRecDepth 100000 in
set_option maxHeartbeats 1000000 in
theorem rcmp_any (n : Nat) (hn : n < 6) (w : World) : Calls Tryz.prog 30 #[.int .i64 (n : Int)] w fun e w' => e = .returned (str (cmpS n)) ∧ Below w.heap.size w w' := by
  match n, hn with
  | 0, _ | 1, _ | 2, _ | 3, _ | 4, _ | 5, _ =>
    unfold str cmpS
    go_enter Tryz.func30, Tryz.ntmps30
    go_wp2
    go_ret
    exact ⟨rfl, alloc_below _ _⟩
end Go.Proofs.YtjhodmpgggaknaaGreatDoor
