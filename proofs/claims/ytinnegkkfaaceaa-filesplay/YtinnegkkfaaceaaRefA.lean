/- Contracts of the document's store: New, Find, Dead, refuse, act, Power. -/
import Derived.Test.YtinnegkkfaaceaaRefP
namespace Go.Proofs.Ytinnegkkfaaceaa
open Go.RowKit Go.Maps Go.MapKept Go.Shelf

def R0 : Rs := ⟨.slice none 0 0, [], 0, -1⟩
theorem rnew (w : World) : Calls Try.prog 11 #[] w fun e w' => e = .returned (ptr w.heap.size) ∧ RefAt w.heap.size w' w.heap.size R0 ∧ Below w.heap.size w w' ∧ w'.heap.size = w.heap.size + 1 := by
  go_enter Try.func11, Try.ntmps11
  go_wp2
  go_ret
  exact ⟨rfl, ⟨(MapKept.heap_alloc w _).1, World.ownsRow_nil _ _ _ _, (fun p hp => by cases hp), Nat.le_refl _, by simp⟩, alloc_below w _, by simp⟩
section
variable {B rb : Nat} {R : Rs}
theorem rdead (w : World) (h : RefAt B w rb R) : Calls Try.prog 30 #[ptr rb] w fun e w' => e = .returned (.bool (R.left == 0)) ∧ w' = w := by
  have c1 : w.cell? ⟨rb, 1, none⟩ = some (.int .i64 R.left) := by rw [cell_of h.cell]; rfl
  clear h
  unfold ptr
  go_enter Try.func30, Try.ntmps30
  go_wp2
  go_ret
  exact ⟨rfl, rfl⟩
set_option maxHeartbeats 1000000 in
theorem rfind_miss (w : World) (h : RefAt B w rb R) (n : List UInt8) (hl : R.ps.length ≤ 1000) (hn : ∀ (j : Nat) (q : Ent × Value), R.ps[j]? = some q → q.1.name ≠ n) : Calls Try.prog 39 #[ptr rb, str n] w fun e w' => e = .returned (.int .i64 (-1)) ∧ w' = w := by
  obtain ⟨la, lc, hlv⟩ := h.slice
  have c0 : w.cell? ⟨rb, 0, none⟩ = some (.slice la R.ps.length lc) := by rw [cell_of h.cell, hlv]; rfl
  have hat := hid (fun i p hp => h.at (i := i) (p := p) hp)
  rw [hlv] at hat
  clear h hlv
  unfold ptr str
  go_enter Try.func39, Try.ntmps39
  go_wp2_with fail
  go_loop [5] (fun iv => ∃ k : Nat, k ≤ R.ps.length ∧ iv = .int .i64 k) (fun iv => R.ps.length - (intOf iv).toNat)
  case atStart => exact ⟨0, by omega, rfl⟩
  case round =>
    obtain ⟨k, hk, rfl⟩ := hrel
    by_cases hlt : k < R.ps.length
    · have hlt' : (k : Int) < (R.ps.length : Int) := by omega
      obtain ⟨p, hp⟩ : ∃ p, R.ps[k]? = some p := ⟨_, List.getElem?_eq_getElem hlt⟩
      obtain ⟨lb, lc', e, k0, _, _, _, _⟩ := hat.out k p hp
      injection e with e1 e2 e3
      subst e1 e3
      have hne : (p.1.name == n) = false := by simpa using hn k p hp
      clear e2 hp hat
      unfold str at k0
      go_wp2
      exact ⟨⟨k + 1, by omega, by go_num⟩, by simp [intOf]; omega⟩
    · have hge : ¬ (k : Int) < (R.ps.length : Int) := by omega
      go_wp2
      go_ret
      exact ⟨rfl, rfl⟩
set_option maxHeartbeats 1000000 in
theorem rfind_hit (w : World) (h : RefAt B w rb R) (n : List UInt8) (hl : R.ps.length ≤ 1000) {i : Nat} {x : Ent × Value} (hx : R.ps[i]? = some x) (hxn : x.1.name = n) (hn : ∀ (j : Nat), j < i → ∀ (q : Ent × Value), R.ps[j]? = some q → q.1.name ≠ n) : Calls Try.prog 39 #[ptr rb, str n] w fun e w' => e = .returned (.int .i64 (i : Int)) ∧ w' = w := by
  obtain ⟨la, lc, hlv⟩ := h.slice
  have c0 : w.cell? ⟨rb, 0, none⟩ = some (.slice la R.ps.length lc) := by rw [cell_of h.cell, hlv]; rfl
  have hat := hid (fun i p hp => h.at (i := i) (p := p) hp)
  have hi := (List.getElem?_eq_some_iff.1 hx).1
  rw [hlv] at hat
  replace hx := hid hx
  clear h hlv
  unfold ptr str
  go_enter Try.func39, Try.ntmps39
  go_wp2_with fail
  go_loop [5] (fun iv => ∃ k : Nat, k ≤ i ∧ iv = .int .i64 k) (fun iv => R.ps.length - (intOf iv).toNat)
  case atStart => exact ⟨0, by omega, rfl⟩
  case round =>
    obtain ⟨k, hk, rfl⟩ := hrel
    have hlt : k < R.ps.length := by omega
    have hlt' : (k : Int) < (R.ps.length : Int) := by omega
    by_cases hki : k = i
    · subst hki
      obtain ⟨lb, lc', e, k0, _, _, _, _⟩ := hat.out k x hx.out
      injection e with e1 e2 e3
      subst e1 e3
      have hne : (x.1.name == n) = true := by simpa using hxn
      clear e2 hat hx hxn
      unfold str at k0
      go_wp2
      go_ret
      exact ⟨rfl, rfl⟩
    · obtain ⟨p, hp⟩ : ∃ p, R.ps[k]? = some p := ⟨_, List.getElem?_eq_getElem hlt⟩
      obtain ⟨lb, lc', e, k0, _, _, _, _⟩ := hat.out k p hp
      injection e with e1 e2 e3
      subst e1 e3
      have hne : (p.1.name == n) = false := by simpa using hn k (by omega) p hp
      clear e2 hp hat hx hxn
      unfold str at k0
      go_wp2
      exact ⟨⟨k + 1, by omega, by go_num⟩, by simp [intOf]; omega⟩
/-- how a call of a file stands. -/
def St.why (t : St) (n : List UInt8) : Int := if t.left = 0 then 30 else match lookE n t.l with | none => 31 | some _ => 0
theorem rrefuse (w : World) (h : RefAt B w rb R) (n : List UInt8) (hl : R.ps.length ≤ 1000) : Calls Try.prog 38 #[ptr rb, str n] w fun e w' => e = .returned (.int .i64 (R.abs.why n)) ∧ w' = w := by
  have hd := rdead w h
  by_cases h0 : R.left = 0
  · have e0 : R.abs.why n = 30 := by unfold St.why; rw [if_pos (show R.abs.left = 0 from h0)]
    rw [e0]
    rw [show (R.left == 0) = true by simp [h0]] at hd
    replace hd := hid hd
    unfold ptr str at *
    clear h
    go_enter Try.func38, Try.ntmps38
    go_wp2_with (go_at_call 30; refine hd.out.mono ?_; rintro e w' ⟨rfl, rfl⟩)
    go_ret
    exact ⟨rfl, rfl⟩
  · rw [show (R.left == 0) = false by simp [h0]] at hd
    replace hd := hid hd
    cases hk : lookE n R.abs.l with
    | none =>
      have e0 : R.abs.why n = 31 := by unfold St.why; rw [if_neg (show ¬ R.abs.left = 0 from h0), hk]
      rw [e0]
      have hf := hid (rfind_miss w h n hl (look_not hk))
      unfold ptr str at *
      clear h hk
      go_enter Try.func38, Try.ntmps38
      go_wp2_with (first | (go_at_call 30; refine hd.out.mono ?_; rintro e w' ⟨rfl, hw⟩; have hw2 := hw.symm; subst hw2; clear hw) | (go_at_call 39; refine hf.out.mono ?_; rintro e w' ⟨rfl, hw⟩; have hw2 := hw.symm; subst hw2; clear hw))
      go_ret
      exact ⟨rfl, rfl⟩
    | some f =>
      have e0 : R.abs.why n = 0 := by unfold St.why; rw [if_neg (show ¬ R.abs.left = 0 from h0), hk]
      rw [e0]
      obtain ⟨i, x, h1, h2, h3, h4⟩ := look_idx hk
      have hf := hid (rfind_hit w h n hl h1 (by rw [h2]; exact h3) h4)
      have hi0 : ¬ (i : Int) < 0 := by omega
      unfold ptr str at *
      clear h hk h1 h2 h3 h4
      go_enter Try.func38, Try.ntmps38
      go_wp2_with (first | (go_at_call 30; refine hd.out.mono ?_; rintro e w' ⟨rfl, hw⟩; have hw2 := hw.symm; subst hw2; clear hw) | (go_at_call 39; refine hf.out.mono ?_; rintro e w' ⟨rfl, hw⟩; have hw2 := hw.symm; subst hw2; clear hw))
      go_ret
      exact ⟨rfl, rfl⟩
theorem ract (w : World) (h : RefAt B w rb R) (ha : R.acts < 4611686018427387904) (hl : -9223372036854775808 ≤ R.left ∧ R.left ≤ 9223372036854775807) : Calls Try.prog 60 #[ptr rb] w fun e w' => e = .returned (.int .i64 0) ∧ RStep B rb w w' R { R with acts := R.acts + 1, left := if 0 < R.left then R.left - 1 else R.left } := by
  have c1 : w.cell? ⟨rb, 1, none⟩ = some (.int .i64 R.left) := by rw [cell_of h.cell]; rfl
  have c2 : w.cell? ⟨rb, 2, none⟩ = some (.int .i64 (R.acts : Int)) := by rw [cell_of h.cell]; rfl
  have f1 := frozen_of h.cell 1
  have f2 := frozen_of h.cell 2
  have hw : (w.setCell ⟨rb, 2, none⟩ (.int .i64 ((R.acts : Int) + 1))).heap[rb]? = some (.cells #[R.lv, .int .i64 R.left, .int .i64 ((R.acts : Int) + 1)] 67) := by rw [heap_set_at h.cell]; simp
  have d1 : (w.setCell ⟨rb, 2, none⟩ (.int .i64 ((R.acts : Int) + 1))).cell? ⟨rb, 1, none⟩ = some (.int .i64 R.left) := by rw [cell_of hw]; rfl
  have g1 := frozen_of hw 1
  by_cases h0 : 0 < R.left
  · rw [if_pos h0]
    have fin := h.numbers (R.left - 1) (R.acts + 1) (w' := (w.setCell ⟨rb, 2, none⟩ (.int .i64 ((R.acts : Int) + 1))).setCell ⟨rb, 1, none⟩ (.int .i64 (R.left - 1))) (by rw [heap_set_at hw]; simp) ((kept_set (F := fun k => k = rb) w rb 2 _ rfl).trans (kept_set (F := fun k => k = rb) _ rb 1 _ rfl) fun k hk => .inl hk)
    replace fin := hid fin
    replace hw := hid hw
    unfold ptr
    clear h
    go_enter Try.func60, Try.ntmps60
    go_wp2
    go_ret
    exact ⟨rfl, fin.out⟩
  · rw [if_neg h0]
    have fin := h.numbers R.left (R.acts + 1) (w' := w.setCell ⟨rb, 2, none⟩ (.int .i64 ((R.acts : Int) + 1))) (by rw [hw]; simp) (kept_set (F := fun k => k = rb) w rb 2 _ rfl)
    replace fin := hid fin
    replace hw := hid hw
    unfold ptr
    clear h
    go_enter Try.func60, Try.ntmps60
    go_wp2
    go_ret
    exact ⟨rfl, fin.out⟩
def nrm (x : Int) : Int := if x < 0 then -1 else x
theorem rpower (w : World) (h : RefAt B w rb R) (x : Int) : Calls Try.prog 35 #[ptr rb, .int .i64 x] w fun e w' => e = .returned (.tuple #[]) ∧ RStep B rb w w' R { R with left := nrm x } := by
  have c1 : w.cell? ⟨rb, 1, none⟩ = some (.int .i64 R.left) := by rw [cell_of h.cell]; rfl
  have f1 := frozen_of h.cell 1
  have hw : (w.setCell ⟨rb, 1, none⟩ (.int .i64 x)).heap[rb]? = some (.cells #[R.lv, .int .i64 x, .int .i64 (R.acts : Int)] 67) := by rw [heap_set_at h.cell]; simp
  have d1 : (w.setCell ⟨rb, 1, none⟩ (.int .i64 x)).cell? ⟨rb, 1, none⟩ = some (.int .i64 x) := by rw [cell_of hw]; rfl
  have g1 := frozen_of hw 1
  unfold nrm
  by_cases h0 : x < 0
  · rw [if_pos h0]
    have fin := h.numbers (-1) R.acts (w' := (w.setCell ⟨rb, 1, none⟩ (.int .i64 x)).setCell ⟨rb, 1, none⟩ (.int .i64 (-1))) (by rw [heap_set_at hw]; simp) ((kept_set (F := fun k => k = rb) w rb 1 _ rfl).trans (kept_set (F := fun k => k = rb) _ rb 1 _ rfl) fun k hk => .inl hk)
    replace fin := hid fin
    replace hw := hid hw
    unfold ptr
    clear h
    go_enter Try.func35, Try.ntmps35
    go_wp2
    go_end0
    exact ⟨rfl, fin.out⟩
  · rw [if_neg h0]
    have fin := h.numbers x R.acts (w' := w.setCell ⟨rb, 1, none⟩ (.int .i64 x)) (by rw [hw]) (kept_set (F := fun k => k = rb) w rb 1 _ rfl)
    replace fin := hid fin
    replace hw := hid hw
    unfold ptr
    clear h
    go_enter Try.func35, Try.ntmps35
    go_wp2
    go_end0
    exact ⟨rfl, fin.out⟩
end
end Go.Proofs.Ytinnegkkfaaceaa
