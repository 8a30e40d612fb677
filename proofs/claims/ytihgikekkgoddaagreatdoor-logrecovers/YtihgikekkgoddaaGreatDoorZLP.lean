/- What a log's files are called: a kind and a number; names lead back to these. Plain mathematics. -/
import Derived.Lib.Atoi
import Derived.Lib.ItoaNum
namespace Go.Proofs.YtihgikekkgoddaaGreatDoor

def kLog : List UInt8 := [108, 111, 103, 46]
def kSnap : List UInt8 := [115, 110, 97, 112, 46]
def kNew : List UInt8 := [110, 101, 119]
/-- a number below 100 in decimal digits. -/
def dg (n : Nat) : List UInt8 := if n < 10 then [UInt8.ofNat (48 + n)] else [UInt8.ofNat (48 + n / 10), UInt8.ofNat (48 + n % 10)]
theorem dg_dec {n : Nat} (h : n < 100) : Lib.decDigits n = dg n := by
  unfold dg
  split
  · rename_i h1; exact Lib.decDigits_one h1
  · rename_i h1; exact Lib.decDigits_two h1 h
theorem dg_atoi : ∀ n, n < 100 → Lib.atoi (dg n) = some (n : Int) := by decide
theorem dg_len (n : Nat) : 1 ≤ (dg n).length ∧ (dg n).length ≤ 2 := by unfold dg; split <;> simp
theorem dg_inj {n m : Nat} (hn : n < 100) (hm : m < 100) (h : dg n = dg m) : n = m := by
  have a := dg_atoi n hn
  rw [h, dg_atoi m hm] at a
  have := Option.some.inj a; omega
/-- one of a log's files. -/
structure Part where
  kind : List UInt8
  num : Nat
def Part.text (q : Part) : List UInt8 := if q.kind = kNew then kNew else q.kind ++ dg q.num
def Part.ok (q : Part) : Prop := (q.kind = kNew ∧ q.num = 0) ∨ (q.kind = kLog ∧ q.num < 100) ∨ (q.kind = kSnap ∧ 1 ≤ q.num ∧ q.num < 100)
def pNew : Part := ⟨kNew, 0⟩
def pLog (n : Nat) : Part := ⟨kLog, n⟩
def pSnap (n : Nat) : Part := ⟨kSnap, n⟩
theorem log_ne_new : kLog ≠ kNew := by decide
theorem snap_ne_new : kSnap ≠ kNew := by decide
theorem log_ne_snap : kLog ≠ kSnap := by decide
theorem text_new : pNew.text = kNew := by unfold Part.text pNew; rw [if_pos rfl]
theorem text_log (n : Nat) : (pLog n).text = kLog ++ dg n := by unfold Part.text pLog; rw [if_neg log_ne_new]
theorem text_snap (n : Nat) : (pSnap n).text = kSnap ++ dg n := by unfold Part.text pSnap; rw [if_neg snap_ne_new]
theorem ok_cases {q : Part} (h : q.ok) : q = pNew ∨ (∃ n, n < 100 ∧ q = pLog n) ∨ ∃ n, 1 ≤ n ∧ n < 100 ∧ q = pSnap n := by
  obtain ⟨k, n⟩ := q
  rcases h with ⟨h1, h2⟩ | ⟨h1, h2⟩ | ⟨h1, h2, h3⟩
  · left; simp at h1 h2; rw [h1, h2]; rfl
  · right; left; simp at h1 h2; exact ⟨n, h2, by rw [h1]; rfl⟩
  · right; right; simp at h1 h2 h3; exact ⟨n, h2, h3, by rw [h1]; rfl⟩
theorem ok_new : pNew.ok := .inl ⟨rfl, rfl⟩
theorem ok_log {n : Nat} (h : n < 100) : (pLog n).ok := .inr (.inl ⟨rfl, h⟩)
theorem ok_snap {n : Nat} (h0 : 1 ≤ n) (h : n < 100) : (pSnap n).ok := .inr (.inr ⟨rfl, h0, h⟩)
theorem text_inj {q r : Part} (hq : q.ok) (hr : r.ok) (h : q.text = r.text) : q = r := by
  rcases ok_cases hq with rfl | ⟨n, hn, rfl⟩ | ⟨n, hn0, hn, rfl⟩ <;> rcases ok_cases hr with rfl | ⟨m, hm, rfl⟩ | ⟨m, hm0, hm, rfl⟩ <;> simp only [text_new, text_log, text_snap] at h
  · rfl
  · simp [kNew, kLog] at h
  · simp [kNew, kSnap] at h
  · simp [kNew, kLog] at h
  · rw [dg_inj hn hm (List.append_cancel_left h)]
  · simp [kSnap, kLog] at h
  · simp [kNew, kSnap] at h
  · simp [kSnap, kLog] at h
  · rw [dg_inj hn hm (List.append_cancel_left h)]
theorem text_len {q : Part} (h : q.ok) : 3 ≤ q.text.length ∧ q.text.length ≤ 7 := by
  rcases ok_cases h with rfl | ⟨n, _, rfl⟩ | ⟨n, _, _, rfl⟩
  · rw [text_new]; decide
  · have := dg_len n; rw [text_log, List.length_append, show kLog.length = 4 from rfl]; omega
  · have := dg_len n; rw [text_snap, List.length_append, show kSnap.length = 5 from rfl]; omega

/-- the name of a file of the log of that prefix. -/
def nameOf (p : List UInt8) (q : Part) : List UInt8 := p ++ q.text
theorem nameOf_inj {p : List UInt8} {q r : Part} (hq : q.ok) (hr : r.ok) (h : nameOf p q = nameOf p r) : q = r := text_inj hq hr (List.append_cancel_left h)
theorem nameOf_len {p : List UInt8} {q : Part} (h : q.ok) (hp : p.length ≤ 16) : 1 ≤ (nameOf p q).length ∧ (nameOf p q).length ≤ 23 := by
  have := text_len h
  unfold nameOf
  rw [List.length_append]
  omega
open Classical in
/-- which of the log's files has that name. -/
noncomputable def decode (p nm : List UInt8) : Option Part := if h : ∃ q : Part, q.ok ∧ nm = nameOf p q then some (Classical.choose h) else none
theorem decode_yes (p : List UInt8) {q : Part} (hq : q.ok) : decode p (nameOf p q) = some q := by
  classical
  have h : ∃ r : Part, r.ok ∧ nameOf p q = nameOf p r := ⟨q, hq, rfl⟩
  unfold decode
  rw [dif_pos h]
  obtain ⟨h1, h2⟩ := Classical.choose_spec h
  rw [← nameOf_inj hq h1 h2]
theorem decode_some {p nm : List UInt8} {q : Part} (h : decode p nm = some q) : q.ok ∧ nm = nameOf p q := by
  classical
  unfold decode at h
  split at h
  · rename_i h1
    cases h
    exact Classical.choose_spec h1
  · cases h
theorem decode_not {p nm : List UInt8} (h : ¬ p <+: nm) : decode p nm = none := by
  cases e : decode p nm with
  | none => rfl
  | some q => obtain ⟨_, rfl⟩ := decode_some e; exact (h ⟨q.text, rfl⟩).elim
/-- all names that begin with the prefix are those of the log's files. -/
def Good (p : List UInt8) (names : List (List UInt8)) : Prop := ∀ nm ∈ names, p <+: nm → ∃ q : Part, q.ok ∧ nm = nameOf p q
/-- the log's files among the names. -/
noncomputable def ownOf (p : List UInt8) (names : List (List UInt8)) : List (List UInt8 × Part) := names.filterMap fun nm => (decode p nm).map fun q => (nm, q)
theorem mem_own {p : List UInt8} {names : List (List UInt8)} {x : List UInt8 × Part} : x ∈ ownOf p names ↔ x.1 ∈ names ∧ x.2.ok ∧ x.1 = nameOf p x.2 := by
  obtain ⟨nm, q⟩ := x
  unfold ownOf
  rw [List.mem_filterMap]
  constructor
  · rintro ⟨a, ha, h⟩
    cases e : decode p a with
    | none => rw [e] at h; simp at h
    | some r =>
      rw [e] at h
      simp at h
      obtain ⟨rfl, rfl⟩ := h
      exact ⟨ha, decode_some e⟩
  · rintro ⟨h1, h2, h3⟩
    refine ⟨nm, h1, ?_⟩
    simp only at h3
    rw [h3, decode_yes p h2]; rfl
theorem own_len (p : List UInt8) (names : List (List UInt8)) : (ownOf p names).length ≤ names.length := List.length_filterMap_le _ _
theorem own_cons_yes {p nm : List UInt8} {r : List (List UInt8)} {q : Part} (h : decode p nm = some q) : ownOf p (nm :: r) = (nm, q) :: ownOf p r := by
  unfold ownOf; rw [List.filterMap_cons, h]; rfl
theorem own_cons_no {p nm : List UInt8} {r : List (List UInt8)} (h : decode p nm = none) : ownOf p (nm :: r) = ownOf p r := by
  unfold ownOf; rw [List.filterMap_cons, h]; rfl
end Go.Proofs.YtihgikekkgoddaaGreatDoor
