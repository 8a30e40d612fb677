/- A region inside a round of a loop over a function that only reads: one walk, in the order of the text, serves every order. No program is named. -/
import Derived.Test.YtlggdeadkebgiaaRL
import Derived.Sort.QuietThIn
namespace Go.Proofs.Ytlggdeadkebgiaa
open Go.RowKit

section
variable {F : Fence} {n : Nat} {P : Program} {ops : Array Oper} {md : Region.Mode} {C : World → Prop}
/-- an operation that is no defer statement is run in a round as everywhere. -/
theorem round_op {o : Oper} {a : Act} {K : Act → Prop} {K' : Act → World → Prop} {Q' : Exit → Act → World → Prop} {w : World} (hd : ∀ c, o.op ≠ .defer c) (hw : C w) (hK : ∀ a w', C w' → K a → K' a w')
    (ha : o.askedIn F P a C) (hq : o.quietIn F n P a C K) : o.wpIn F n P a w K' Q' := by
  obtain ⟨v, hv, hk⟩ := hq
  have h1 := hv w hw
  unfold Oper.quietAtIn at h1
  unfold Oper.wpIn
  rw [Oper.semAt_plain F _ _ hd]
  refine ⟨ha w hw, ?_⟩
  cases hr : (execOp a.eval o).run P w with
  | halt x w' => rw [hr] at h1; exact h1.elim
  | ok x w' =>
    rw [hr] at h1
    cases x with
    | value u =>
      obtain ⟨rfl, rfl⟩ := h1
      exact hK _ _ hw hk
    | skip =>
      obtain ⟨rfl, rfl⟩ := h1
      exact hK _ _ hw hk
    | enter f args =>
      obtain ⟨rfl, hdep, hc⟩ := h1
      refine ⟨hdep, hc.mono fun e w'' hh => ?_⟩
      obtain ⟨rfl, hC⟩ := hh
      exact hK _ _ hC hk
    | _ => exact h1.elim
theorem round_at {i : Nat} {a : Act} {K : Act → Prop} {K' : Act → World → Prop} {Q' : Exit → Act → World → Prop} {w : World} (hd : ∀ (j : Nat) o c, ops[j]? = some o → o.op ≠ .defer c) (hw : C w) (hK : ∀ a w', C w' → K a → K' a w')
    (hq : qOpIn F n P ops C i K a) : wpOpIn F n P ops Q' i K' a w := by
  unfold qOpIn at hq
  unfold wpOpIn
  cases ho : ops[i]? with
  | none => rw [ho] at hq; exact hK _ _ hw hq
  | some o =>
    rw [ho] at hq
    obtain ⟨ha, hq⟩ := hq
    by_cases hwt : Region.wanted o (yielded ops a.tmps) = true
    · rw [if_pos hwt] at hq
      simp only [hwt, if_true]
      exact round_op (fun c => hd i o c ho) hw hK ha hq
    · rw [if_neg hwt] at hq
      simp only [hwt]
      exact ⟨ha w hw, hK _ _ hw hq⟩
theorem round_any {Q : Act → Prop} {Q' : Exit → Act → World → Prop} (hd : ∀ (j : Nat) o c, ops[j]? = some o → o.op ≠ .defer c) (hQ : ∀ a w, C w → Q a → Q' .normal a w) : ∀ (fuel : Nat) (listed : Array Bool) (a : Act) (w : World), C w →
    wpAnyQIn F n P md ops C Q fuel listed a → wpAnyIn F n P md ops Q' fuel listed a w := by
  intro fuel
  induction fuel with
  | zero => exact fun listed a w hw h => ⟨h.1, hQ _ _ hw h.2⟩
  | succ fuel ih => exact fun listed a w hw h => ⟨fun h0 => hQ _ _ hw (h.1 h0), fun i hi => round_at hd hw (fun a' w' hw' => ih _ a' w' hw') (h.2 i hi)⟩
def noDefer (l : List Oper) : Bool := l.all fun o => match o.op with | .defer _ => false | _ => true
theorem noDefer_at {l : List Oper} (h : noDefer l = true) : ∀ (j : Nat) o c, l.toArray[j]? = some o → o.op ≠ .defer c := fun j o c hj e => by
  have hm : o ∈ l := by
    rw [List.getElem?_toArray] at hj
    exact List.mem_of_getElem? hj
  have := List.all_eq_true.1 h o hm
  rw [e] at this
  cases this
theorem round_quiet {id : Nat} {Q : Exit → Act → World → Prop} {a : Act} {w : World} {l : List Oper} (hd : noDefer l = true) (hm : P.follows .mixedOrders = true) (hB : Region.lexB .any l.toArray = true)
    (h : wpQuietIn F n P l.toArray (fun w' => ∃ n, w' = w.drewN n) (fun a' => ∀ w', (∃ n, w' = w.drewN n) → Q .normal a' w') l a) : (Code.region id l.toArray true).wpIn F n P Q a w := by
  simp only [Region.lexB, Bool.and_eq_true] at hB
  refine wpIn_region_any hm (round_any (Q := fun a' => ∀ w', (∃ n, w' = w.drewN n) → Q .normal a' w') (noDefer_at hd) (fun _ w' hw' h => h w' hw') _ _ _ _ ⟨1, rfl⟩ ?_)
  have := wpAnyQIn_lex (F := F) (n := n) (C := fun w' => ∃ n, w' = w.drewN n) (md := .any) hB.1 l 0 (Array.replicate l.toArray.size false) a (by simp) (by simpa using hB.2) h
  simpa using this
end
end Go.Proofs.Ytlggdeadkebgiaa
