/- Contract of the document's Read; its reader beside other objects. -/
import Derived.Test.YthhfahnlcoiblaaQg
import Derived.Test.YthhfahnlcoiblaaQj
import Derived.Test.YthhfahnlcoiblaaQk
namespace Go.Proofs.Ythhfahnlcoiblaa
open Go.RowKit

theorem qread {q : Nat} {bs : Value} {z : List Int} {at_ : Nat} {fl : Bool} (k : Nat) (most : Int) (w : World) (h : RefAt w q bs z at_ fl) (hk : k ≤ 5) (hm : most ≤ 9223372036854775807) :
    Calls Try.prog 19 #[ptr q, .int .u8 (k : Int), .int .i64 most] w fun e w' => QRead w q bs z at_ fl k most e w' := by
  cases fl with
  | true => exact qread_failed k most w h
  | false =>
    by_cases h2 : k = 2
    · subst h2
      by_cases ha : at_ < z.length
      · by_cases hy : z.getD at_ 0 ≤ 1
        · exact qread_2c most w h ha hy
        · exact qread_2b most w h ha hy
      · exact qread_2a most w h ha
    · cases hn : numP (z.drop at_) with
      | none => exact qread_no k most w h hk h2 hn
      | some x =>
        obtain ⟨n, j⟩ := x
        obtain rfl | rfl | h34 | rfl : k = 0 ∨ k = 1 ∨ (k = 3 ∨ k = 4) ∨ k = 5 := by omega
        · exact qread_0 most w h hn
        · by_cases ho : n % 2 = 1
          · exact qread_1o most w h hn ho
          · exact qread_1e most w h hn ho
        · by_cases hl : n ≤ z.length - (at_ + j)
          · rcases h34 with rfl | rfl
            · exact qread_3 most w h hn hl
            · exact qread_4 most w h hn hl
          · exact qread_34n k most w h h34 hn hl
        · by_cases hm0 : most < 0
          · exact qread_5n most w h hn hm0
          · by_cases hb : most < (n : Int)
            · exact qread_5b most w h hn hm0 hb
            · exact qread_5 most w h hn hm0 hb hm
/-- an object is turned where it lies, and bytes of one's own are laid. -/
theorem Many.turnPush {B : Nat} {w0 w : World} {l : List Ob} (h : Many B w0 w l) (i : Nat) {o : Ob} (hi : l[i]? = some o) : ∃ F, o.At F w ∧ ∀ w' o' v zs, o'.At F w' → Kept F w w' → Own w.heap.size w' v zs → Many B w0 w' (l.set i o' ++ [.by_ v zs]) := by
  obtain ⟨Fs, h1, h2⟩ := h.ex
  obtain ⟨hA, hB⟩ := h1 i _ hi
  have hil : i < l.length := (List.getElem?_eq_some_iff.1 hi).1
  have hlt : ∀ x, x < l.length → ∀ k, Fs x k → k < w.heap.size := fun x hx k hk' => (h1 x _ (List.getElem?_eq_getElem hx)).1.lt k hk'
  refine ⟨Fs i, hA, fun w' o' v zs hA' hk ho => ?_⟩
  refine ⟨h.low.trans (hk.below h.size hB), h.le, fun j => if j = l.length then (fun k => v.ownBlock = some k) else Fs j, fun j oj hj => ?_, fun a b k ha hb hab => ?_⟩
  · by_cases e : j = l.length
    · subst e
      rw [List.getElem?_append_right (by simp)] at hj
      simp at hj
      subst hj
      simp only [if_true]
      exact ⟨⟨ho.base (Nat.zero_le _), fun _ hk => hk, fun k hk => (ho.lt hk).2⟩, fun k hk => Nat.le_trans h.size (ho.lt hk).1⟩
    · simp only [e, if_false]
      have hj2 : j < l.length := by have := (List.getElem?_eq_some_iff.1 hj).1; simp at this; omega
      rw [List.getElem?_append_left (by simpa using hj2)] at hj
      by_cases e2 : j = i
      · subst e2
        rw [List.getElem?_set_self hil] at hj
        cases hj
        exact ⟨hA', hB⟩
      · rw [List.getElem?_set_ne (fun e' => e2 e'.symm)] at hj
        have hj' := h1 j oj hj
        exact ⟨hj'.1.keep hk.size fun k hkk => hk.block k (hj'.1.lt k hkk) fun hF => h2 i j k hil hj2 (fun e' => e2 e'.symm) hF hkk, hj'.2⟩
  · simp only [List.length_append, List.length_set, List.length_singleton] at ha hb
    by_cases ea : a = l.length
    · by_cases eb : b = l.length
      · exact (hab (ea.trans eb.symm)).elim
      · simp only [ea, eb, if_true, if_false]
        intro hf hf2
        have := hlt b (by omega) k hf2
        have := (ho.lt hf).1
        omega
    · by_cases eb : b = l.length
      · simp only [ea, eb, if_true, if_false]
        intro hf2 hf
        have := hlt a (by omega) k hf2
        have := (ho.lt hf).1
        omega
      · simp only [ea, eb, if_false]
        exact h2 a b k (by omega) (by omega) hab
/-- all but the first. -/
theorem Many.tail {B : Nat} {w0 w : World} {x : Ob} {l : List Ob} (h : Many B w0 w (x :: l)) : Many B w0 w l := by
  obtain ⟨Fs, h1, h2⟩ := h.ex
  refine ⟨h.low, h.le, fun i => Fs (i + 1), fun i o hi => h1 (i + 1) o (by simpa using hi), fun a b k ha hb hab => h2 (a + 1) (b + 1) k (by simp; omega) (by simp; omega) (by omega)⟩
/-- the document's reader. -/
abbrev qcells (bs : Value) (at_ : Nat) (fl : Bool) : Array Value := #[bs, .int .i64 (at_ : Int), .bool fl]
theorem m_ref {w0 w : World} {l : List Ob} (h : Many w0.heap.size w0 w l) (i : Nat) {q : Nat} {bs : Value} {z : List Int} {at_ : Nat} {fl : Bool} (hi : l[i]? = some (.bx q (qcells bs at_ fl) 40)) (hb : IsB w0 bs z) (hle : at_ ≤ z.length) (hz : z.length ≤ 20000) : RefAt w q bs z at_ fl :=
  ⟨m_box h i hi, hb.below h.low, hle, hz⟩
theorem m_qerr {w0 w : World} {l : List Ob} (h : Many w0.heap.size w0 w l) (i : Nat) {q : Nat} {bs : Value} {z : List Int} {at_ : Nat} {fl : Bool} (hi : l[i]? = some (.bx q (qcells bs at_ fl) 40)) (hb : IsB w0 bs z) (hle : at_ ≤ z.length) (hz : z.length ≤ 20000) {st : St} (hst : stOf z at_ fl = st) :
    Calls Try.prog 21 #[ptr q] w fun e w' => e = .returned (.int .i64 (errP st)) ∧ w' = w := by
  subst hst; exact qerr w (m_ref h i hi hb hle hz)
theorem m_qdone {w0 w : World} {l : List Ob} (h : Many w0.heap.size w0 w l) (i : Nat) {q : Nat} {bs : Value} {z : List Int} {at_ : Nat} {fl : Bool} (hi : l[i]? = some (.bx q (qcells bs at_ fl) 40)) (hb : IsB w0 bs z) (hle : at_ ≤ z.length) (hz : z.length ≤ 20000) {st : St} (hst : stOf z at_ fl = st) :
    Calls Try.prog 23 #[ptr q] w fun e w' => e = .returned (.int .i64 (doneP st)) ∧ ∃ n, w' = w.drewN n := by
  subst hst; exact qdone w (m_ref h i hi hb hle hz)
/-- what its Read tells, and makes of it. -/
def MQ (w0 : World) (l : List Ob) (i q : Nat) (bs : Value) (z : List Int) (k : Nat) (most : Int) (st : St) (e : Ending) (w' : World) : Prop :=
  ∃ a c at' fl', e = .returned (agg (readP k most st).1 (.slice a (readP k most st).1.l.length c)) ∧ stOf z at' fl' = (readP k most st).2 ∧ at' ≤ z.length ∧ Many w0.heap.size w0 w' (l.set i (.bx q (qcells bs at' fl') 40) ++ [.by_ (.slice a (readP k most st).1.l.length c) (readP k most st).1.l])
theorem m_qread {w0 w : World} {l : List Ob} (h : Many w0.heap.size w0 w l) (i : Nat) {q : Nat} {bs : Value} {z : List Int} {at_ : Nat} {fl : Bool} (hi : l[i]? = some (.bx q (qcells bs at_ fl) 40)) (hb : IsB w0 bs z) (hle : at_ ≤ z.length) (hz : z.length ≤ 20000) {st : St} (hst : stOf z at_ fl = st) (k : Nat) (most : Int) (hk : k ≤ 5) (hm : most ≤ 9223372036854775807) :
    Calls Try.prog 19 #[ptr q, .int .u8 (k : Int), .int .i64 most] w fun e w' => MQ w0 l i q bs z k most st e w' := by
  subst hst
  obtain ⟨F, hA, ht⟩ := h.turnPush i hi
  refine (qread k most w (m_ref h i hi hb hle hz) hk hm).mono ?_
  rintro e w' ⟨a, c, at', fl', rfl, ho, hs, hle', hc, kp⟩
  refine ⟨a, c, at', fl', rfl, hs, hle', ht w' _ _ _ ⟨hA.1, hc, fun k hk => Nat.lt_of_lt_of_le (hA.2.2 k hk) kp.size⟩ (kp.mono fun k _ e => e ▸ hA.1) ho⟩
end Go.Proofs.Ythhfahnlcoiblaa
