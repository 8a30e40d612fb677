/- Several writers, readers and blocks beside each other. -/
import Derived.Test.YthhfahnlcoiblaaW2
import Derived.Test.YthhfahnlcoiblaaR3
namespace Go.Proofs.Ythhfahnlcoiblaa
open Go.RowKit

inductive Ob
  | wr (p : Nat) (zs : List Int)
  | rd (p : Nat) (st : St)
  | bx (p : Nat) (cs : Array Value) (t : TypeId)
  | by_ (v : Value) (zs : List Int)
/-- an object in blocks of F. -/
def Ob.At (F : Nat → Prop) (w : World) : Ob → Prop
  | .wr p zs => ∃ q sv, WAt F w p q sv zs
  | .rd p st => ∃ q sv, RAt F w p q sv st
  | .bx p cs t => F p ∧ w.heap[p]? = some (.cells cs t) ∧ ∀ k, F k → k < w.heap.size
  | .by_ v zs => Own 0 w v zs ∧ (∀ k, v.ownBlock = some k → F k) ∧ ∀ k, F k → k < w.heap.size
theorem Ob.At.lt {F : Nat → Prop} {w : World} : ∀ {o : Ob}, o.At F w → ∀ k, F k → k < w.heap.size
  | .wr _ _, ⟨_, _, h⟩ => h.row.lt
  | .rd _ _, ⟨_, _, h⟩ => h.lt
  | .bx _ _ _, h => h.2.2
  | .by_ _ _, h => h.2.2
theorem Ob.At.keep {F : Nat → Prop} {w w' : World} : ∀ {o : Ob}, o.At F w → w.heap.size ≤ w'.heap.size → (∀ k, F k → w'.heap[k]? = w.heap[k]?) → o.At F w'
  | .wr _ _, ⟨q, sv, h⟩, hs, hb => ⟨q, sv, h.keep hs hb⟩
  | .rd _ _, ⟨q, sv, h⟩, hs, hb => ⟨q, sv, h.keep hs hb⟩
  | .bx p _ _, h, hs, hb => ⟨h.1, (hb p h.1).trans h.2.1, fun k hk => Nat.lt_of_lt_of_le (h.2.2 k hk) hs⟩
  | .by_ _ _, h, hs, hb => ⟨h.1.keep fun k hk => hb k (h.2.1 k hk), h.2.1, fun k hk => Nat.lt_of_lt_of_le (h.2.2 k hk) hs⟩
/-- what a call made of an object. -/
def OTo (F : Nat → Prop) (w w' : World) (o : Ob) : Prop := ∃ F', o.At F' w' ∧ Kept F w w' ∧ ∀ k, F' k → F k ∨ w.heap.size ≤ k
theorem WTo.ob {F : Nat → Prop} {w w' : World} {p : Nat} {zs : List Int} (h : WTo F w w' p zs) : OTo F w w' (.wr p zs) := by
  obtain ⟨F', q, sv, h1, k1, _, f1⟩ := h
  exact ⟨F', ⟨q, sv, h1⟩, k1, f1⟩
theorem RTo.ob {F : Nat → Prop} {w w' : World} {p q : Nat} {st : St} (h : RTo F w w' p q st) : OTo F w w' (.rd p st) := by
  obtain ⟨sv, h1, k1⟩ := h
  exact ⟨F, ⟨q, sv, h1⟩, k1, fun _ h => .inl h⟩
/-- objects beside each other, in blocks from B on; below B all is as it was. -/
structure Many (B : Nat) (w0 w : World) (l : List Ob) : Prop where
  low : Below B w0 w
  le : B ≤ w0.heap.size
  ex : ∃ Fs : Nat → Nat → Prop, (∀ i o, l[i]? = some o → o.At (Fs i) w ∧ ∀ k, Fs i k → B ≤ k) ∧ ∀ i j k, i < l.length → j < l.length → i ≠ j → Fs i k → ¬ Fs j k
theorem Many.nil (w : World) : Many w.heap.size w w [] := ⟨Below.refl _ _, Nat.le_refl _, fun _ _ => False, (fun i o h => by simp at h), fun i j k hi => by simp at hi⟩
theorem Many.size {B : Nat} {w0 w : World} {l : List Ob} (h : Many B w0 w l) : B ≤ w.heap.size := Nat.le_trans h.le h.low.size
theorem Many.later {B : Nat} {w0 w w' : World} {l : List Ob} (h : Many B w0 w l) (hb : Below w.heap.size w w') : Many B w0 w' l := by
  obtain ⟨Fs, h1, h2⟩ := h.ex
  exact ⟨h.low.trans (hb.mono h.size), h.le, Fs, fun i o ho => ⟨(h1 i o ho).1.keep hb.size fun k hk => hb.block k ((h1 i o ho).1.lt k hk), (h1 i o ho).2⟩, h2⟩
theorem Many.heap {B : Nat} {w0 w : World} {l : List Ob} (h : Many B w0 w l) (n : Nat) : Many B w0 (w.drewN n) l := h.later (below_drewN (Below.refl _ _))
/-- one object is turned. -/
theorem Many.get {B : Nat} {w0 w : World} {l : List Ob} (h : Many B w0 w l) (i : Nat) {o : Ob} (hi : l[i]? = some o) : ∃ F, o.At F w ∧ (∀ k, F k → B ≤ k) ∧ ∀ w' o', OTo F w w' o' → Many B w0 w' (l.set i o') := by
  obtain ⟨Fs, h1, h2⟩ := h.ex
  obtain ⟨hA, hB⟩ := h1 i o hi
  have hil : i < l.length := (List.getElem?_eq_some_iff.1 hi).1
  refine ⟨Fs i, hA, hB, fun w' o' ht => ?_⟩
  obtain ⟨F', hA', hk, hf⟩ := ht
  have hBF : ∀ k, F' k → B ≤ k := fun k hk' => (hf k hk').elim (hB k) fun hh => Nat.le_trans h.size hh
  refine ⟨h.low.trans (hk.below h.size hB), h.le, fun j => if j = i then F' else Fs j, fun j oj hj => ?_, fun a b k ha hb hab => ?_⟩
  · by_cases e : j = i
    · subst e
      rw [List.getElem?_set_self hil] at hj
      cases hj
      simp only [if_true]
      exact ⟨hA', hBF⟩
    · rw [List.getElem?_set_ne (fun e' => e e'.symm)] at hj
      simp only [e, if_false]
      have hj' := h1 j oj hj
      exact ⟨hj'.1.keep hk.size fun k hkk => hk.block k (hj'.1.lt k hkk) fun hF => h2 i j k hil (List.getElem?_eq_some_iff.1 hj).1 (fun e' => e e'.symm) hF hkk, hj'.2⟩
  · simp only [List.length_set] at ha hb
    have hlt : ∀ x, x < l.length → ∀ k, Fs x k → k < w.heap.size := fun x hx k hk' => (h1 x _ (List.getElem?_eq_getElem hx)).1.lt k hk'
    by_cases ea : a = i
    · by_cases eb : b = i
      · exact (hab (ea.trans eb.symm)).elim
      · simp only [ea, eb, if_true, if_false]
        intro hF hF2
        rcases hf k hF with h3 | h3
        · exact h2 i b k hil hb (fun e => eb e.symm) h3 hF2
        · have := hlt b hb k hF2; omega
    · by_cases eb : b = i
      · simp only [ea, eb, if_true, if_false]
        intro hF2 hF
        rcases hf k hF with h3 | h3
        · exact h2 a i k ha hil ea hF2 h3
        · have := hlt a ha k hF2; omega
      · simp only [ea, eb, if_false]
        exact h2 a b k ha hb hab
/-- one object more. -/
theorem Many.push {B : Nat} {w0 w w' : World} {l : List Ob} (h : Many B w0 w l) (hb : Below w.heap.size w w') {F : Nat → Prop} {o : Ob} (ho : o.At F w') (hF : ∀ k, F k → w.heap.size ≤ k) : Many B w0 w' (l ++ [o]) := by
  obtain ⟨Fs, h1, h2⟩ := h.ex
  have hlt : ∀ x, x < l.length → ∀ k, Fs x k → k < w.heap.size := fun x hx k hk' => (h1 x _ (List.getElem?_eq_getElem hx)).1.lt k hk'
  refine ⟨h.low.trans (hb.mono h.size), h.le, fun j => if j = l.length then F else Fs j, fun j oj hj => ?_, fun a b k ha hb' hab => ?_⟩
  · by_cases e : j = l.length
    · subst e
      rw [List.getElem?_concat_length] at hj
      cases hj
      simp only [if_true]
      exact ⟨ho, fun k hk => Nat.le_trans h.size (hF k hk)⟩
    · have hj2 : j < l.length := by have := (List.getElem?_eq_some_iff.1 hj).1; simp at this; omega
      rw [List.getElem?_append_left hj2] at hj
      simp only [e, if_false]
      exact ⟨(h1 j oj hj).1.keep hb.size fun k hk => hb.block k (hlt j hj2 k hk), (h1 j oj hj).2⟩
  · simp only [List.length_append, List.length_singleton] at ha hb'
    by_cases ea : a = l.length
    · by_cases eb : b = l.length
      · exact (hab (ea.trans eb.symm)).elim
      · simp only [ea, eb, if_true, if_false]
        intro hf hf2
        have := hlt b (by omega) k hf2
        have := hF k hf
        omega
    · by_cases eb : b = l.length
      · simp only [ea, eb, if_true, if_false]
        intro hf2 hf
        have := hlt a (by omega) k hf2
        have := hF k hf
        omega
      · simp only [ea, eb, if_false]
        exact h2 a b k (by omega) (by omega) hab
/-- all but the last. -/
theorem Many.first {B : Nat} {w0 w : World} {l m : List Ob} (h : Many B w0 w (l ++ m)) : Many B w0 w l := by
  obtain ⟨Fs, h1, h2⟩ := h.ex
  refine ⟨h.low, h.le, Fs, fun i o hi => h1 i o ?_, fun a b k ha hb => h2 a b k (by simp; omega) (by simp; omega)⟩
  rw [List.getElem?_append_left (List.getElem?_eq_some_iff.1 hi).1]; exact hi
theorem m_new {B : Nat} {w0 w : World} {l : List Ob} (h : Many B w0 w l) : Calls Try.prog 10 #[] w fun e w' => ∃ p, e = .returned (ptr p) ∧ Many B w0 w' (l ++ [.wr p []]) := by
  refine (new_any w).mono ?_
  rintro e w' ⟨F, p, q, sv, rfl, h1, h2, h3⟩
  exact ⟨p, rfl, h.push h3 (o := .wr p []) ⟨q, sv, h1⟩ h2⟩
theorem m_over {B : Nat} {w0 w : World} {l : List Ob} (h : Many B w0 w l) (v : Value) {zs : List Int} (hv : IsB w v zs) (hl : zs.length ≤ 140737488355328) : Calls Try.prog 16 #[v] w fun e w' => ∃ p, e = .returned (ptr p) ∧ Many B w0 w' (l ++ [.rd p (some zs)]) := by
  refine (over_any v w hv hl).mono ?_
  rintro e w' ⟨F, p, q, sv, rfl, h1, h2, h3⟩
  exact ⟨p, rfl, h.push h3 (o := .rd p (some zs)) ⟨q, sv, h1⟩ h2⟩
theorem m_uint {B : Nat} {w0 w : World} {l : List Ob} (h : Many B w0 w l) (i : Nat) {p : Nat} {zs : List Int} (hi : l[i]? = some (.wr p zs)) (N : Nat) (hN : N < 18446744073709551616) (hl : zs.length ≤ 70368744177664) :
    Calls Try.prog 24 #[ptr p, .int .u64 (N : Int)] w fun e w' => e = .returned (.tuple #[]) ∧ Many B w0 w' (l.set i (.wr p (zs ++ vi N))) := by
  obtain ⟨F, ⟨q, sv, hA⟩, _, ht⟩ := h.get i hi
  exact (wuint N w hA hN hl).mono fun e w' hh => ⟨hh.1, ht w' _ hh.2.ob⟩
theorem m_int {B : Nat} {w0 w : World} {l : List Ob} (h : Many B w0 w l) (i : Nat) {p : Nat} {zs : List Int} (hi : l[i]? = some (.wr p zs)) (n : Int) (hn : -9223372036854775808 ≤ n ∧ n ≤ 9223372036854775807) (hl : zs.length ≤ 70368744177664) :
    Calls Try.prog 26 #[ptr p, .int .i64 n] w fun e w' => e = .returned (.tuple #[]) ∧ Many B w0 w' (l.set i (.wr p (zs ++ vi (zz n)))) := by
  obtain ⟨F, ⟨q, sv, hA⟩, _, ht⟩ := h.get i hi
  exact (wint n w hA hn hl).mono fun e w' hh => ⟨hh.1, ht w' _ hh.2.ob⟩
theorem m_bool {B : Nat} {w0 w : World} {l : List Ob} (h : Many B w0 w l) (i : Nat) {p : Nat} {zs : List Int} (hi : l[i]? = some (.wr p zs)) (b : Bool) (hl : zs.length ≤ 70368744177664) :
    Calls Try.prog 27 #[ptr p, .bool b] w fun e w' => e = .returned (.tuple #[]) ∧ Many B w0 w' (l.set i (.wr p (zs ++ [if b then 1 else 0]))) := by
  obtain ⟨F, ⟨q, sv, hA⟩, _, ht⟩ := h.get i hi
  exact (wbool b w hA hl).mono fun e w' hh => ⟨hh.1, ht w' _ hh.2.ob⟩
theorem m_text {B : Nat} {w0 w : World} {l : List Ob} (h : Many B w0 w l) (i : Nat) {p : Nat} {zs : List Int} (hi : l[i]? = some (.wr p zs)) (s : List UInt8) (hs : s.length ≤ 70368744177664) (hl : zs.length ≤ 35184372088832) :
    Calls Try.prog 29 #[ptr p, str s] w fun e w' => e = .returned (.tuple #[]) ∧ Many B w0 w' (l.set i (.wr p (zs ++ (vi s.length ++ ints s)))) := by
  obtain ⟨F, ⟨q, sv, hA⟩, _, ht⟩ := h.get i hi
  exact (wtext s w hA hs hl).mono fun e w' hh => ⟨hh.1, ht w' _ hh.2.ob⟩
theorem m_len {B : Nat} {w0 w : World} {l : List Ob} (h : Many B w0 w l) (i : Nat) {p : Nat} {zs : List Int} (hi : l[i]? = some (.wr p zs)) (n : Int) (hn : -9223372036854775808 ≤ n ∧ n ≤ 9223372036854775807) (hl : zs.length ≤ 70368744177664) :
    Calls Try.prog 30 #[ptr p, .int .i64 n] w fun e w' => e = .returned (.tuple #[]) ∧ Many B w0 w' (l.set i (.wr p (zs ++ vi n.toNat))) := by
  obtain ⟨F, ⟨q, sv, hA⟩, _, ht⟩ := h.get i hi
  exact (wlen n w hA hn hl).mono fun e w' hh => ⟨hh.1, ht w' _ hh.2.ob⟩
/-- a value of the arguments, that lies below B. -/
theorem m_write {B : Nat} {w0 w : World} {l : List Ob} (h : Many B w0 w l) (i : Nat) {p : Nat} {zs : List Int} (hi : l[i]? = some (.wr p zs)) (x : Vl) (lv : Value) (hx : x.Ok) (hB : B = w0.heap.size) (hv : IsB w0 lv x.l) (hls : x.l.length ≤ 70368744177664) (hss : x.s.length ≤ 70368744177664) (hl : zs.length ≤ 35184372088832) :
    Calls Try.prog 12 #[ptr p, agg x lv] w fun e w' => e = .returned (.tuple #[]) ∧ Many B w0 w' (l.set i (.wr p (zs ++ form x))) := by
  obtain ⟨F, ⟨q, sv, hA⟩, hF, ht⟩ := h.get i hi
  refine (write_any x lv w hA hx (fun w' k => hv.below ?_) hls hss hl).mono fun e w' hh => ⟨hh.1, ht w' _ hh.2.ob⟩
  subst hB
  exact h.low.trans (k.below h.size hF)
theorem m_out {B : Nat} {w0 w : World} {l : List Ob} (h : Many B w0 w l) (i : Nat) {p : Nat} {zs : List Int} (hi : l[i]? = some (.wr p zs)) (hl : zs.length ≤ 140737488355328) :
    Calls Try.prog 15 #[ptr p] w fun e w' => ∃ a c, e = .returned (.slice a zs.length c) ∧ Own w.heap.size w' (.slice a zs.length c) zs ∧ Many B w0 w' l ∧ Below w.heap.size w w' := by
  obtain ⟨F, ⟨q, sv, hA⟩, _, ht⟩ := h.get i hi
  refine (wout w hA hl).mono ?_
  rintro e w' ⟨a, c, rfl, o, b⟩
  exact ⟨a, c, rfl, o, h.later b, b⟩
/-- bytes of one's own beside the others. -/
theorem m_own {B : Nat} {w0 w w' : World} {l : List Ob} (h : Many B w0 w l) (hb : Below w.heap.size w w') {v : Value} {zs : List Int} (ho : Own w.heap.size w' v zs) : Many B w0 w' (l ++ [.by_ v zs]) :=
  h.push hb (o := .by_ v zs) (F := fun k => v.ownBlock = some k) ⟨ho.base (Nat.zero_le _), fun _ hk => hk, fun _ hk => (ho.lt hk).2⟩ fun _ hk => (ho.lt hk).1
theorem m_by {B : Nat} {w0 w : World} {l : List Ob} (h : Many B w0 w l) (i : Nat) {v : Value} {zs : List Int} (hi : l[i]? = some (.by_ v zs)) : Own 0 w v zs := by
  obtain ⟨F, hA, _, ht⟩ := h.get i hi
  exact hA.1
theorem m_app {B : Nat} {w0 w : World} {l : List Ob} (h : Many B w0 w l) (i : Nat) {v v2 : Value} {zs bs : List Int} (hi : l[i]? = some (.by_ v zs)) (h2 : IsB w v2 bs) (hl : zs.length + bs.length ≤ 140737488355328) :
    ∃ a' c' w', (∀ ty, (Builtin.append_ #[26, 26] ty #[v, v2]).run Try.prog w = .ok (.slice a' (zs.length + bs.length) c') w') ∧ Many B w0 w' (l.set i (.by_ (.slice a' (zs.length + bs.length) c') (zs ++ bs))) := by
  obtain ⟨F, hA, _, ht⟩ := h.get i hi
  obtain ⟨a', c', w', hrun, ho, hg, hn⟩ := app_run hA.1 h2 hl (Nat.zero_le _)
  refine ⟨a', c', w', hrun, ht w' _ ⟨fun k => F k ∨ (Value.slice a' (zs.length + bs.length) c').ownBlock = some k, ⟨ho, fun k hk => .inr hk, fun k hk => ?_⟩, kept_of_grown hg hA.2.1, fun k hk => ?_⟩⟩
  · rcases hk with hk | hk
    · exact Nat.lt_of_lt_of_le (hA.2.2 k hk) hg.size
    · exact (ho.lt hk).2
  · rcases hk with hk | hk
    · exact .inl hk
    · rcases hn with e | e
      · exact .inl (hA.2.1 k (e ▸ hk))
      · rw [e] at hk; cases hk; exact .inr (Nat.le_refl _)
theorem m_err {B : Nat} {w0 w : World} {l : List Ob} (h : Many B w0 w l) (i : Nat) {p : Nat} {st : St} (hi : l[i]? = some (.rd p st)) :
    Calls Try.prog 20 #[ptr p] w fun e w' => e = .returned (.int .i64 (errP st)) ∧ w' = w := by
  obtain ⟨F, ⟨q, sv, hA⟩, _, ht⟩ := h.get i hi
  exact rerr w hA
theorem m_done {B : Nat} {w0 w : World} {l : List Ob} (h : Many B w0 w l) (i : Nat) {p : Nat} {st : St} (hi : l[i]? = some (.rd p st)) :
    Calls Try.prog 22 #[ptr p] w fun e w' => e = .returned (.int .i64 (doneP st)) ∧ w' = w := by
  obtain ⟨F, ⟨q, sv, hA⟩, _, ht⟩ := h.get i hi
  exact rdone w hA
theorem m_ruint {B : Nat} {w0 w : World} {l : List Ob} (h : Many B w0 w l) (i : Nat) {p : Nat} {st : St} (hi : l[i]? = some (.rd p st)) :
    Calls Try.prog 34 #[ptr p] w fun e w' => e = .returned (.int .u64 ((rnum 18446744073709551615 st).1 : Int)) ∧ Many B w0 w' (l.set i (.rd p (rnum 18446744073709551615 st).2)) := by
  obtain ⟨F, ⟨q, sv, hA⟩, _, ht⟩ := h.get i hi
  exact (ruint w hA).mono fun e w' hh => ⟨hh.1, ht w' _ hh.2.ob⟩
theorem m_rbool {B : Nat} {w0 w : World} {l : List Ob} (h : Many B w0 w l) (i : Nat) {p : Nat} {st : St} (hi : l[i]? = some (.rd p st)) :
    Calls Try.prog 36 #[ptr p] w fun e w' => e = .returned (.bool ((rnum 1 st).1 == 1)) ∧ Many B w0 w' (l.set i (.rd p (rnum 1 st).2)) := by
  obtain ⟨F, ⟨q, sv, hA⟩, _, ht⟩ := h.get i hi
  exact (rbool w hA).mono fun e w' hh => ⟨hh.1, ht w' _ hh.2.ob⟩
theorem m_rlen {B : Nat} {w0 w : World} {l : List Ob} (h : Many B w0 w l) (i : Nat) {p : Nat} {st : St} (hi : l[i]? = some (.rd p st)) (most : Int) (hm : most ≤ 9223372036854775807) :
    Calls Try.prog 39 #[ptr p, .int .i64 most] w fun e w' => e = .returned (.int .i64 ((lenP most st).1 : Int)) ∧ Many B w0 w' (l.set i (.rd p (lenP most st).2)) := by
  obtain ⟨F, ⟨q, sv, hA⟩, _, ht⟩ := h.get i hi
  exact (rlen most w hA hm).mono fun e w' hh => ⟨hh.1, ht w' _ hh.2.ob⟩
end Go.Proofs.Ythhfahnlcoiblaa
