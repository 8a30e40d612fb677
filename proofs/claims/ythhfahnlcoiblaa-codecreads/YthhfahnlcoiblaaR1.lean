/- The reader: how it lies in memory, contracts of left, made, Err, Done, fail. -/
import Derived.Test.YthhfahnlcoiblaaW1
import Derived.Deep.RegionWith
namespace Go.Proofs.Ythhfahnlcoiblaa
open Go.RowKit

/-- a slice of bytes in a block of F. -/
def Sl (F : Nat → Prop) (w : World) (sv : Value) (zs : List Int) : Prop := Byt zs ∧ ((sv = .slice none 0 0 ∧ zs = []) ∨ ∃ b off c cur, sv = .slice (some ⟨b, off, none⟩) zs.length c ∧ zs.length ≤ c ∧ c ≤ maxLen ∧ F b ∧ w.heap[b]? = some (.cells cur 5) ∧ ∀ i, i < zs.length → cur[off + i]? = some (.int .u8 (zs.getD i 0)))
theorem Sl.isB {F : Nat → Prop} {w : World} {sv : Value} {zs : List Int} (h : Sl F w sv zs) : IsB w sv zs := by
  rcases h with ⟨hb, ⟨rfl, rfl⟩ | ⟨b, off, c, cur, rfl, h1, h2, _, h3, h4⟩⟩
  · exact ⟨by simp, hb, none, 0, rfl, by simp, by simp, .inl rfl⟩
  · exact ⟨by omega, hb, _, c, rfl, h1, h2, .inr ⟨b, off, rfl, fun i hi => by rw [cell_of h3]; exact h4 i hi⟩⟩
theorem Sl.slice {F : Nat → Prop} {w : World} {sv : Value} {zs : List Int} (h : Sl F w sv zs) : ∃ a c, sv = .slice a zs.length c := h.isB.slice
theorem Sl.keep {F : Nat → Prop} {w w' : World} {sv : Value} {zs : List Int} (h : Sl F w sv zs) (hb : ∀ k t c, F k → w.heap[k]? = some (.cells c t) → t = 5 → w'.heap[k]? = w.heap[k]?) : Sl F w' sv zs := by
  rcases h with ⟨hz, h | ⟨b, off, c, cur, rfl, h1, h2, h5, h3, h4⟩⟩
  · exact ⟨hz, .inl h⟩
  · exact ⟨hz, .inr ⟨b, off, c, cur, rfl, h1, h2, h5, (hb b _ _ h5 h3 rfl).trans h3, h4⟩⟩
theorem Sl.nil (F : Nat → Prop) (w : World) : Sl F w (.slice none 0 0) [] := ⟨byt_nil, .inl ⟨rfl, rfl⟩⟩
theorem Sl.of_own {F : Nat → Prop} {B : Nat} {w : World} {v : Value} {zs : List Int} (h : Own B w v zs) (hF : ∀ k, v.ownBlock = some k → F k) : Sl F w v zs := by
  rcases h.form with ⟨rfl, rfl⟩ | ⟨g, c, cur, rfl, h1, h2, _, h3, _, h4⟩
  · exact Sl.nil _ _
  · exact ⟨h.1, .inr ⟨g, 0, c, cur, rfl, h1, h2, hF g rfl, h3, fun i hi => by rw [Nat.zero_add]; exact h4 i hi⟩⟩
/-- what is left behind the first k bytes. -/
theorem Sl.drop {F : Nat → Prop} {w : World} {b off c : Nat} {zs : List Int} (h : Sl F w (.slice (some ⟨b, off, none⟩) zs.length c) zs) (k : Nat) (hk : k ≤ zs.length) (o m d : Nat) (ho : o = off + k ∨ k = zs.length) (hm : m = zs.length - k) (hd1 : m ≤ d) (hd2 : d ≤ maxLen) : Sl F w (.slice (some ⟨b, o, none⟩) m d) (zs.drop k) := by
  obtain ⟨hz, ⟨e, _⟩ | ⟨b', off', c', cur, e, h1, h2, h5, h3, h4⟩⟩ := h
  · cases e
  · cases e
    have hl : (zs.drop k).length = m := by simp; omega
    refine ⟨hz.drop k, .inr ⟨b, o, d, cur, by rw [hl], by omega, hd2, h5, h3, fun i hi => ?_⟩⟩
    rw [hl] at hi
    obtain rfl : o = off + k := by omega
    rw [Nat.add_assoc, h4 (k + i) (by omega)]
    simp [List.getD]
/-- a reader of Over. -/
structure RAt (F : Nat → Prop) (w : World) (p q : Nat) (sv : Value) (st : St) : Prop where
  cell : w.heap[p]? = some (.cells #[ptr q, .bool st.isNone] 55)
  row : w.heap[q]? = some (.cells #[sv] 62)
  inp : F p
  inq : F q
  lt : ∀ k, F k → k < w.heap.size
  bytes : Sl F w sv (st.getD [])
theorem RAt.keep {F : Nat → Prop} {w w' : World} {p q : Nat} {sv : Value} {st : St} (h : RAt F w p q sv st) (hs : w.heap.size ≤ w'.heap.size) (hb : ∀ k, F k → w'.heap[k]? = w.heap[k]?) : RAt F w' p q sv st :=
  ⟨(hb p h.inp).trans h.cell, (hb q h.inq).trans h.row, h.inp, h.inq, fun k hk => Nat.lt_of_lt_of_le (h.lt k hk) hs, h.bytes.keep fun k _ _ hk _ _ => hb k hk⟩
theorem RAt.below {F : Nat → Prop} {w w' : World} {p q : Nat} {sv : Value} {st : St} (h : RAt F w p q sv st) (hb : Below w.heap.size w w') : RAt F w' p q sv st :=
  h.keep hb.size fun k hk => hb.block k (h.lt k hk)
theorem RAt.heap {F : Nat → Prop} {w w' : World} {p q : Nat} {sv : Value} {st : St} (h : RAt F w p q sv st) (e : w'.heap = w.heap) : RAt F w' p q sv st :=
  h.keep (by rw [e]; exact Nat.le_refl _) fun k _ => by rw [e]
theorem RAt.ne {F : Nat → Prop} {w : World} {p q : Nat} {sv : Value} {st : St} (h : RAt F w p q sv st) : p ≠ q := fun e => by
  have := h.cell; rw [e, h.row] at this; simp at this
/-- the two blocks that a reader's calls turn. -/
def two (p q k : Nat) : Prop := k = p ∨ k = q
/-- what a call made of a reader: its blocks stay the same. -/
def RTo (F : Nat → Prop) (w w' : World) (p q : Nat) (st : St) : Prop := ∃ sv, RAt F w' p q sv st ∧ Kept F w w'
theorem RAt.to {F : Nat → Prop} {w : World} {p q : Nat} {sv : Value} {st : St} (h : RAt F w p q sv st) : RTo F w w p q st := ⟨sv, h, Kept.refl _ _⟩
theorem RAt.later {F : Nat → Prop} {w w' : World} {p q : Nat} {sv : Value} {st : St} (h : RAt F w p q sv st) (hb : Below w.heap.size w w') : RTo F w w' p q st := ⟨sv, h.below hb, kept_of_below hb⟩
theorem RTo.then {F : Nat → Prop} {w w1 w2 : World} {p q : Nat} {st' : St} (h : Kept F w w1) (H : RTo F w1 w2 p q st') : RTo F w w2 p q st' := by
  obtain ⟨sv2, h2, k2⟩ := H
  exact ⟨sv2, h2, h.trans k2 fun k hk => .inl hk⟩
theorem RTo.later {F : Nat → Prop} {w w1 w2 : World} {p q : Nat} {st : St} (h : RTo F w w1 p q st) (hb : Below w1.heap.size w1 w2) : RTo F w w2 p q st := by
  obtain ⟨sv, h1, k1⟩ := h
  exact ⟨sv, h1.below hb, k1.trans (F' := fun _ => False) (kept_of_below hb) fun k hk => hk.elim⟩
theorem RTo.after {F : Nat → Prop} {w w1 w2 : World} {p q : Nat} {st : St} (hb : Below w.heap.size w w1) (h : RTo F w1 w2 p q st) : RTo F w w2 p q st :=
  RTo.then (kept_of_below hb) h
set_option maxHeartbeats 400000 in
theorem rmade_yes {p q : Nat} (w : World) (h : w.cell? ⟨p, 0, none⟩ = some (ptr q)) :
    Calls Try.prog 41 #[ptr p] w fun e w' => e = .returned (.bool true) ∧ w' = w := by
  unfold ptr at *
  go_enter Try.func41, Try.ntmps41
  go_wp2
  go_ret
  exact ⟨rfl, rfl⟩
set_option maxHeartbeats 400000 in
theorem rmade_nil (w : World) : Calls Try.prog 41 #[.pointer none] w fun e w' => e = .returned (.bool false) ∧ w' = w := by
  go_enter Try.func41, Try.ntmps41
  go_wp2
  go_ret
  exact ⟨rfl, rfl⟩
set_option maxHeartbeats 400000 in
theorem rmade_no {p : Nat} (w : World) (h : w.cell? ⟨p, 0, none⟩ = some (.pointer none)) :
    Calls Try.prog 41 #[ptr p] w fun e w' => e = .returned (.bool false) ∧ w' = w := by
  unfold ptr at *
  go_enter Try.func41, Try.ntmps41
  go_wp2
  go_ret
  exact ⟨rfl, rfl⟩
set_option maxHeartbeats 400000 in
theorem left_any {q : Nat} {a : Option Addr} {n c : Nat} (w : World) (h : w.cell? ⟨q, 0, none⟩ = some (.slice a n c)) :
    Calls Try.prog 42 #[ptr q] w fun e w' => e = .returned (.int .i64 (n : Int)) ∧ w' = w := by
  unfold ptr at *
  go_enter Try.func42, Try.ntmps42
  go_wp2
  go_ret
  exact ⟨rfl, rfl⟩
set_option maxHeartbeats 400000 in
theorem rerr {F : Nat → Prop} {p q : Nat} {sv : Value} {st : St} (w : World) (h : RAt F w p q sv st) :
    Calls Try.prog 20 #[ptr p] w fun e w' => e = .returned (.int .i64 (errP st)) ∧ w' = w := by
  have c0 : w.cell? ⟨p, 0, none⟩ = some (ptr q) := by rw [cell_of h.cell]; rfl
  have c1 : w.cell? ⟨p, 1, none⟩ = some (.bool st.isNone) := by rw [cell_of h.cell]; rfl
  have hm := hid (rmade_yes w c0)
  clear h
  unfold ptr at *
  cases st with
  | none =>
    simp only [Option.isNone_none] at c1
    go_enter Try.func20, Try.ntmps20
    go_wp2_with (go_at_call 41; refine hm.out.mono ?_; rintro e w' ⟨rfl, rfl⟩)
    go_ret
    exact ⟨rfl, rfl⟩
  | some zs =>
    simp only [Option.isNone_some] at c1
    go_enter Try.func20, Try.ntmps20
    go_wp2_with (go_at_call 41; refine hm.out.mono ?_; rintro e w' ⟨rfl, rfl⟩)
    go_ret
    exact ⟨rfl, rfl⟩
set_option maxHeartbeats 400000 in
theorem rerr_nil (w : World) : Calls Try.prog 20 #[.pointer none] w fun e w' => e = .returned (.int .i64 1) ∧ w' = w := by
  go_enter Try.func20, Try.ntmps20
  go_wp2_with (go_at_call 41; refine (rmade_nil _).mono ?_; rintro e w' ⟨rfl, rfl⟩)
  go_ret
  exact ⟨rfl, rfl⟩
set_option maxHeartbeats 400000 in
theorem rerr_no {p : Nat} (w : World) (h : w.cell? ⟨p, 0, none⟩ = some (.pointer none)) : Calls Try.prog 20 #[ptr p] w fun e w' => e = .returned (.int .i64 1) ∧ w' = w := by
  have hm := hid (rmade_no w h)
  unfold ptr at *
  go_enter Try.func20, Try.ntmps20
  go_wp2_with (go_at_call 41; refine hm.out.mono ?_; rintro e w' ⟨rfl, rfl⟩)
  go_ret
  exact ⟨rfl, rfl⟩
set_option maxHeartbeats 400000 in
theorem rdone {F : Nat → Prop} {p q : Nat} {sv : Value} {st : St} (w : World) (h : RAt F w p q sv st) :
    Calls Try.prog 22 #[ptr p] w fun e w' => e = .returned (.int .i64 (doneP st)) ∧ w' = w := by
  have c0 : w.cell? ⟨p, 0, none⟩ = some (ptr q) := by rw [cell_of h.cell]; rfl
  have he := hid (rerr w h)
  obtain ⟨a, c, hsv⟩ := h.bytes.slice
  have c1 : w.cell? ⟨q, 0, none⟩ = some (.slice a (st.getD []).length c) := by rw [cell_of h.row, ← hsv]; rfl
  have hl := hid (left_any w c1)
  clear h c1 hsv
  unfold ptr at *
  cases st with
  | none =>
    simp only [errP] at he
    go_enter Try.func22, Try.ntmps22
    go_wp2_with (go_at_call 20; refine he.out.mono ?_; rintro e w' ⟨rfl, rfl⟩)
    go_ret
    exact ⟨rfl, rfl⟩
  | some zs =>
    simp only [errP, Option.getD_some] at he hl
    cases zs with
    | nil =>
      simp only [List.length_nil] at hl
      go_enter Try.func22, Try.ntmps22
      go_wp2_with (first | (go_at_call 20; refine he.out.mono ?_; rintro e w' ⟨rfl, rfl⟩) | (go_at_call 42; refine hl.out.mono ?_; rintro e w' ⟨rfl, rfl⟩))
      go_ret
      exact ⟨rfl, rfl⟩
    | cons z zs =>
      obtain ⟨n, hn⟩ : ∃ n : Nat, n = (z :: zs).length := ⟨_, rfl⟩
      rw [← hn] at hl
      have hn0 : (0 : Int) < (n : Int) := by rw [hn]; simp
      clear hn
      go_enter Try.func22, Try.ntmps22
      go_wp2_with (first | (go_at_call 20; refine he.out.mono ?_; rintro e w' ⟨rfl, rfl⟩) | (go_at_call 42; refine hl.out.mono ?_; rintro e w' ⟨rfl, rfl⟩))
      go_ret
      exact ⟨rfl, rfl⟩
/-- .. turned blocks: the struct, the row. -/
theorem RAt.turn {F : Nat → Prop} {w w' : World} {p q : Nat} {sv sv' : Value} {st st' : St} (h : RAt F w p q sv st) (k : Kept (two p q) w w') (hp : w'.heap[p]? = some (.cells #[ptr q, .bool st'.isNone] 55)) (hq : w'.heap[q]? = some (.cells #[sv'] 62)) (hs : Sl F w sv' (st'.getD [])) : RTo F w w' p q st' := by
  refine ⟨sv', ⟨hp, hq, h.inp, h.inq, fun j hj => Nat.lt_of_lt_of_le (h.lt j hj) k.size, hs.keep fun j t c hj hc ht => k.block j (h.lt j hj) ?_⟩, k.mono fun j _ e => ?_⟩
  · rintro (rfl | rfl)
    · rw [h.cell] at hc; subst ht; simp at hc
    · rw [h.row] at hc; subst ht; simp at hc
  · rcases e with rfl | rfl
    · exact h.inp
    · exact h.inq
set_option maxHeartbeats 400000 in
theorem rfail {F : Nat → Prop} {p q : Nat} {sv : Value} {st : St} (w : World) (h : RAt F w p q sv st) :
    Calls Try.prog 47 #[ptr p] w fun e w' => e = .returned (.tuple #[]) ∧ RTo F w w' p q none := by
  have c0 : w.cell? ⟨p, 0, none⟩ = some (ptr q) := by rw [cell_of h.cell]; rfl
  have c1 : w.cell? ⟨p, 1, none⟩ = some (.bool st.isNone) := by rw [cell_of h.cell]; rfl
  have c2 : w.cell? ⟨q, 0, none⟩ = some sv := by rw [cell_of h.row]; rfl
  have z1 : w.frozen? ⟨p, 1, none⟩ = false := frozen_of h.cell 1
  have z2 : w.frozen? ⟨q, 0, none⟩ = false := frozen_of h.row 0
  have hne := h.ne
  have hm := hid (rmade_yes w c0)
  have ht : Hid (RTo F w ((w.setCell ⟨p, 1, none⟩ (.bool true)).setCell ⟨q, 0, none⟩ (.slice none 0 0)) p q none) := by
    refine h.turn (sv' := .slice none 0 0) ((kept_set (F := two p q) _ _ _ _ (.inl rfl)).trans (kept_set (F := two p q) _ _ _ _ (.inr rfl)) fun k hk => .inl hk) ?_ ?_ (Sl.nil _ _)
    · rw [heap_set _ _ _ _ _ hne, heap_set_at h.cell]; rfl
    · rw [heap_set_at ((heap_set _ _ _ _ _ hne.symm).trans h.row)]; rfl
  clear h
  unfold ptr at *
  go_enter Try.func47, Try.ntmps47
  go_wp2_with (go_at_call 41; refine hm.out.mono ?_; rintro e w' ⟨rfl, rfl⟩)
  go_end0
  exact ⟨rfl, ht.out⟩
set_option maxHeartbeats 400000 in
theorem rfail_nil (w : World) : Calls Try.prog 47 #[.pointer none] w fun e w' => e = .returned (.tuple #[]) ∧ w' = w := by
  go_enter Try.func47, Try.ntmps47
  go_wp2_with (go_at_call 41; refine (rmade_nil _).mono ?_; rintro e w' ⟨rfl, rfl⟩)
  go_end0
  exact ⟨rfl, rfl⟩
set_option maxHeartbeats 400000 in
theorem rfail_no {p : Nat} (w : World) (h : w.cell? ⟨p, 0, none⟩ = some (.pointer none)) : Calls Try.prog 47 #[ptr p] w fun e w' => e = .returned (.tuple #[]) ∧ w' = w := by
  have hm := hid (rmade_no w h)
  unfold ptr at *
  go_enter Try.func47, Try.ntmps47
  go_wp2_with (go_at_call 41; refine hm.out.mono ?_; rintro e w' ⟨rfl, rfl⟩)
  go_end0
  exact ⟨rfl, rfl⟩
end Go.Proofs.Ythhfahnlcoiblaa
