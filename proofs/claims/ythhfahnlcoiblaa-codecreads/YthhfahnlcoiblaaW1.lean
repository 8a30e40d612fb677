/- The writer: how it lies in memory, contracts of the row's put and putNumber, of New, made, Uint, Int, Bool, Bytes, Text, Len, Out. -/
import Derived.Test.YthhfahnlcoiblaaM
namespace Go.Proofs.Ythhfahnlcoiblaa
open Go.RowKit

/-- a row of bytes of one's own, in blocks of F. -/
structure RowAt (F : Nat → Prop) (w : World) (q : Nat) (sv : Value) (zs : List Int) : Prop where
  cell : w.heap[q]? = some (.cells #[sv] 62)
  own : Own 0 w sv zs
  inF : ∀ k, sv.ownBlock = some k → F k
  inq : F q
  lt : ∀ k, F k → k < w.heap.size
theorem Own.block {B : Nat} {w : World} {v : Value} {zs : List Int} (h : Own B w v zs) {k : Nat} (hk : v.ownBlock = some k) : ∃ c, w.heap[k]? = some (.cells c 5) := by
  rcases h.form with ⟨rfl, rfl⟩ | ⟨g, c, cur, rfl, _, _, _, h3, _⟩
  · cases hk
  · cases hk; exact ⟨cur, h3⟩
theorem RowAt.keep {F : Nat → Prop} {w w' : World} {q : Nat} {sv : Value} {zs : List Int} (h : RowAt F w q sv zs) (hs : w.heap.size ≤ w'.heap.size) (hb : ∀ k, F k → w'.heap[k]? = w.heap[k]?) : RowAt F w' q sv zs :=
  ⟨(hb q h.inq).trans h.cell, h.own.keep fun k hk => hb k (h.inF k hk), h.inF, h.inq, fun k hk => Nat.lt_of_lt_of_le (h.lt k hk) hs⟩
theorem RowAt.below {F : Nat → Prop} {w w' : World} {q : Nat} {sv : Value} {zs : List Int} (h : RowAt F w q sv zs) (hb : Below w.heap.size w w') : RowAt F w' q sv zs :=
  h.keep hb.size fun k hk => hb.block k (h.lt k hk)
theorem RowAt.mono {F F' : Nat → Prop} {w : World} {q : Nat} {sv : Value} {zs : List Int} (h : RowAt F w q sv zs) (hF : ∀ k, F k → F' k) (hl : ∀ k, F' k → k < w.heap.size) : RowAt F' w q sv zs :=
  ⟨h.cell, h.own, fun k hk => hF k (h.inF k hk), hF q h.inq, hl⟩
/-- what a call made of a row. -/
def RowTo (F : Nat → Prop) (w w' : World) (q : Nat) (zs : List Int) : Prop := ∃ F' sv, RowAt F' w' q sv zs ∧ Kept F w w' ∧ (∀ k, F k → F' k) ∧ ∀ k, F' k → F k ∨ w.heap.size ≤ k
theorem RowAt.to {F : Nat → Prop} {w : World} {q : Nat} {sv : Value} {zs : List Int} (h : RowAt F w q sv zs) : RowTo F w w q zs := ⟨F, sv, h, Kept.refl _ _, fun _ h => h, fun _ h => .inl h⟩
theorem RowTo.trans {F F1 F2 : Nat → Prop} {w w1 w2 : World} {q : Nat} {sv : Value} {zs : List Int} (k1 : Kept F w w1) (i1 : ∀ k, F k → F1 k) (f1 : ∀ k, F1 k → F k ∨ w.heap.size ≤ k) (h : RowAt F2 w2 q sv zs) (k2 : Kept F1 w1 w2) (i2 : ∀ k, F1 k → F2 k) (f2 : ∀ k, F2 k → F1 k ∨ w1.heap.size ≤ k) : RowTo F w w2 q zs := by
  refine ⟨F2, sv, h, k1.trans k2 f1, fun k hk => i2 k (i1 k hk), fun k hk => ?_⟩
  rcases f2 k hk with h | h
  · exact f1 k h
  · exact .inr (Nat.le_trans k1.size h)
/-- .. behind blocks that were laid meanwhile. -/
theorem RowTo.after {F : Nat → Prop} {w w1 w2 : World} {q : Nat} {zs : List Int} (hb : Below w.heap.size w w1) (h : RowTo F w1 w2 q zs) : RowTo F w w2 q zs := by
  obtain ⟨F2, sv, h1, k2, i2, f2⟩ := h
  exact RowTo.trans (kept_of_below hb) (fun _ h => h) (fun k hk => .inl hk) h1 k2 i2 f2
theorem RowTo.then {F : Nat → Prop} {w w1 w2 : World} {q : Nat} {zs zs' : List Int} (h : RowTo F w w1 q zs) (H : ∀ F1 sv, RowAt F1 w1 q sv zs → RowTo F1 w1 w2 q zs') : RowTo F w w2 q zs' := by
  obtain ⟨F1, sv, h1, k1, i1, f1⟩ := h
  obtain ⟨F2, sv2, h2, k2, i2, f2⟩ := H F1 sv h1
  exact RowTo.trans k1 i1 f1 h2 k2 i2 f2
/-- the cell of a row takes a grown slice. -/
theorem row_store {F : Nat → Prop} {w w1 : World} {q : Nat} {sv sv' : Value} {zs zs' : List Int} (h : RowAt F w q sv zs) (ho : Own 0 w1 sv' zs') (hg : w.grownBy w1 sv.ownBlock) (hn : sv'.ownBlock = sv.ownBlock ∨ sv'.ownBlock = some w.heap.size) :
    w1.heap[q]? = some (.cells #[sv] 62) ∧ RowTo F w (w1.setCell ⟨q, 0, none⟩ sv') q zs' := by
  have hqn : sv.ownBlock ≠ some q := fun e => by
    obtain ⟨c, hc⟩ := h.own.block e
    rw [h.cell] at hc; simp at hc
  have hq1 : w1.heap[q]? = some (.cells #[sv] 62) := (hg.block q (h.lt q h.inq) (fun e => hqn e.symm)).trans h.cell
  have hqn' : sv'.ownBlock ≠ some q := fun e => by
    obtain ⟨c, hc⟩ := ho.block e
    rw [hq1] at hc; simp at hc
  have hc : (w1.setCell ⟨q, 0, none⟩ sv').heap[q]? = some (.cells #[sv'] 62) := by
    rw [heap_set_at hq1]; rfl
  have k1 : Kept F w w1 := kept_of_grown hg fun k hk => h.inF k hk
  refine ⟨hq1, fun k => F k ∨ sv'.ownBlock = some k, sv', ⟨hc, ho.keep fun k hk => heap_set _ _ _ _ _ fun e => hqn' (e ▸ hk), fun k hk => .inr hk, .inl h.inq, fun k hk => ?_⟩, k1.trans (kept_set _ _ _ _ h.inq) fun k hk => .inl hk, fun k hk => .inl hk, fun k hk => ?_⟩
  · rw [size_set]
    rcases hk with hk | hk
    · exact Nat.lt_of_lt_of_le (h.lt k hk) hg.size
    · exact (ho.lt hk).2
  · rcases hk with hk | hk
    · exact .inl hk
    · rcases hn with e | e
      · exact .inl (h.inF k (e ▸ hk))
      · rw [e] at hk; cases hk; exact .inr (Nat.le_refl _)
set_option maxHeartbeats 1000000 in
theorem put_any {F : Nat → Prop} {q : Nat} {sv : Value} {zs bs : List Int} (v : Value) (w : World) (h : RowAt F w q sv zs) (hv : IsB w v bs) (hl : zs.length + bs.length ≤ 140737488355328) :
    Calls Try.prog 44 #[ptr q, v] w fun e w' => e = .returned (.tuple #[]) ∧ RowTo F w w' q (zs ++ bs) := by
  obtain ⟨a, c, rfl⟩ := hv.slice
  obtain ⟨a', c', w', hrun, ho, hg, hn⟩ := app_run h.own hv hl (Nat.zero_le _)
  obtain ⟨sa, sc, hsv⟩ := h.own.slice
  obtain ⟨hq1, ht⟩ := row_store h ho hg hn
  have c0 : w.cell? ⟨q, 0, none⟩ = some sv := by rw [cell_of h.cell]; rfl
  have f1 : w'.frozen? ⟨q, 0, none⟩ = false := frozen_of hq1 0
  have c1 : w'.cell? ⟨q, 0, none⟩ = some sv := by rw [cell_of hq1]; rfl
  subst hsv
  replace ht := hid ht
  clear ho hg hn hq1 h hv
  unfold ptr
  go_enter Try.func44, Try.ntmps44
  go_wp2_with (at_builtin; refine wpList_append_run _ rfl _ _ 26 rfl _ _ _ _ rfl rfl hrun ?_)
  go_end0
  exact ⟨rfl, ht.out⟩
theorem or_all : ∀ m : Fin 256, bits .or .u8 ((m.val : Nat) : Int) 128 = ((128 + m.val % 128 : Nat) : Int) := by decide +kernel
theorem or7 (n : Nat) : bits .or .u8 ((n : Int) % 256) 128 = ((128 + n % 128 : Nat) : Int) := by
  have h := or_all ⟨n % 256, Nat.mod_lt _ (by omega)⟩
  simp only at h
  rw [show ((n : Int) % 256) = ((n % 256 : Nat) : Int) by omega, h]
  congr 1
  omega
theorem isB_one (w : World) (z : Int) (hz : 0 ≤ z ∧ z < 256) : IsB (w.alloc (.cells #[.int .u8 z] 5)) (.slice (some ⟨w.heap.size, 0, none⟩) 1 1) [z] :=
  (own_new w _ [z] _ _ rfl rfl rfl (byt_one hz) (by unfold maxLen; simp)).isB
set_option maxHeartbeats 1000000 in
theorem putNumber_any {F : Nat → Prop} {q : Nat} {sv : Value} {zs : List Int} (N : Nat) (w : World) (h : RowAt F w q sv zs) (hN : N < 18446744073709551616) (hl : zs.length ≤ 70368744177664) :
    Calls Try.prog 43 #[ptr q, .int .u64 (N : Int)] w fun e w' => e = .returned (.tuple #[]) ∧ RowTo F w w' q (zs ++ vi N) := by
  have hv10 := vi_len10 hN
  have h0 := hid h.to
  clear h
  go_enter Try.func43, Try.ntmps43
  unfold ptr
  go_wp2
  go_loopw [1] (fun nv wr => ∃ (n : Nat) (b : List Int), n ≤ N ∧ nv = .int .u64 (n : Int) ∧ b ++ vi n = vi N ∧ RowTo F w wr q (zs ++ b)) (fun nv _ => (intOf nv).toNat)
  case atStart => exact ⟨N, [], Nat.le_refl _, rfl, rfl, by simpa using h0.out⟩
  case round =>
    obtain ⟨n, b, hn, rfl, hv, ht⟩ := hrel
    have hbl : b.length ≤ 10 := by have := congrArg List.length hv; simp at this; omega
    have HV := hid hv
    obtain ⟨F1, s1, r1, k1, i1, f1⟩ := ht
    clear hv h0
    by_cases h : 128 ≤ n
    · have h' : (128 : Int) ≤ (n : Int) := by omega
      have e7 := hid (or7 n)
      have hp := hid (put_any (bs := [bits .or .u8 ((n : Int) % 256) 128]) _ _ (r1.below (alloc_below wr (.cells #[.int .u8 (bits .or .u8 ((n : Int) % 256) 128)] 5))) (isB_one wr _ (by rw [e7.out]; omega)) (by simp; omega))
      unfold ptr at hp
      go_wp2_with (go_at_call 44; refine hp.out.mono ?_; rintro e w' ⟨rfl, t2⟩)
      go_roundw
      case rel =>
        refine ⟨n / 128, b ++ [((128 + n % 128 : Nat) : Int)], by omega, by go_num, by rw [← HV.out, vi_ge (show ¬ n < 128 by omega)]; simp, ?_⟩
        rw [e7.out] at t2
        rw [← List.append_assoc]
        obtain ⟨F2, s2, r2, k2, i2, f2⟩ := RowTo.after (alloc_below wr _) t2
        exact RowTo.trans k1 i1 f1 r2 k2 i2 f2
      case measure => simp [intOf]; omega
    · have h' : ¬ (128 : Int) ≤ (n : Int) := by omega
      have hp := hid (put_any (bs := [(n : Int)]) _ _ (r1.below (alloc_below wr (.cells #[.int .u8 (n : Int)] 5))) (isB_one wr _ (by omega)) (by simp; omega))
      unfold ptr at hp
      go_wp2_with (go_at_call 44; refine hp.out.mono ?_; rintro e w' ⟨rfl, t2⟩)
      go_end0
      refine ⟨rfl, ?_⟩
      rw [← HV.out, vi_lt (show n < 128 by omega), ← List.append_assoc]
      obtain ⟨F2, s2, r2, k2, i2, f2⟩ := RowTo.after (alloc_below wr _) t2
      exact RowTo.trans k1 i1 f1 r2 k2 i2 f2
/-- a writer of New. -/
structure WAt (F : Nat → Prop) (w : World) (p q : Nat) (sv : Value) (zs : List Int) : Prop where
  cell : w.heap[p]? = some (.cells #[ptr q] 52)
  inp : F p
  row : RowAt F w q sv zs
theorem WAt.ne {F : Nat → Prop} {w : World} {p q : Nat} {sv : Value} {zs : List Int} (h : WAt F w p q sv zs) : p ≠ q := fun e => by
  have := h.cell; rw [e, h.row.cell] at this; simp at this
theorem WAt.keep {F : Nat → Prop} {w w' : World} {p q : Nat} {sv : Value} {zs : List Int} (h : WAt F w p q sv zs) (hs : w.heap.size ≤ w'.heap.size) (hb : ∀ k, F k → w'.heap[k]? = w.heap[k]?) : WAt F w' p q sv zs :=
  ⟨(hb p h.inp).trans h.cell, h.inp, h.row.keep hs hb⟩
theorem WAt.below {F : Nat → Prop} {w w' : World} {p q : Nat} {sv : Value} {zs : List Int} (h : WAt F w p q sv zs) (hb : Below w.heap.size w w') : WAt F w' p q sv zs :=
  h.keep hb.size fun k hk => hb.block k (h.row.lt k hk)
/-- the blocks of a writer that its calls turn. -/
def core (p : Nat) (F : Nat → Prop) (k : Nat) : Prop := F k ∧ k ≠ p
/-- what a call made of a writer. -/
def WTo (F : Nat → Prop) (w w' : World) (p : Nat) (zs : List Int) : Prop := ∃ F' q sv, WAt F' w' p q sv zs ∧ Kept F w w' ∧ (∀ k, F k → F' k) ∧ ∀ k, F' k → F k ∨ w.heap.size ≤ k
theorem WAt.to {F : Nat → Prop} {w : World} {p q : Nat} {sv : Value} {zs : List Int} (h : WAt F w p q sv zs) : WTo F w w p zs := ⟨F, q, sv, h, Kept.refl _ _, fun _ h => h, fun _ h => .inl h⟩
theorem WTo.then {F : Nat → Prop} {w w1 w2 : World} {p : Nat} {zs zs' : List Int} (h : WTo F w w1 p zs) (H : ∀ F1 q sv, WAt F1 w1 p q sv zs → WTo F1 w1 w2 p zs') : WTo F w w2 p zs' := by
  obtain ⟨F1, q, sv, h1, k1, i1, f1⟩ := h
  obtain ⟨F2, q2, sv2, h2, k2, i2, f2⟩ := H F1 q sv h1
  refine ⟨F2, q2, sv2, h2, k1.trans k2 f1, fun k hk => i2 k (i1 k hk), fun k hk => ?_⟩
  rcases f2 k hk with h | h
  · exact f1 k h
  · exact .inr (Nat.le_trans k1.size h)
theorem WTo.after {F : Nat → Prop} {w w1 w2 : World} {p : Nat} {zs : List Int} (hb : Below w.heap.size w w1) (h : WTo F w1 w2 p zs) : WTo F w w2 p zs := by
  obtain ⟨F2, q, sv, h1, k2, i2, f2⟩ := h
  exact ⟨F2, q, sv, h1, (kept_of_below hb).trans k2 fun k hk => .inl hk, i2, fun k hk => (f2 k hk).imp id fun h => Nat.le_trans hb.size h⟩
theorem WTo.later {F : Nat → Prop} {w w1 w2 : World} {p : Nat} {zs : List Int} (h : WTo F w w1 p zs) (hb : Below w1.heap.size w1 w2) : WTo F w w2 p zs := by
  obtain ⟨F2, q, sv, h1, k2, i2, f2⟩ := h
  exact ⟨F2, q, sv, h1.below hb, k2.trans (F' := fun _ => False) (kept_of_below hb) fun k hk => hk.elim, i2, f2⟩
/-- what a call made of its row is what it made of the writer. -/
theorem WAt.step {F : Nat → Prop} {w w' : World} {p q : Nat} {sv : Value} {zs zs' : List Int} (h : WAt F w p q sv zs) (ht : RowTo (core p F) w w' q zs') : WTo F w w' p zs' := by
  obtain ⟨F', sv', r, kk, i, f⟩ := ht
  have hp : w'.heap[p]? = w.heap[p]? := kk.block p (h.row.lt p h.inp) fun e => e.2 rfl
  refine ⟨fun k => F' k ∨ k = p, q, sv', ⟨hp.trans h.cell, .inr rfl, r.mono (fun k hk => .inl hk) fun k hk => ?_⟩, kk.mono fun k _ hk => hk.1, fun k hk => ?_, fun k hk => ?_⟩
  · rcases hk with hk | rfl
    · exact r.lt k hk
    · exact Nat.lt_of_lt_of_le (h.row.lt k h.inp) kk.size
  · by_cases e : k = p
    · exact .inr e
    · exact .inl (i k ⟨hk, e⟩)
  · rcases hk with hk | rfl
    · exact (f k hk).imp (fun h => h.1) id
    · exact .inl h.inp
theorem WAt.core {F : Nat → Prop} {w : World} {p q : Nat} {sv : Value} {zs : List Int} (h : WAt F w p q sv zs) : RowAt (core p F) w q sv zs :=
  ⟨h.row.cell, h.row.own, fun k hk => ⟨h.row.inF k hk, fun e => by
    obtain ⟨c, hc⟩ := h.row.own.block hk
    rw [e, h.cell] at hc; simp at hc⟩, ⟨h.row.inq, fun e => h.ne e.symm⟩, fun k hk => h.row.lt k hk.1⟩
theorem two_blocks (w : World) (o1 o2 : Obj) : ((w.alloc o1).alloc o2).heap[w.heap.size]? = some o1 ∧ ((w.alloc o1).alloc o2).heap[w.heap.size + 1]? = some o2 := by
  refine ⟨((alloc_below (w.alloc o1) o2).block w.heap.size (by simp)).trans (new_block w o1), ?_⟩
  have := new_block (w.alloc o1) o2
  rwa [show (w.alloc o1).heap.size = w.heap.size + 1 by simp] at this
set_option maxHeartbeats 400000 in
theorem new_any (w : World) : Calls Try.prog 10 #[] w fun e w' => ∃ F p q sv, e = .returned (ptr p) ∧ WAt F w' p q sv [] ∧ (∀ k, F k → w.heap.size ≤ k) ∧ Below w.heap.size w w' := by
  go_enter Try.func10, Try.ntmps10
  go_wp2
  go_ret
  refine ⟨fun k => k = w.heap.size ∨ k = w.heap.size + 1, w.heap.size + 1, w.heap.size, .slice none 0 0, ?_, ⟨?_, .inr rfl, ⟨?_, own_nil _ _, (fun k hk => by cases hk), .inl rfl, ?_⟩⟩, ?_, ?_⟩
  · simp [ptr]
  · exact (two_blocks w _ _).2
  · exact (two_blocks w _ _).1
  · intro k hk; simp; omega
  · intro k hk; omega
  · exact ((Below.refl _ _).alloc (Nat.le_refl _) _).alloc (by simp) _
theorem neqRow (v : Option Addr) (w : World) : (binOp .neq 50 (.pointer v) (.pointer none)).run Try.prog w = .ok (.bool v.isSome) w := by
  cases v <;> kernel_rfl
set_option maxHeartbeats 400000 in
theorem wmade_yes {p q : Nat} (w : World) (h : w.cell? ⟨p, 0, none⟩ = some (ptr q)) :
    Calls Try.prog 32 #[ptr p] w fun e w' => e = .returned (.bool true) ∧ w' = w := by
  unfold ptr at *
  go_enter Try.func32, Try.ntmps32
  go_wp2
  go_ret
  exact ⟨rfl, rfl⟩
set_option maxHeartbeats 400000 in
theorem wmade_nil (w : World) : Calls Try.prog 32 #[.pointer none] w fun e w' => e = .returned (.bool false) ∧ w' = w := by
  go_enter Try.func32, Try.ntmps32
  go_wp2
  go_ret
  exact ⟨rfl, rfl⟩
set_option maxHeartbeats 400000 in
theorem wmade_no {p : Nat} (w : World) (h : w.cell? ⟨p, 0, none⟩ = some (.pointer none)) :
    Calls Try.prog 32 #[ptr p] w fun e w' => e = .returned (.bool false) ∧ w' = w := by
  unfold ptr at *
  go_enter Try.func32, Try.ntmps32
  go_wp2
  go_ret
  exact ⟨rfl, rfl⟩
set_option maxHeartbeats 400000 in
theorem wuint {F : Nat → Prop} {p q : Nat} {sv : Value} {zs : List Int} (N : Nat) (w : World) (h : WAt F w p q sv zs) (hN : N < 18446744073709551616) (hl : zs.length ≤ 70368744177664) :
    Calls Try.prog 24 #[ptr p, .int .u64 (N : Int)] w fun e w' => e = .returned (.tuple #[]) ∧ WTo F w w' p (zs ++ vi N) := by
  have c0 : w.cell? ⟨p, 0, none⟩ = some (ptr q) := by rw [cell_of h.cell]; rfl
  have hm := hid (wmade_yes w c0)
  have hp := hid (putNumber_any N w h.core hN hl)
  have hs := hid (fun w' => h.step (w' := w') (zs' := zs ++ vi N))
  unfold ptr at *
  clear h
  go_enter Try.func24, Try.ntmps24
  go_wp2_with (first | (go_at_call 32; refine hm.out.mono ?_; rintro e w' ⟨rfl, rfl⟩) | (go_at_call 43; refine hp.out.mono ?_; rintro e w2 ⟨rfl, t2⟩))
  go_end0
  exact ⟨rfl, hs.out _ t2⟩
set_option maxHeartbeats 400000 in
theorem wbytes {F : Nat → Prop} {p q : Nat} {sv : Value} {zs bs : List Int} (v : Value) (w : World) (h : WAt F w p q sv zs) (hi : ∀ w', Kept F w w' → IsB w' v bs) (hb : bs.length ≤ 70368744177664) (hl : zs.length ≤ 35184372088832) :
    Calls Try.prog 28 #[ptr p, v] w fun e w' => e = .returned (.tuple #[]) ∧ WTo F w w' p (zs ++ (vi bs.length ++ bs)) := by
  obtain ⟨a, c, rfl⟩ := (hi w (Kept.refl _ _)).slice
  obtain ⟨-, hvb1, hvb2⟩ := (hi w (Kept.refl _ _)).bound
  have c0 : w.cell? ⟨p, 0, none⟩ = some (ptr q) := by rw [cell_of h.cell]; rfl
  have hm := hid (wmade_yes w c0)
  have hp := hid (putNumber_any bs.length w h.core (by omega) (by omega))
  have hv10 := vi_len10 (n := bs.length) (by omega)
  have hpt : w.heap[p]? = some (.cells #[ptr q] 52) := h.cell
  have hpl := h.row.lt p h.inp
  have hs := hid (fun w' => h.step (w' := w') (zs' := zs ++ (vi bs.length ++ bs)))
  have hi' := hid hi
  unfold ptr at *
  clear h hi
  go_enter Try.func28, Try.ntmps28
  go_wp2_with (go_at_call 32; refine hm.out.mono ?_; rintro e w' ⟨rfl, rfl⟩)
  refine hp.out.mono ?_
  clear hp
  rintro e w2 ⟨rfl, t2⟩
  obtain ⟨F1, s1, r1, k1, i1, f1⟩ := t2
  have c1 : w2.cell? ⟨p, 0, none⟩ = some (.pointer (some ⟨q, 0, none⟩)) := by
    rw [cell_of ((k1.block p hpl fun e => e.2 rfl).trans hpt)]; rfl
  have hv2 : IsB w2 (.slice a bs.length c) bs := hi'.out w2 (k1.mono fun _ _ e => e.1)
  have hp2 := hid (put_any _ w2 r1 hv2 (by simp; omega))
  unfold ptr at hp2
  replace k1 := hid k1
  replace f1 := hid f1
  replace i1 := hid i1
  clear hpt r1 hv2
  go_wp2_with (go_at_call 44; refine hp2.out.mono ?_; rintro e w3 ⟨rfl, t3⟩)
  go_end0
  refine ⟨rfl, hs.out _ ?_⟩
  obtain ⟨F2, s2, r2, k2, i2, f2⟩ := t3
  rw [List.append_assoc] at r2
  exact RowTo.trans k1.out i1.out f1.out r2 k2 i2 f2
set_option maxHeartbeats 400000 in
theorem wout {F : Nat → Prop} {p q : Nat} {sv : Value} {zs : List Int} (w : World) (h : WAt F w p q sv zs) (hl : zs.length ≤ 140737488355328) :
    Calls Try.prog 15 #[ptr p] w fun e w' => ∃ a c, e = .returned (.slice a zs.length c) ∧ Own w.heap.size w' (.slice a zs.length c) zs ∧ Below w.heap.size w w' := by
  have c0 : w.cell? ⟨p, 0, none⟩ = some (ptr q) := by rw [cell_of h.cell]; rfl
  have c1 : w.cell? ⟨q, 0, none⟩ = some sv := by rw [cell_of h.row.cell]; rfl
  have hm := hid (wmade_yes w c0)
  have hc := hid (clone_any sv zs w h.row.own.isB hl)
  unfold ptr at *
  clear h
  go_enter Try.func15, Try.ntmps15
  go_wp2_with (first | (go_at_call 32; refine hm.out.mono ?_; rintro e w' ⟨rfl, rfl⟩) | (go_at_call 33; refine hc.out.mono ?_; rintro e w2 ⟨a, c, rfl, o2, b2⟩))
  go_ret
  exact ⟨a, c, rfl, o2, b2⟩
set_option maxHeartbeats 400000 in
theorem wbool {F : Nat → Prop} {p q : Nat} {sv : Value} {zs : List Int} (b : Bool) (w : World) (h : WAt F w p q sv zs) (hl : zs.length ≤ 70368744177664) :
    Calls Try.prog 27 #[ptr p, .bool b] w fun e w' => e = .returned (.tuple #[]) ∧ WTo F w w' p (zs ++ [if b then 1 else 0]) := by
  have h0 := hid (wuint 0 w h (by omega) hl)
  have h1 := hid (wuint 1 w h (by omega) hl)
  rw [vi_lt (by omega)] at h0 h1
  unfold ptr at *
  clear h
  cases b
  · go_enter Try.func27, Try.ntmps27
    go_wp2_with (go_at_call 24; refine h0.out.mono ?_; rintro e w' ⟨rfl, t⟩)
    go_end0
    exact ⟨rfl, t⟩
  · go_enter Try.func27, Try.ntmps27
    go_wp2_with (go_at_call 24; refine h1.out.mono ?_; rintro e w' ⟨rfl, t⟩)
    ((try simp only [Exit.inBlock, Exit.then]); refine bodyPost_ret (results_none rfl _ _ _) rfl ?_)
    exact ⟨rfl, t⟩
set_option maxHeartbeats 400000 in
theorem wlen {F : Nat → Prop} {p q : Nat} {sv : Value} {zs : List Int} (n : Int) (w : World) (h : WAt F w p q sv zs) (hn : -9223372036854775808 ≤ n ∧ n ≤ 9223372036854775807) (hl : zs.length ≤ 70368744177664) :
    Calls Try.prog 30 #[ptr p, .int .i64 n] w fun e w' => e = .returned (.tuple #[]) ∧ WTo F w w' p (zs ++ vi n.toNat) := by
  have h0 := hid (wuint n.toNat w h (by omega) hl)
  unfold ptr at *
  clear h
  obtain ⟨hn0, hn1⟩ := hn
  by_cases hz : n < 0
  · have e : n.toNat = 0 := by omega
    rw [e] at h0 ⊢
    go_enter Try.func30, Try.ntmps30
    go_wp2_with (go_at_call 24; refine h0.out.mono ?_; rintro e w' ⟨rfl, t⟩)
    go_end0
    exact ⟨rfl, t⟩
  · obtain ⟨m, rfl⟩ : ∃ m : Nat, n = (m : Int) := ⟨n.toNat, by omega⟩
    rw [Int.toNat_natCast] at h0 ⊢
    go_enter Try.func30, Try.ntmps30
    go_wp2_with (go_at_call 24; refine h0.out.mono ?_; rintro e w' ⟨rfl, t⟩)
    go_end0
    exact ⟨rfl, t⟩
set_option maxHeartbeats 400000 in
theorem wint {F : Nat → Prop} {p q : Nat} {sv : Value} {zs : List Int} (n : Int) (w : World) (h : WAt F w p q sv zs) (hn : -9223372036854775808 ≤ n ∧ n ≤ 9223372036854775807) (hl : zs.length ≤ 70368744177664) :
    Calls Try.prog 26 #[ptr p, .int .i64 n] w fun e w' => e = .returned (.tuple #[]) ∧ WTo F w w' p (zs ++ vi (zz n)) := by
  have h0 := hid (wuint (zz n) w h (zz_lt hn) hl)
  unfold ptr at *
  clear h
  obtain ⟨hn0, hn1⟩ := hn
  by_cases hz : n < 0
  · have e : ((zz n : Nat) : Int) = 2 * -(n + 1) + 1 := by unfold zz; split <;> omega
    rw [e] at h0
    go_enter Try.func26, Try.ntmps26
    go_wp2_with (go_at_call 24; refine h0.out.mono ?_; rintro e w' ⟨rfl, t⟩)
    ((try simp only [Exit.inBlock, Exit.then]); refine bodyPost_ret (results_none rfl _ _ _) rfl ?_)
    exact ⟨rfl, t⟩
  · obtain ⟨m, rfl⟩ : ∃ m : Nat, n = (m : Int) := ⟨n.toNat, by omega⟩
    have e : ((zz (m : Int) : Nat) : Int) = 2 * (m : Int) := by unfold zz; split <;> omega
    rw [e] at h0
    go_enter Try.func26, Try.ntmps26
    go_wp2_with (go_at_call 24; refine h0.out.mono ?_; rintro e w' ⟨rfl, t⟩)
    go_end0
    exact ⟨rfl, t⟩
end Go.Proofs.Ythhfahnlcoiblaa
