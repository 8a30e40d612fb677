/- Contracts of the reader's Int, take, piece, Bytes, Text; of the law's read. -/
import Derived.Test.YthhfahnlcoiblaaO1
namespace Go.Proofs.Ythhfahnlcoiblaa
open Go.RowKit

set_option maxHeartbeats 400000 in
theorem rint {F : Nat → Prop} {p q : Nat} {sv : Value} {st : St} (w : World) (h : RAt F w p q sv st) :
    Calls Try.prog 35 #[ptr p] w fun e w' => e = .returned (.int .i64 (unz (rnum 18446744073709551615 st).1)) ∧ RTo F w w' p q (rnum 18446744073709551615 st).2 := by
  have hu := hid (ruint w h)
  have hlt := rnum_lt 18446744073709551615 (st := st)
  clear h
  generalize rnum 18446744073709551615 st = x at *
  obtain ⟨n, st'⟩ := x
  simp only at hlt hu ⊢
  have hd : n / 2 < 9223372036854775808 := by omega
  by_cases ho : n % 2 = 1
  · have hob : ((n : Int) % 2 == 1) = true := by simp; omega
    have he : Hid (unz n = -((n : Int) / 2) - 1) := by show _ = _; unfold unz; rw [if_pos ho]; omega
    go_enter Try.func35, Try.ntmps35
    go_wp2_with (go_at_call 34; refine hu.out.mono ?_; rintro e w' ⟨rfl, t⟩)
    go_ret
    exact ⟨ret_int (by rw [he.out]), t⟩
  · have hob : ((n : Int) % 2 == 1) = false := by simp; omega
    have he : Hid (unz n = (n : Int) / 2) := by show _ = _; unfold unz; rw [if_neg ho]; omega
    go_enter Try.func35, Try.ntmps35
    go_wp2_with (go_at_call 34; refine hu.out.mono ?_; rintro e w' ⟨rfl, t⟩)
    go_ret
    exact ⟨ret_int (by rw [he.out]), t⟩
/-- the first n bytes. -/
theorem Sl.take {F : Nat → Prop} {w : World} {b off c : Nat} {zs : List Int} (h : Sl F w (.slice (some ⟨b, off, none⟩) zs.length c) zs) (k : Nat) (hk : k ≤ zs.length) : Sl F w (.slice (some ⟨b, off, none⟩) k c) (zs.take k) := by
  obtain ⟨hz, ⟨e, _⟩ | ⟨b', off', c', cur, e, h1, h2, h5, h3, h4⟩⟩ := h
  · cases e
  · cases e
    have hl : (zs.take k).length = k := by simp; omega
    refine ⟨hz.take k, .inr ⟨b, off, c, cur, by rw [hl], by omega, h2, h5, h3, fun i hi => ?_⟩⟩
    rw [hl] at hi
    rw [h4 i (by omega)]
    simp [List.getD, List.getElem?_take_of_lt hi]
/-- what take tells, and makes of the row. -/
def TookB (F : Nat → Prop) (q : Nat) (w : World) (zs : List Int) (n : Nat) (e : Ending) (w' : World) : Prop :=
  if n ≤ zs.length then ∃ a c, e = .returned (.tuple #[.slice a n c, .bool true]) ∧ Sl F w (.slice a n c) (zs.take n) ∧ ∃ sv' m, Sl F w sv' (zs.drop n) ∧ w' = (w.drewN m).setCell ⟨q, 0, none⟩ sv'
  else e = .returned (.tuple #[.slice none 0 0, .bool false]) ∧ w' = w
theorem TookB.no {F : Nat → Prop} {q : Nat} {w : World} {zs : List Int} {n : Nat} (h : ¬ n ≤ zs.length) : TookB F q w zs n (.returned (.tuple #[.slice none 0 0, .bool false])) w := by
  unfold TookB; rw [if_neg h]; exact ⟨rfl, rfl⟩
theorem TookB.yes {F : Nat → Prop} {q : Nat} {w : World} {zs : List Int} {n m : Nat} {a : Option Addr} {c : Nat} {sv' : Value} (h : n ≤ zs.length) (h1 : Sl F w (.slice a n c) (zs.take n)) (h2 : Sl F w sv' (zs.drop n)) : TookB F q w zs n (.returned (.tuple #[.slice a n c, .bool true])) ((w.drewN m).setCell ⟨q, 0, none⟩ sv') := by
  unfold TookB; rw [if_pos h]; exact ⟨a, c, rfl, h1, sv', m, h2, rfl⟩
set_option maxHeartbeats 2000000 in
theorem take_any {F : Nat → Prop} {q : Nat} {sv : Value} {zs : List Int} (n : Nat) (w : World) (hq : w.heap[q]? = some (.cells #[sv] 62)) (hs : Sl F w sv zs) (hn : n < 18446744073709551616) :
    Calls Try.prog 49 #[ptr q, .int .u64 (n : Int)] w fun e w' => TookB F q w zs n e w' := by
  have c0 : w.cell? ⟨q, 0, none⟩ = some sv := by rw [cell_of hq]; rfl
  have z0 : w.frozen? ⟨q, 0, none⟩ = false := frozen_of hq 0
  obtain ⟨a, c, rfl⟩ := hs.slice
  obtain ⟨-, hbd1, hbd2⟩ := hs.isB.bound
  have hl := hid (left_any w c0)
  by_cases hle : n ≤ zs.length
  · have hle' : ¬ (zs.length : Int) < (n : Int) := by omega
    rcases hs.2 with ⟨e, e2⟩ | ⟨b0, off0, c', cur, e, h1, h2, h5, h3, h4⟩
    · subst e2
      cases e
      obtain rfl : n = 0 := by simpa using hle
      have hnil := hid (Sl.nil F w)
      unfold ptr at *
      clear hs hq
      go_enter Try.func49, Try.ntmps49
      go_wp2_with (go_at_call 42; refine hl.out.mono ?_; rintro e w' ⟨rfl, rfl⟩)
      go_region
      all_goals
        go_wp2
        go_ret2
        exact TookB.yes (by simp) hnil.out hnil.out
    · cases e
      have htk := hid (hs.take n hle)
      have hdr := hid (hs.drop n hle)
      clear h1 h2 h5 h3 h4 hs hq
      unfold ptr at *
      by_cases hcn : c = n
      · subst hcn
        go_enter Try.func49, Try.ntmps49
        go_wp2_with (go_at_call 42; refine hl.out.mono ?_; rintro e w' ⟨rfl, rfl⟩)
        go_region
        all_goals
          go_wp2
          go_ret2
          exact TookB.yes hle htk.out (hdr.out _ _ _ (by omega) (by omega) (by omega) (by unfold maxLen; omega))
      · go_enter Try.func49, Try.ntmps49
        go_wp2_with (go_at_call 42; refine hl.out.mono ?_; rintro e w' ⟨rfl, rfl⟩)
        go_region
        all_goals
          go_wp2
          go_ret2
          exact TookB.yes hle htk.out (hdr.out _ _ _ (by omega) (by omega) (by omega) (by unfold maxLen; omega))
  · have hle' : (zs.length : Int) < (n : Int) := by omega
    have hno := hid (TookB.no (F := F) (q := q) (w := w) hle)
    clear hs hq
    unfold ptr at *
    go_enter Try.func49, Try.ntmps49
    go_wp2_with (go_at_call 42; refine hl.out.mono ?_; rintro e w' ⟨rfl, rfl⟩)
    go_ret2
    exact hno.out
theorem RAt.tookB {F : Nat → Prop} {w w1 : World} {p q : Nat} {sv : Value} {zs : List Int} {n : Nat} {e : Ending} (h : RAt F w p q sv (some zs)) (ht : TookB F q w zs n e w1) :
    (¬ n ≤ zs.length ∧ e = .returned (.tuple #[.slice none 0 0, .bool false]) ∧ w1 = w) ∨ (n ≤ zs.length ∧ ∃ a c, e = .returned (.tuple #[.slice a n c, .bool true]) ∧ IsB w1 (.slice a n c) (zs.take n) ∧ RTo F w w1 p q (some (zs.drop n))) := by
  unfold TookB at ht
  by_cases hn : n ≤ zs.length
  · rw [if_pos hn] at ht
    obtain ⟨a, c, rfl, hp, sv', m, hs, rfl⟩ := ht
    refine .inr ⟨hn, a, c, rfl, ?_, h.turn (sv' := sv') ((kept_drewN (Kept.refl _ _) m).trans (kept_set (F := two p q) _ _ _ _ (.inr rfl)) fun k hk => .inl hk) ?_ ?_ hs⟩
    · refine Sl.isB (F := F) (hp.keep fun k t c hk hc ht => ?_)
      rw [heap_set _ _ _ _ _ fun e => by subst e; rw [h.row] at hc; subst ht; simp at hc]
      rfl
    · rw [heap_set _ _ _ _ _ h.ne]; exact h.cell
    · rw [heap_set_at (w := w.drewN m) h.row]; rfl
  · rw [if_neg hn] at ht
    exact .inl ⟨hn, ht⟩
theorem isB_none (w : World) : IsB w (.slice none 0 0) [] := (own_nil 0 w).isB
set_option maxHeartbeats 1000000 in
theorem piece_any {F : Nat → Prop} {p q : Nat} {sv : Value} {st : St} (w : World) (h : RAt F w p q sv st) :
    Calls Try.prog 46 #[ptr p] w fun e w' => ∃ a c, e = .returned (.slice a (rpiece st).1.length c) ∧ IsB w' (.slice a (rpiece st).1.length c) (rpiece st).1 ∧ RTo F w w' p q (rpiece st).2 := by
  have hu := hid (ruint w h)
  have hlt := rnum_lt 18446744073709551615 (st := st)
  unfold rpiece
  generalize rnum 18446744073709551615 st = x at *
  obtain ⟨n, st'⟩ := x
  simp only at hlt hu
  clear h
  go_enter Try.func46, Try.ntmps46
  go_wp2_with fail
  refine hu.out.mono ?_
  rintro e w1 ⟨rfl, sv1, h1, k1⟩
  clear hu
  have he := hid (rerr w1 h1)
  have c0 : w1.cell? ⟨p, 0, none⟩ = some (ptr q) := by rw [cell_of h1.cell]; rfl
  cases st' with
  | none =>
    have ht := hid (⟨sv1, h1, k1⟩ : RTo F w w1 p q none)
    simp only [errP] at he
    clear h1 k1 c0
    go_wp2_with (go_at_call 20; refine he.out.mono ?_; rintro e w' ⟨rfl, rfl⟩)
    go_ret
    exact ⟨none, 0, rfl, isB_none _, ht.out⟩
  | some zs =>
    have hk := hid (take_any n w1 h1.row h1.bytes hlt)
    simp only [errP, Option.getD_some] at he hk
    have hf := hid (fun sv2 w2 (h2 : RAt F w2 p q sv2 (some zs)) => rfail w2 h2)
    replace h1 := hid h1
    replace k1 := hid k1
    unfold ptr at *
    go_wp2_with (go_at_call 20; refine he.out.mono ?_; rintro e w' ⟨rfl, rfl⟩)
    refine hk.out.mono ?_
    intro e w2 ht
    clear hk he
    rcases h1.out.tookB ht with ⟨hn, rfl, rfl⟩ | ⟨hn, a, c, rfl, hI, t2⟩
    · have hf2 := hid (hf.out _ _ h1.out)
      clear ht hf
      replace hn := hid hn
      go_wp2_with (go_at_call 47; refine hf2.out.mono ?_; rintro e w3 ⟨rfl, t3⟩)
      go_ret
      simp only
      exact ⟨none, 0, rfl, isB_none _, RTo.then k1.out t3⟩
    · have hlen : (zs.take n).length = n := by simp; omega
      replace hn := hid hn
      replace hlen := hid hlen
      replace hI := hid hI
      replace t2 := hid t2
      clear ht hf
      go_wp2
      go_ret
      simp only
      exact ⟨a, c, rfl, hI.out, RTo.then k1.out t2.out⟩
set_option maxHeartbeats 400000 in
theorem rbytes {F : Nat → Prop} {p q : Nat} {sv : Value} {st : St} (w : World) (h : RAt F w p q sv st) (hl : (rpiece st).1.length ≤ 140737488355328) :
    Calls Try.prog 37 #[ptr p] w fun e w' => ∃ a c, e = .returned (.slice a (rpiece st).1.length c) ∧ Own w.heap.size w' (.slice a (rpiece st).1.length c) (rpiece st).1 ∧ RTo F w w' p q (rpiece st).2 := by
  have hu := hid (piece_any w h)
  clear h
  generalize rpiece st = x at *
  obtain ⟨l, st'⟩ := x
  simp only at hl hu ⊢
  go_enter Try.func37, Try.ntmps37
  go_wp2_with fail
  refine hu.out.mono ?_
  rintro e w1 ⟨a, c, rfl, hI, t1⟩
  have hc := hid (clone_any _ l w1 hI hl)
  replace t1 := hid t1
  clear hI hu
  go_wp2_with fail
  refine hc.out.mono ?_
  rintro e w2 ⟨a2, c2, rfl, o2, b2⟩
  replace o2 := hid o2
  replace b2 := hid b2
  go_wp2
  go_ret
  exact ⟨a2, c2, rfl, o2.out.base (by obtain ⟨_, _, k⟩ := t1.out; exact k.size), t1.out.later b2.out⟩
set_option maxHeartbeats 400000 in
theorem rtext {F : Nat → Prop} {p q : Nat} {sv : Value} {st : St} (w : World) (h : RAt F w p q sv st) :
    Calls Try.prog 38 #[ptr p] w fun e w' => e = .returned (str (byts (rpiece st).1)) ∧ RTo F w w' p q (rpiece st).2 := by
  have hu := hid (piece_any w h)
  clear h
  generalize rpiece st = x at *
  obtain ⟨l, st'⟩ := x
  simp only at hu ⊢
  go_enter Try.func38, Try.ntmps38
  go_wp2_with fail
  refine hu.out.mono ?_
  rintro e w1 ⟨a, c, rfl, hI, t1⟩
  have hc := conv_str hI
  replace t1 := hid t1
  clear hI hu
  go_wp2
  go_ret
  exact ⟨rfl, t1.out⟩
/-- what read tells. -/
def ReadTo (F : Nat → Prop) (w : World) (p q k : Nat) (most : Int) (st : St) (e : Ending) (w' : World) : Prop :=
  ∃ a c, e = .returned (agg (readP k most st).1 (.slice a (readP k most st).1.l.length c)) ∧ Own w.heap.size w' (.slice a (readP k most st).1.l.length c) (readP k most st).1.l ∧ RTo F w w' p q (readP k most st).2
abbrev zcells (k : Int) : Array Value := #[.int .u8 k, .int .u64 0, .int .i64 0, .bool false, .slice none 0 0, .string ⟨#[]⟩, .int .i64 0]
theorem box_cells {F : Nat → Prop} {w w1 : World} {p q : Nat} {st : St} {k : Int} (hF : ∀ j, F j → j < w.heap.size) (t : RTo F ((w.alloc (.cells (zcells 0) 29)).alloc (.cells (zcells k) 29)) w1 p q st) :
    (w1.cell? ⟨w.heap.size, 0, none⟩ = some (.int .u8 0) ∧ w1.cell? ⟨w.heap.size, 1, none⟩ = some (.int .u64 0) ∧ w1.cell? ⟨w.heap.size, 2, none⟩ = some (.int .i64 0) ∧ w1.cell? ⟨w.heap.size, 3, none⟩ = some (.bool false) ∧ w1.cell? ⟨w.heap.size, 4, none⟩ = some (.slice none 0 0) ∧ w1.cell? ⟨w.heap.size, 5, none⟩ = some (.string ⟨#[]⟩) ∧ w1.cell? ⟨w.heap.size, 6, none⟩ = some (.int .i64 0)) ∧
    (w1.cell? ⟨w.heap.size + 1, 0, none⟩ = some (.int .u8 k) ∧ w1.cell? ⟨w.heap.size + 1, 1, none⟩ = some (.int .u64 0) ∧ w1.cell? ⟨w.heap.size + 1, 2, none⟩ = some (.int .i64 0) ∧ w1.cell? ⟨w.heap.size + 1, 3, none⟩ = some (.bool false) ∧ w1.cell? ⟨w.heap.size + 1, 4, none⟩ = some (.slice none 0 0) ∧ w1.cell? ⟨w.heap.size + 1, 5, none⟩ = some (.string ⟨#[]⟩) ∧ w1.cell? ⟨w.heap.size + 1, 6, none⟩ = some (.int .i64 0)) ∧
    (∀ o, w1.frozen? ⟨w.heap.size, o, none⟩ = false) ∧ (∀ o, w1.frozen? ⟨w.heap.size + 1, o, none⟩ = false) := by
  obtain ⟨sv, _, kk⟩ := t
  have b := two_blocks w (.cells (zcells 0) 29) (.cells (zcells k) 29)
  have e0 := (kk.block w.heap.size (by simp; omega) fun h => by have := hF _ h; omega).trans b.1
  have e1 := (kk.block (w.heap.size + 1) (by simp) fun h => by have := hF _ h; omega).trans b.2
  refine ⟨?_, ?_, fun o => frozen_of e0 o, fun o => frozen_of e1 o⟩
  · simp only [cell_of e0]; exact ⟨rfl, rfl, rfl, rfl, rfl, rfl, rfl⟩
  · simp only [cell_of e1]; exact ⟨rfl, rfl, rfl, rfl, rfl, rfl, rfl⟩
/-- .. and what was laid in the boxes meanwhile. -/
theorem RTo.boxes {F : Nat → Prop} {w w1 w2 : World} {p q : Nat} {st : St} (hF : ∀ j, F j → j < w.heap.size) (h : RTo F w w1 p q st) (k2 : Kept (fun k => w.heap.size ≤ k) w1 w2) : RTo F w w2 p q st := by
  obtain ⟨sv, h1, k1⟩ := h
  refine ⟨sv, h1.keep k2.size fun k hk => k2.block k (h1.lt k hk) fun h => by have := hF k hk; omega, k1.trans k2 fun k hk => .inr hk⟩
theorem Kept.set {F : Nat → Prop} {w w1 : World} (h : Kept F w w1) (b o : Nat) (v : Value) (hb : F b) : Kept F w (w1.setCell ⟨b, o, none⟩ v) := h.trans (kept_set (F := F) _ _ _ _ hb) fun _ hk => .inl hk
theorem fin_box {F : Nat → Prop} {w W w1 w2 : World} {p q : Nat} {st : St} (hF : ∀ j, F j → j < w.heap.size) (hw : Below w.heap.size w W) (t : RTo F W w1 p q st) (k2 : Kept (fun k => k = w.heap.size ∨ k = w.heap.size + 1) w1 w2) : RTo F w w2 p q st :=
  RTo.boxes hF (RTo.after hw t) (k2.mono fun _ _ e => by omega)
theorem kept8 (w1 : World) (s j : Nat) (x v0 v1 v2 v3 v4 v5 v6 : Value) : Kept (fun k => k = s ∨ k = s + 1) w1 ((((((((w1.setCell ⟨s + 1, j, none⟩ x).setCell ⟨s, 0, none⟩ v0).setCell ⟨s, 1, none⟩ v1).setCell ⟨s, 2, none⟩ v2).setCell ⟨s, 3, none⟩ v3).setCell ⟨s, 4, none⟩ v4).setCell ⟨s, 5, none⟩ v5).setCell ⟨s, 6, none⟩ v6) :=
  ((((((((Kept.refl _ _).set _ _ _ (.inr rfl)).set _ _ _ (.inl rfl)).set _ _ _ (.inl rfl)).set _ _ _ (.inl rfl)).set _ _ _ (.inl rfl)).set _ _ _ (.inl rfl)).set _ _ _ (.inl rfl)).set _ _ _ (.inl rfl)
theorem Own.boxes {w1 w2 : World} {B s : Nat} {v : Value} {zs : List Int} (h : Own B w1 v zs) (hB : s + 2 ≤ B) (k : Kept (fun k => k = s ∨ k = s + 1) w1 w2) : Own s w2 v zs :=
  (h.keep fun j hj => k.block j (h.lt hj).2 fun e => by have := (h.lt hj).1; omega).base (by omega)
theorem read5 (most : Int) (st : St) : readP 5 most st = ({ zeroV 5 with n := (lenP most st).1 }, (lenP most st).2) := by
  unfold lenP
  simp only [readP]
  split <;> rfl
set_option maxHeartbeats 1000000 in
theorem read_any {F : Nat → Prop} {p q : Nat} {sv : Value} {st : St} (k : Nat) (most : Int) (w : World) (h : RAt F w p q sv st) (hk : k ≤ 5) (hm : most ≤ 9223372036854775807) (hl : (rpiece st).1.length ≤ 140737488355328) :
    Calls Try.prog 17 #[ptr p, .int .u8 (k : Int), .int .i64 most] w fun e w' => ReadTo F w p q k most st e w' := by
  have hw := ((Below.refl w.heap.size w).alloc (Nat.le_refl _) (.cells (zcells 0) 29)).alloc (by simp) (.cells (zcells (k : Int)) 29)
  have h1 := h.below hw
  have HL := hid h.lt
  replace hw := hid hw
  clear h
  obtain rfl | rfl | rfl | rfl | rfl | rfl : k = 0 ∨ k = 1 ∨ k = 2 ∨ k = 3 ∨ k = 4 ∨ k = 5 := by omega
  · have hc := hid (ruint _ h1)
    clear h1
    go_enter Try.func17, Try.ntmps17
    go_wp2_with fail
    refine hc.out.mono ?_
    rintro e w1 ⟨rfl, t1⟩
    obtain ⟨⟨r0, r1, r2, r3, r4, r5, r6⟩, ⟨c0, c1, c2, c3, c4, c5, c6⟩, fr, fc⟩ := box_cells HL.out t1
    replace t1 := hid t1
    clear hc
    go_wp2
    refine bodyPost_ret (v := agg (readP 0 most st).1 (.slice none 0 0)) ?_ rfl ⟨none, 0, rfl, ?_, ?_⟩
    · simp [results, Try.results17, go_sem, r0, r1, r2, r3, r4, r5, r6]
      rfl
    · exact own_nil _ _
    · exact fin_box HL.out hw.out t1.out (kept8 _ _ _ _ _ _ _ _ _ _ _)
  · have hc := hid (rint _ h1)
    clear h1
    go_enter Try.func17, Try.ntmps17
    go_wp2_with fail
    refine hc.out.mono ?_
    rintro e w1 ⟨rfl, t1⟩
    obtain ⟨⟨r0, r1, r2, r3, r4, r5, r6⟩, ⟨c0, c1, c2, c3, c4, c5, c6⟩, fr, fc⟩ := box_cells HL.out t1
    replace t1 := hid t1
    clear hc
    go_wp2
    refine bodyPost_ret (v := agg (readP 1 most st).1 (.slice none 0 0)) ?_ rfl ⟨none, 0, rfl, ?_, ?_⟩
    · simp [results, Try.results17, go_sem, r0, r1, r2, r3, r4, r5, r6]
      rfl
    · exact own_nil _ _
    · exact fin_box HL.out hw.out t1.out (kept8 _ _ _ _ _ _ _ _ _ _ _)
  · have hc := hid (rbool _ h1)
    clear h1
    go_enter Try.func17, Try.ntmps17
    go_wp2_with fail
    refine hc.out.mono ?_
    rintro e w1 ⟨rfl, t1⟩
    obtain ⟨⟨r0, r1, r2, r3, r4, r5, r6⟩, ⟨c0, c1, c2, c3, c4, c5, c6⟩, fr, fc⟩ := box_cells HL.out t1
    replace t1 := hid t1
    clear hc
    go_wp2
    refine bodyPost_ret (v := agg (readP 2 most st).1 (.slice none 0 0)) ?_ rfl ⟨none, 0, rfl, ?_, ?_⟩
    · simp [results, Try.results17, go_sem, r0, r1, r2, r3, r4, r5, r6]
      rfl
    · exact own_nil _ _
    · exact fin_box HL.out hw.out t1.out (kept8 _ _ _ _ _ _ _ _ _ _ _)
  · have hc := hid (rbytes _ h1 hl)
    clear h1
    go_enter Try.func17, Try.ntmps17
    go_wp2_with fail
    refine hc.out.mono ?_
    rintro e w1 ⟨a, c, rfl, o1, t1⟩
    replace o1 := hid o1
    obtain ⟨⟨r0, r1, r2, r3, r4, r5, r6⟩, ⟨c0, c1, c2, c3, c4, c5, c6⟩, fr, fc⟩ := box_cells HL.out t1
    replace t1 := hid t1
    clear hc
    go_wp2
    refine bodyPost_ret (v := agg (readP 3 most st).1 (.slice a (rpiece st).1.length c)) ?_ rfl ⟨a, c, rfl, ?_, ?_⟩
    · simp [results, Try.results17, go_sem, r0, r1, r2, r3, r4, r5, r6]
      rfl
    · exact Own.boxes o1.out (by simp) (kept8 _ _ _ _ _ _ _ _ _ _ _)
    · exact fin_box HL.out hw.out t1.out (kept8 _ _ _ _ _ _ _ _ _ _ _)
  · have hc := hid (rtext _ h1)
    unfold str at hc
    clear h1
    go_enter Try.func17, Try.ntmps17
    go_wp2_with fail
    refine hc.out.mono ?_
    rintro e w1 ⟨rfl, t1⟩
    obtain ⟨⟨r0, r1, r2, r3, r4, r5, r6⟩, ⟨c0, c1, c2, c3, c4, c5, c6⟩, fr, fc⟩ := box_cells HL.out t1
    replace t1 := hid t1
    clear hc
    go_wp2
    refine bodyPost_ret (v := agg (readP 4 most st).1 (.slice none 0 0)) ?_ rfl ⟨none, 0, rfl, ?_, ?_⟩
    · simp [results, Try.results17, go_sem, r0, r1, r2, r3, r4, r5, r6]
      rfl
    · exact own_nil _ _
    · exact fin_box HL.out hw.out t1.out (kept8 _ _ _ _ _ _ _ _ _ _ _)
  · have hc := hid (rlen most _ h1 hm)
    clear h1
    go_enter Try.func17, Try.ntmps17
    go_wp2_with fail
    refine hc.out.mono ?_
    rintro e w1 ⟨rfl, t1⟩
    obtain ⟨⟨r0, r1, r2, r3, r4, r5, r6⟩, ⟨c0, c1, c2, c3, c4, c5, c6⟩, fr, fc⟩ := box_cells HL.out t1
    replace t1 := hid t1
    clear hc
    go_wp2
    refine bodyPost_ret (v := agg { zeroV 5 with n := (lenP most st).1 } (.slice none 0 0)) ?_ rfl (by rw [ReadTo, read5]; exact ⟨none, 0, rfl, own_nil _ _, fin_box HL.out hw.out t1.out (kept8 _ _ _ _ _ _ _ _ _ _ _)⟩)
    · simp [results, Try.results17, go_sem, r0, r1, r2, r3, r4, r5, r6]
      rfl
end Go.Proofs.Ythhfahnlcoiblaa
