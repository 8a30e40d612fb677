/- Contract of newest. -/
import Derived.Test.YtihgikekkgoddaaGreatDoorZL6
import Derived.Test.YtihgikekkgoddaaGreatDoorZLB
import Derived.Test.YtihgikekkgoddaaGreatDoorZFd
namespace Go.Proofs.YtihgikekkgoddaaGreatDoor
open Go.RowKit Go.Shelf Sto
attribute [local go_sem] Oper.semAt_some

theorem bv_ints (bs : List UInt8) : bs.map bv = (ints bs).map (Value.int .u8) := by unfold ints; rw [List.map_map]; rfl
theorem own_of_row {w : World} {base : Nat} {v : Value} {bs : List UInt8} (h : w.ownsRow base 5 1 v bs.length (bs.map bv)) : Frm.Own base w v (ints bs) := ⟨ints_byt bs, by rw [ints_len, ← bv_ints]; exact h⟩
theorem row_of_own {w : World} {base : Nat} {v : Value} {bs : List UInt8} (h : Frm.Own base w v (ints bs)) : w.ownsRow base 5 1 v bs.length (bs.map bv) := by
  have := h.2
  rw [ints_len, ← bv_ints] at this
  exact this
theorem isB_ints {w : World} {v : Value} {bs : List UInt8} (h : Frm.IsB w v (ints bs)) : IsB w v bs := by
  obtain ⟨h1, h2, a, c, hv, hc⟩ := h
  obtain ⟨_, _, h4⟩ := hc
  refine ⟨by rw [ints_len] at h1; exact h1, a, c, by rw [ints_len] at hv; exact hv, ?_⟩
  rcases h4 with h4 | ⟨b, off, ha, h5⟩
  · left; exact ints_inj h4
  · right
    refine ⟨b, off, ha, fun i hi => ?_⟩
    rw [h5 i (by rw [ints_len]; exact hi), bv_ints]
    simp [List.getD, ints, hi]
theorem LogAt.setN {w : World} {lb : Nat} {x : Lg} (h : LogAt w lb x) (m : Nat) : LogAt (w.setCell ⟨lb, 2, none⟩ (.int .i64 (m : Int))) lb { x with n := m } := (heap_set_at (o := 2) h (.int .i64 (m : Int))).trans rfl
theorem LogAt.setC {w : World} {lb : Nat} {x : Lg} (h : LogAt w lb x) (m : Nat) : LogAt (w.setCell ⟨lb, 3, none⟩ (.int .i64 (m : Int))) lb { x with c := m } := (heap_set_at (o := 3) h (.int .i64 (m : Int))).trans rfl
theorem LogAt.setBr {w : World} {lb : Nat} {x : Lg} (h : LogAt w lb x) (m : Bool) : LogAt (w.setCell ⟨lb, 4, none⟩ (.bool m)) lb { x with br := m } := (heap_set_at (o := 4) h (.bool m)).trans rfl
theorem kept_drew (W : World) : Frm.Kept (fun _ => False) W W.drew := ⟨rfl, rfl, rfl, Nat.le_refl _, fun _ _ _ => rfl⟩
/-- the newest whole snapshot of these files, the log having this number and snapshot so far. -/
def newF (t : St) : List (List UInt8 × Part) → Nat → List UInt8 → Int × Nat × List UInt8
  | [], n, s => (0, n, s)
  | (nm, q) :: r, n, s => if q.kind ≠ kSnap ∨ q.num < n then newF t r n s else if (t.read nm).2 ≠ 0 then ((t.read nm).2, n, s) else match one (t.read nm).1 with
    | some s' => newF t r q.num s'
    | none => newF t r n s
/-- what holds ahead of each round. -/
structure NewI (B lb : Nat) (w : World) (g : Gs) (t : St) (x : Lg) (r : Int) (n' : Nat) (s' : List UInt8) (k : Nat) (W : World) (n : Nat) (s : List UInt8) (v : Value) : Prop where
  bo : Bo B W lb g t { x with n := n }
  rest : newF t ((ownT x.p t).drop k) n s = (r, n', s')
  kept : Kept (bfoot lb x g) w W
  l : Boxed W w.heap.size 24 (.pointer (some ⟨lb, 0, none⟩))
  r1 : Boxed W (w.heap.size + 1) 22 (.slice none 0 0)
  r2 : Boxed W (w.heap.size + 2) 26 (.int .i64 0)
  sn : Boxed W (w.heap.size + 3) 22 v
  ob : W.cell? ⟨w.heap.size + 4, 0, none⟩ = some (ptr lb)
  own : Frm.Own (w.heap.size + 7) W v (ints s)
  small : n < 100
theorem NewI.keep {B lb : Nat} {w : World} {g : Gs} {t : St} {x : Lg} {r : Int} {n' : Nat} {s' : List UInt8} {k : Nat} {A C : World} {n : Nat} {s : List UInt8} {v : Value} {F : Nat → Prop} (h : NewI B lb w g t x r n' s' k A n s v) (H : Bo B w lb g t x) (hk : Frm.Kept F A C) (hF : ∀ b, F b → w.heap.size + 5 ≤ b ∧ b < w.heap.size + 7) : NewI B lb w g t x r n' s' k C n s v := by
  have hlt := H.log.lt
  have nF : ∀ b, b < w.heap.size + 5 → ¬ F b := fun b h1 h2 => by have := hF b h2; omega
  refine ⟨bo_kept h.bo hk (fun b hb hh => ?_), h.rest, kept_two h.kept hk (fun b hb => .inr (by have := hF b hb; omega)), (hk.block _ h.l.lt (nF _ (by omega))).trans h.l, (hk.block _ h.r1.lt (nF _ (by omega))).trans h.r1, (hk.block _ h.r2.lt (nF _ (by omega))).trans h.r2, (hk.block _ h.sn.lt (nF _ (by omega))).trans h.sn, (World.cell?_of_block (a := ⟨w.heap.size + 4, 0, none⟩) (hk.block _ (World.block_lt_of_cell? A ⟨w.heap.size + 4, 0, none⟩ h.ob) (nF _ (by show w.heap.size + 4 < _; omega)))).trans h.ob, h.own.keep (fun b hb => hk.block b (h.own.lt hb).2 (fun hh => by have := hF b hh; have := (h.own.lt hb).1; omega)), h.small⟩
  have := hF b hh
  rcases hb with hb | hb
  · have := H.is.1.lt hb; omega
  · omega
structure Pre2 (w W0 : World) (lb : Nat) : Prop where
  size : W0.heap.size = w.heap.size + 5
  low : Below w.heap.size w W0
  l : Boxed W0 w.heap.size 24 (.pointer (some ⟨lb, 0, none⟩))
  r1 : Boxed W0 (w.heap.size + 1) 22 (.slice none 0 0)
  r2 : Boxed W0 (w.heap.size + 2) 26 (.int .i64 0)
  sn : Boxed W0 (w.heap.size + 3) 22 (.slice none 0 0)
  own : W0.cell? ⟨w.heap.size + 4, 0, none⟩ = some (ptr lb)
theorem pre2_of (w : World) (lb : Nat) : Pre2 w (((((w.alloc (.cells #[Value.pointer (some ⟨lb, 0, none⟩)] 24)).alloc (.cells #[Value.slice none 0 0] 22)).alloc (.cells #[Value.int .i64 0] 26)).alloc (.cells #[Value.slice none 0 0] 22)).alloc (.cells #[Value.pointer (some ⟨lb, 0, none⟩)] 24)) lb := by
  obtain ⟨w1, e1⟩ : ∃ w1, w1 = w.alloc (.cells #[Value.pointer (some ⟨lb, 0, none⟩)] 24) := ⟨_, rfl⟩
  obtain ⟨w2, e2⟩ : ∃ w2, w2 = w1.alloc (.cells #[Value.slice none 0 0] 22) := ⟨_, rfl⟩
  obtain ⟨w3, e3⟩ : ∃ w3, w3 = w2.alloc (.cells #[Value.int .i64 0] 26) := ⟨_, rfl⟩
  obtain ⟨w4, e4⟩ : ∃ w4, w4 = w3.alloc (.cells #[Value.slice none 0 0] 22) := ⟨_, rfl⟩
  rw [← e1, ← e2, ← e3, ← e4]
  have s1 : w1.heap.size = w.heap.size + 1 := by rw [e1]; simp
  have s2 : w2.heap.size = w.heap.size + 2 := by rw [e2]; simp; omega
  have s3 : w3.heap.size = w.heap.size + 3 := by rw [e3]; simp; omega
  have s4 : w4.heap.size = w.heap.size + 4 := by rw [e4]; simp; omega
  have b1 : Boxed w1 w.heap.size 24 (.pointer (some ⟨lb, 0, none⟩)) := by rw [e1]; exact Boxed.new w _ _
  have b2 : Boxed w2 (w.heap.size + 1) 22 (.slice none 0 0) := by rw [e2, ← s1]; exact Boxed.new w1 _ _
  have b3 : Boxed w3 (w.heap.size + 2) 26 (.int .i64 0) := by rw [e3, ← s2]; exact Boxed.new w2 _ _
  have b4 : Boxed w4 (w.heap.size + 3) 22 (.slice none 0 0) := by rw [e4, ← s3]; exact Boxed.new w3 _ _
  have b5 := Boxed.new w4 24 (.pointer (some ⟨lb, 0, none⟩))
  rw [s4] at b5
  have l1 : Below w.heap.size w w1 := by rw [e1]; exact (Below.refl _ w).alloc (Nat.le_refl _) _
  have l2 : Below w.heap.size w w2 := by rw [e2]; exact l1.alloc (by omega) _
  have l3 : Below w.heap.size w w3 := by rw [e3]; exact l2.alloc (by omega) _
  have l4 : Below w.heap.size w w4 := by rw [e4]; exact l3.alloc (by omega) _
  refine ⟨by simp; omega, l4.alloc (by omega) _, ?_, ?_, ?_, b4.alloc _, b5.cell⟩
  · have := ((b1.alloc (.cells #[Value.slice none 0 0] 22)).alloc (.cells #[Value.int .i64 0] 26)).alloc (.cells #[Value.slice none 0 0] 22)
    rw [← e2, ← e3, ← e4] at this
    exact this.alloc _
  · have := (b2.alloc (.cells #[Value.int .i64 0] 26)).alloc (.cells #[Value.slice none 0 0] 22)
    rw [← e3, ← e4] at this
    exact this.alloc _
  · have := b3.alloc (.cells #[Value.slice none 0 0] 22)
    rw [← e4] at this
    exact this.alloc _
/-- what newest tells. -/
structure NewOut (w w' : World) (r : Int) (v : Value) (s' : List UInt8) (n' : Nat) : Prop where
  good : r = 0 → Frm.Own w.heap.size w' v (ints s')
  bad : r ≠ 0 → v = .slice none 0 0
  small : n' < 100
set_option maxRecDepth 100000 in
set_option maxHeartbeats 8000000 in
theorem newest_any (w : World) {B lb : Nat} {g : Gs} {t : St} {x : Lg} (h : Bo B w lb g t x) (hgood : Good x.p (namesOf t)) (hp : x.p.length ≤ 16) (hn : x.n < 100) {r : Int} {n' : Nat} {s' : List UInt8} (ht : newF t (ownT x.p t) x.n [] = (r, n', s')) :
    Calls Tryz.prog 28 #[ptr lb] w fun e w' => ∃ v, e = .returned (.tuple #[v, .int .i64 r]) ∧ BStep B lb w w' g g x { x with n := n' } t ∧ NewOut w w' r v s' n' := by
  have ht' := hid ht
  clear ht
  refine (callsIn_wide (n := 9)).1 ?_
  refine callsIn_of_wp_marks Tryz.func28 rfl trivial ?_ rfl
  simp only [Tryz.ntmps28, List.size_toArray, List.length_cons, List.length_nil, Nat.reduceAdd, Nat.reduceSub, Array.replicate_succ, Array.replicate_zero, List.push_toArray, List.append_toArray, List.nil_append, List.cons_append]
  have ho := hid (fun W => own_any W lb)
  have H := hid h
  clear h
  unfold ptr at ho ⊢
  gi_wp2_with fail
  refine ⟨trivial, (callsIn_wide.2 (ho.out _)).mono ?_⟩
  rintro e w1 ⟨rfl, rfl⟩
  gi_wp2_with fail
  obtain ⟨hs0, hb0, hxl, hx1, hx2, hx3, hx4⟩ := pre2_of w lb
  generalize ((((w.alloc (.cells #[Value.pointer (some ⟨lb, 0, none⟩)] 24)).alloc (.cells #[Value.slice none 0 0] 22)).alloc (.cells #[Value.int .i64 0] 26)).alloc (.cells #[Value.slice none 0 0] 22)).alloc (.cells #[Value.pointer (some ⟨lb, 0, none⟩)] 24) = W0 at *
  have H0 := hid (H.out.below hb0)
  have hlt := H.out.log.lt
  refine range2 (gf := 80) (lb := #[.pointer (some ⟨w.heap.size + 4, 0, none⟩)]) rfl (enters_of Tryz.func80 (by kernel_rfl) rfl)
    (own_gives W0 (bx := w.heap.size + 4) H0.out.is H0.out.log rfl hx4 hgood)
    (fun k args hy => by obtain ⟨_, _, _, rfl⟩ := hy; rfl)
    (fun hi k W => ∃ n s v, NewI B lb w g t x r n' s' k W n s v)
    (fun c hi k W => c = .ret ∧ r ≠ 0 ∧ n' < 100 ∧ Boxed W (w.heap.size + 1) 22 (.slice none 0 0) ∧ Boxed W (w.heap.size + 2) 26 (.int .i64 r) ∧ Bo B W lb g t { x with n := n' } ∧ Kept (bfoot lb x g) w W)
    (fun hi k A C hi0 hk => by obtain ⟨n, s, v, h1⟩ := hi0; exact ⟨n, s, v, h1.keep H.out hk (fun b hb => by omega)⟩)
    (fun c hi k A C hi0 hk => by
      obtain ⟨h1, h2, h3, h4, h5, h6, h7⟩ := hi0
      refine ⟨h1, h2, h3, (hk.block _ h4.lt (by omega)).trans h4, (hk.block _ h5.lt (by omega)).trans h5, bo_kept h6 hk (fun b hb hh => ?_), kept_two h7 hk (fun b hb => .inr (by omega))⟩
      rcases hb with hb | hb
      · have := H.out.is.1.lt hb; omega
      · omega)
    (fun hi k A hi0 => by obtain ⟨n, s, v, h1⟩ := hi0; exact ⟨h1.ob, (h1.bo.log.cells).2.1⟩)
    (fun hi _ => ⟨x.n, [], .slice none 0 0, H0.out, ht'.out, kept_of_below hb0, hxl, hx1, hx2, hx3, hx4, Frm.own_nil _ _, hn⟩)
    (fun args W => { tmps := #[.pointer (some ⟨lb, 0, none⟩), .pointer (some ⟨w.heap.size, 0, none⟩), .pointer (some ⟨w.heap.size + 1, 0, none⟩), .pointer (some ⟨w.heap.size + 1 + 1, 0, none⟩), .pointer (some ⟨w.heap.size + 1 + 1 + 1, 0, none⟩), args.getD 0 undef, .pointer (some ⟨W.heap.size, 0, none⟩), undef, undef, undef, undef, undef, .pointer (some ⟨lb, 0, none⟩), .func (.func 80) #[] #[.pointer (some ⟨w.heap.size + 4, 0, none⟩)], args.getD 0 undef, args.getD 1 undef] ++ Array.replicate 50 undef, defers := [] })
    wPart wPart_low ?assign ?body ?done ?stop
  case assign =>
    rintro i l1 k args W K ⟨nm, q, _, rfl⟩ hK
    unfold wPart partCells partV str at hK
    unfold partV str
    simp only [Array.replicate_succ, Array.replicate_zero, List.push_toArray, List.append_toArray, List.nil_append, List.cons_append] at hK
    gi_wp2
    exact hK
  case body =>
    rintro i l1 hi k args V W hk hh1 hh2 ⟨n, s, v, hI⟩ ⟨nm, q, hq, rfl⟩ hkp
    obtain ⟨p0, p1⟩ := part_box (by omega) hkp
    have hm : (nm, q) ∈ ownT x.p t := List.mem_of_getElem? hq
    obtain ⟨hm1, hm2, hm3⟩ : nm ∈ namesOf t ∧ q.ok ∧ nm = nameOf x.p q := mem_own.1 hm
    have hkz : V.heap.size < W.heap.size := by have := hkp.size; unfold wPart at this; simp at this; omega
    have hdc := drop_cons hq
    have hrest := hI.rest
    rw [hdc] at hrest
    unfold newF at hrest
    have cl := hI.l.cell
    have cn : W.cell? ⟨lb, 2, none⟩ = some (.int .i64 (n : Int)) := (hI.bo.log.cells).2.2.1
    have cs : W.cell? ⟨lb, 0, none⟩ = some (.pointer (some ⟨x.sb, 0, none⟩)) := (hI.bo.log.cells).1
    have hmix : Tryz.prog.follows .mixedOrders = true := by kernel_rfl
    have lies2 : Hid (Lies W0.heap.size hi W W.drew) := ⟨Nat.le_refl _, fun b h1 h2 => rfl⟩
    simp only [Array.replicate_succ, Array.replicate_zero, List.push_toArray, List.append_toArray, List.nil_append, List.cons_append]
    by_cases hA : q.kind ≠ kSnap ∨ q.num < n
    · rw [if_pos hA] at hrest
      have fin : Hid (NewI B lb w g t x r n' s' (k + 1) W.drew n s v) := by
        have := hI.keep H.out (kept_drew W) (fun b hb => hb.elim)
        exact { this with rest := hrest }
      clear hq hm hI hkp hm2 hm1 hm3 hxl hx1 hx2 hx3 hx4 hdc hrest cs
      by_cases hkn : q.kind = kSnap
      · have hk1 : decide (q.num < n) = true := by have := hA.resolve_left (fun h => h hkn); simpa using this
        replace p0 : W.cell? ⟨V.heap.size, 0, none⟩ = some (.string ⟨#[115, 110, 97, 112, 46]⟩) := by rw [p0, hkn]; rfl
        clear hA hkn
        (try unfold str at *); (try unfold partV at *); (try unfold str at *)
        gi_wp2_with fail
        apply wpIn_mono (Q := fun e a' w' => e = Exit.normal ∧ a' = (_ : Act) ∧ w' = W.drew)
        · gi_region_o
          all_goals exact ⟨rfl, rfl, rfl⟩
        · rintro e a' w' ⟨rfl, rfl, rfl⟩
          gi_wp2
          exact ⟨lies2.out, n, s, v, fin.out⟩
      · have hk0 : (q.kind == [115, 110, 97, 112, 46]) = false := by simpa [kSnap] using hkn
        clear hA hkn
        (try unfold str at *); (try unfold partV at *); (try unfold str at *)
        gi_wp2_with fail
        apply wpIn_mono (Q := fun e a' w' => e = Exit.normal ∧ a' = (_ : Act) ∧ w' = W.drew)
        · gi_region_o
          all_goals exact ⟨rfl, rfl, rfl⟩
        · rintro e a' w' ⟨rfl, rfl, rfl⟩
          gi_wp2
          exact ⟨lies2.out, n, s, v, fin.out⟩
    · rw [if_neg hA] at hrest
      obtain ⟨bs, r1, hpair⟩ : ∃ bs r1, t.read nm = (bs, r1) := ⟨_, _, rfl⟩
      rw [hpair] at hrest
      simp only at hrest
      have hkn : q.kind = kSnap := Classical.not_not.1 (fun h => hA (.inl h))
      have hk1 : decide (q.num < n) = false := by have : ¬ q.num < n := fun h => hA (.inr h); simpa using this
      have hq100 : q.num < 100 := by
        rcases ok_cases hm2 with rfl | ⟨m, hm9, rfl⟩ | ⟨m, _, hm9, rfl⟩
        · exact absurd hkn (by decide)
        · exact hm9
        · exact hm9
      replace p0 : W.cell? ⟨V.heap.size, 0, none⟩ = some (.string ⟨#[115, 110, 97, 112, 46]⟩) := by rw [p0, hkn]; rfl
      have hnl : nm.length ≤ maxLen := by
        have := (nameOf_len hm2 hp).2
        rw [hm3]; unfold maxLen; omega
      have hrd := hid (read_t W.drew (hI.bo.is.below ((Below.refl _ _).drew)) nm hnl hpair)
      have hId := hI.keep H.out (kept_drew W) (fun b hb => hb.elim)
      have fin1 : Hid (∀ w2, Below W.drew.heap.size W.drew w2 → w2.cell? ⟨w.heap.size, 0, none⟩ = some (.pointer (some ⟨lb, 0, none⟩)) ∧ w2.cell? ⟨lb, 2, none⟩ = some (.int .i64 (n : Int)) ∧ w2.cell? ⟨V.heap.size, 1, none⟩ = some (.int .i64 (q.num : Int)) ∧ w2.cell? ⟨w.heap.size + 1, 0, none⟩ = some (.slice none 0 0) ∧ w2.frozen? ⟨w.heap.size + 1, 0, none⟩ = false ∧ w2.cell? ⟨w.heap.size + 2, 0, none⟩ = some (.int .i64 0) ∧ w2.frozen? ⟨w.heap.size + 2, 0, none⟩ = false ∧ w2.cell? ⟨w.heap.size + 3, 0, none⟩ = some v ∧ w2.frozen? ⟨w.heap.size + 3, 0, none⟩ = false ∧ w2.frozen? ⟨lb, 2, none⟩ = false ∧ Lies W0.heap.size hi W w2 ∧ NewI B lb w g t x r n' s' k w2 n s v) := by
        intro w2 hb
        have h2 := hId.keep (F := fun _ => False) H.out (Frm.kept_of_below hb) (fun b hb => hb.elim)
        have hz : W.drew.heap.size = W.heap.size := rfl
        refine ⟨h2.l.cell, (h2.bo.log.cells).2.2.1, (hb.cell (p := ⟨V.heap.size, 1, none⟩) (by show V.heap.size < W.drew.heap.size; omega)).trans p1, h2.r1.cell, h2.r1.frozen, h2.r2.cell, h2.r2.frozen, h2.sn.cell, h2.sn.frozen, frozen_of h2.bo.log _, ⟨hb.size, fun b h3 h4 => hb.block b (by omega)⟩, h2⟩
      have hqW := hid hId.bo.is.2.2
      have hhd : hi ≤ W.drew.heap.size := by show hi ≤ W.heap.size; omega
      clear hq hm hI hkp hm2 hm1 hm3 hxl hx1 hx2 hx3 hx4 hdc hA hkn hpair hnl
      (try unfold str at *); (try unfold partV at *); (try unfold str at *); (try unfold ptr at *)
      gi_wp2_with fail
      apply wpIn_mono (Q := fun e a' w' => e = Exit.normal ∧ a' = (_ : Act) ∧ w' = W.drew)
      · gi_region_o
        all_goals exact ⟨rfl, rfl, rfl⟩
      · rintro e a' w' ⟨rfl, rfl, rfl⟩
        gi_wp2_with fail
        refine ⟨trivial, (fun h => by cases h), (CallsIn.inRound l1 (callsIn_wide.2 hrd.out)).mono ?_⟩
        rintro e w2 ⟨a2, c2, rfl, hrow, hb2⟩
        by_cases h0 : r1 = 0
        · subst h0
          rw [if_neg (by simp)] at hrest
          have hown := own_of_row hrow
          have hnx : Hid (∀ b, Frm.nextP (ints bs) = b → match b with
            | none => Calls Tryz.prog 54 #[.slice a2 bs.length c2] w2 fun e w' => e = .returned (.tuple #[.slice none 0 0, .int .i64 0, .int .i64 40]) ∧ Below w2.heap.size w2 w'
            | some (pp, u) => Calls Tryz.prog 54 #[.slice a2 bs.length c2] w2 fun e w' => ∃ a c, e = .returned (.tuple #[.slice a pp.length c, .int .i64 (u : Int), .int .i64 0]) ∧ Frm.Own w2.heap.size w' (.slice a pp.length c) pp ∧ Below w2.heap.size w2 w') := by
            intro b hb
            cases b with
            | none => exact Frm.next_no hown.isB hb
            | some z => obtain ⟨pp, u⟩ := z; exact Frm.next_yes hown.isB hb
          have back : Hid (∀ w3, Below w2.heap.size w2 w3 → Below W.drew.heap.size W.drew w3) := fun w3 h3 => hb2.trans (h3.mono hb2.size)
          have hsz2 : W.drew.heap.size ≤ w2.heap.size := hb2.size
          clear hrow hrd hb2 hown
          have hone : Hid (one bs = match Frm.nextP (ints bs) with | some (p, u) => if u = bs.length then some (byts p) else none | none => none) := rfl
          cases hb : Frm.nextP (ints bs) with
          | none =>
            have hcal := hid (hnx.out none hb)
            have e1 := hone.out
            rw [hb] at e1
            simp only at e1
            rw [e1] at hrest
            simp only at hrest
            clear hb e1 hone hnx
            simp only at hcal
            gi_wp2_with fail
            refine ⟨trivial, (fun h => by cases h), (CallsIn.inRound l1 (callsIn_wide.2 hcal.out)).mono ?_⟩
            rintro e w3 ⟨rfl, hb3⟩
            obtain ⟨b0, b1, b2, b3, b4, b5, b6, b7, b8, b9, b10, b11⟩ := fin1.out w3 (back.out w3 hb3)
            have HI2 : Hid (NewI B lb w g t x r n' s' (k + 1) w3 n s v) := { b11 with rest := hrest }
            have LI2 := hid b10
            clear hb3 b10 b11 fin1 hrest hcal
            gi_wp2
            exact ⟨LI2.out, n, s, v, HI2.out⟩
          | some z =>
            obtain ⟨pp, u⟩ := z
            have hcal := hid (hnx.out (some (pp, u)) hb)
            have e1 := hone.out
            rw [hb] at e1
            simp only at e1
            clear hb hone hnx
            simp only at hcal
            gi_wp2_with fail
            refine ⟨trivial, (fun h => by cases h), (CallsIn.inRound l1 (callsIn_wide.2 hcal.out)).mono ?_⟩
            rintro e w3 ⟨a3, c3, rfl, hown3, hb3⟩
            obtain ⟨b0, b1, b2, b3, b4, b5, b6, b7, b8, b9, b10, b11⟩ := fin1.out w3 (back.out w3 hb3)
            by_cases hu : u = bs.length
            · rw [if_pos hu] at e1
              rw [e1] at hrest
              simp only at hrest
              have hut : ((u : Int) == (bs.length : Int)) = true := by simp [hu]
              have hz3 : w3.drew.heap.size = w3.heap.size := rfl
              have hs3 : hi ≤ w2.heap.size := Nat.le_trans hhd hsz2
              have fin2 : Hid (Lies W0.heap.size hi W ((w3.drew.setCell ⟨w.heap.size + 3, 0, none⟩ (.slice a3 pp.length c3)).setCell ⟨lb, 2, none⟩ (.int .i64 (q.num : Int))) ∧ NewI B lb w g t x r n' s' (k + 1) ((w3.drew.setCell ⟨w.heap.size + 3, 0, none⟩ (.slice a3 pp.length c3)).setCell ⟨lb, 2, none⟩ (.int .i64 (q.num : Int))) q.num (byts pp) (.slice a3 pp.length c3)) := by
                have kp : Frm.Kept (fun b => b = w.heap.size + 3 ∨ b = lb) w3 ((w3.drew.setCell ⟨w.heap.size + 3, 0, none⟩ (.slice a3 pp.length c3)).setCell ⟨lb, 2, none⟩ (.int .i64 (q.num : Int))) :=
                  ⟨rfl, rfl, rfl, by simp [World.setCell], fun b _ hn => by rw [heap_set _ _ _ _ _ (fun e => hn (.inr e)), heap_set _ _ _ _ _ (fun e => hn (.inl e))]; rfl⟩
                have ow : Frm.Own (w.heap.size + 7) w3 (.slice a3 pp.length c3) pp := hown3.base (by omega)
                have hLog : LogAt (w3.drew.setCell ⟨w.heap.size + 3, 0, none⟩ (.slice a3 pp.length c3)) lb { x with n := n } := b11.bo.log.keep (heap_set _ _ _ _ _ (by omega))
                refine ⟨⟨Nat.le_trans b10.1 kp.size, fun b h1 h2 => (kp.block b (by have := hb3.size; omega) (by omega)).trans (b10.2 b h1 h2)⟩, ⟨⟨⟨b11.bo.is.1.keep (fun b hb => kp.block b (b11.bo.is.1.lt hb) (fun hh => ?_)), b11.bo.is.2.1, Nat.le_trans b11.bo.is.2.2 kp.size⟩, hLog.setN q.num, b11.bo.base⟩, hrest, kept_two b11.kept kp (fun b hb => ?_), (kp.block _ b11.l.lt (by omega)).trans b11.l, (kp.block _ b11.r1.lt (by omega)).trans b11.r1, (kp.block _ b11.r2.lt (by omega)).trans b11.r2, ?_, (World.cell?_of_block (a := ⟨w.heap.size + 4, 0, none⟩) (kp.block (w.heap.size + 4) (World.block_lt_of_cell? w3 ⟨w.heap.size + 4, 0, none⟩ b11.ob) (by omega))).trans b11.ob, ?_, hq100⟩⟩
                · have h8 := H.out.is.1.lt hb
                  rcases hh with hh | hh
                  · omega
                  · rw [hh] at hb; exact H.out.apart hb
                · rcases hb with hb | hb
                  · exact .inr (by omega)
                  · exact .inl (.inr hb)
                · have := (boxed_drew b11.sn).set (.slice a3 pp.length c3)
                  exact (heap_set _ _ _ _ _ (by omega)).trans this
                · rw [ints_byts ow.1]
                  exact ow.keep (fun b hb => kp.block b (ow.lt hb).2 (fun hh => by have := (ow.lt hb).1; omega))
              clear hown3 hb3 b10 b11 fin1 hrest hcal e1
              gi_wp2_with fail
              apply wpIn_mono (Q := fun e a' w' => e = Exit.normal ∧ a' = (_ : Act) ∧ w' = ((w3.drew.setCell ⟨w.heap.size + 3, 0, none⟩ (.slice a3 pp.length c3)).setCell ⟨lb, 2, none⟩ (.int .i64 (q.num : Int))))
              · gi_region_o
                all_goals exact ⟨rfl, rfl, rfl⟩
              · rintro e a' w' ⟨rfl, rfl, rfl⟩
                gi_wp2
                exact ⟨fin2.out.1, q.num, byts pp, _, fin2.out.2⟩
            · rw [if_neg hu] at e1
              rw [e1] at hrest
              simp only at hrest
              have hut : ((u : Int) == (bs.length : Int)) = false := by simp; omega
              have HI2 : Hid (NewI B lb w g t x r n' s' (k + 1) w3 n s v) := { b11 with rest := hrest }
              have LI2 := hid b10
              clear hown3 hb3 b10 b11 fin1 hrest hcal e1
              gi_wp2
              exact ⟨LI2.out, n, s, v, HI2.out⟩
        · have h0' : (r1 == 0) = false := by simpa using h0
          rw [if_pos h0] at hrest
          obtain ⟨b0, b1, b2, b3, b4, b5, b6, b7, b8, b9, b10, b11⟩ := fin1.out w2 hb2
          have HI2 := hid b11
          have LI2 := hid b10
          cases hrest
          clear hrow hb2 b10 b11 hrd fin1
          gi_wp2
          have kp : Frm.Kept (fun b => b = w.heap.size + 1 ∨ b = w.heap.size + 2) w2 ((w2.setCell ⟨w.heap.size + 1, 0, none⟩ (.slice none 0 0)).setCell ⟨w.heap.size + 2, 0, none⟩ (.int .i64 r)) :=
            ⟨rfl, rfl, rfl, by simp [World.setCell], fun b _ hn => by rw [heap_set _ _ _ _ _ (fun e => hn (.inr e)), heap_set _ _ _ _ _ (fun e => hn (.inl e))]⟩
          have hsz2 : W.heap.size ≤ w2.heap.size := LI2.out.1
          refine ⟨⟨Nat.le_trans LI2.out.1 kp.size, fun b h1 h2 => (kp.block b (by omega) (by omega)).trans (LI2.out.2 b h1 h2)⟩, rfl, h0, HI2.out.small, ?_, ?_, bo_kept HI2.out.bo kp (fun b hb hh => ?_), kept_two HI2.out.kept kp (fun b hb => .inr (by omega))⟩
          · exact (heap_set _ _ _ _ _ (by omega)).trans (HI2.out.r1.set _)
          · have h2 : Boxed (w2.setCell ⟨w.heap.size + 1, 0, none⟩ (.slice none 0 0)) (w.heap.size + 2) 26 (.int .i64 0) := (heap_set _ _ _ _ _ (by omega)).trans HI2.out.r2
            exact h2.set _
          · rcases hb with hb | hb
            · have := H.out.is.1.lt hb; omega
            · omega
  case done =>
    rintro hi W hh1 hh2 ⟨n, s, v, hI⟩ hdf
    have hrest := hI.rest
    rw [List.drop_of_length_le (Nat.le_refl _)] at hrest
    unfold newF at hrest
    cases hrest
    obtain ⟨av, cv, hv⟩ := hI.own.slice
    subst hv
    have cl := hI.l.cell
    have cn : W.cell? ⟨lb, 2, none⟩ = some (.int .i64 (n' : Int)) := (hI.bo.log.cells).2.2.1
    have c1 := hI.r1.cell
    have f1 := hI.r1.frozen
    have c2 := hI.r2.cell
    have f2 := hI.r2.frozen
    have c3 := hI.sn.cell
    have hsm := hI.small
    have hlt' := hlt
    have hn9 : ((n' : Int) == 999999999) = false := by simp; omega
    have HI := hid hI
    rw [hs0] at hdf
    have kp : Frm.Kept (fun b => b = w.heap.size + 1 ∨ b = w.heap.size + 2 ∨ b = w.heap.size + 5) W (((W.setCell ⟨w.heap.size + 1, 0, none⟩ (.slice av (ints s').length cv)).setCell ⟨w.heap.size + 2, 0, none⟩ (.int .i64 0)).putObj (w.heap.size + 5) (.deferred none)) := by
      have k1 : Frm.Kept (fun b => b = w.heap.size + 1 ∨ b = w.heap.size + 2 ∨ b = w.heap.size + 5) W ((W.setCell ⟨w.heap.size + 1, 0, none⟩ (.slice av (ints s').length cv)).setCell ⟨w.heap.size + 2, 0, none⟩ (.int .i64 0)) := ⟨rfl, rfl, rfl, by simp [World.setCell], fun b _ hn => by rw [heap_set _ _ _ _ _ (fun e => hn (.inr (.inl e))), heap_set _ _ _ _ _ (fun e => hn (.inl e))]⟩
      exact k1.trans (Frm.kept_put (F := fun b => b = w.heap.size + 1 ∨ b = w.heap.size + 2 ∨ b = w.heap.size + 5) _ _ _ (.inr (.inr rfl))) (fun b hb => .inl hb)
    have hdf' : Hid (((W.setCell ⟨w.heap.size + 1, 0, none⟩ (.slice av (ints s').length cv)).setCell ⟨w.heap.size + 2, 0, none⟩ (.int .i64 0)).heap[w.heap.size + 5]? = some (.deferred (some []))) := by
      show _ = _
      rw [heap_set _ _ _ _ _ (by omega), heap_set _ _ _ _ _ (by omega)]; exact hdf
    have hcc1 : Hid ((((W.setCell ⟨w.heap.size + 1, 0, none⟩ (.slice av (ints s').length cv)).setCell ⟨w.heap.size + 2, 0, none⟩ (.int .i64 0)).putObj (w.heap.size + 5) (.deferred none)).cell? ⟨w.heap.size + 1, 0, none⟩ = some (.slice av (ints s').length cv)) := by
      refine put_cell ?_ (by omega)
      exact (World.cell?_of_block (a := ⟨w.heap.size + 1, 0, none⟩) (heap_set _ _ _ _ _ (by show w.heap.size + 1 ≠ w.heap.size + 2; omega))).trans (hI.r1.set (.slice av (ints s').length cv)).cell
    have hcc2 : Hid ((((W.setCell ⟨w.heap.size + 1, 0, none⟩ (.slice av (ints s').length cv)).setCell ⟨w.heap.size + 2, 0, none⟩ (.int .i64 0)).putObj (w.heap.size + 5) (.deferred none)).cell? ⟨w.heap.size + 1 + 1, 0, none⟩ = some (.int .i64 0)) := by
      refine put_cell ?_ (by omega)
      have h2 : Boxed (W.setCell ⟨w.heap.size + 1, 0, none⟩ (.slice av (ints s').length cv)) (w.heap.size + 2) 26 (.int .i64 0) := (heap_set _ _ _ _ _ (by omega)).trans hI.r2
      exact (h2.set _).cell
    have fin : Hid (BStep B lb w (((W.setCell ⟨w.heap.size + 1, 0, none⟩ (.slice av (ints s').length cv)).setCell ⟨w.heap.size + 2, 0, none⟩ (.int .i64 0)).putObj (w.heap.size + 5) (.deferred none)) g g x { x with n := n' } t ∧ Frm.Own w.heap.size (((W.setCell ⟨w.heap.size + 1, 0, none⟩ (.slice av (ints s').length cv)).setCell ⟨w.heap.size + 2, 0, none⟩ (.int .i64 0)).putObj (w.heap.size + 5) (.deferred none)) (.slice av (ints s').length cv) (ints s')) := by
      refine ⟨⟨bo_kept hI.bo kp (fun b hb hh => ?_), kept_two hI.kept kp (fun b hb => .inr (by omega)), fun b hb => .inl hb, rfl⟩, (hI.own.keep (fun b hb => kp.block b (hI.own.lt hb).2 (fun hh => by have := (hI.own.lt hb).1; omega))).base (by omega)⟩
      rcases hb with hb | hb
      · have := H.out.is.1.lt hb; omega
      · omega
    clear hI kp hdf
    simp only [hs0]
    gi_wp2
    refine ⟨by simp, .inl ⟨_, _, rfl, run_takeDeferred hdf'.out, ?_⟩⟩
    refine ⟨.tuple #[.slice av (ints s').length cv, .int .i64 0], ?_, .slice av (ints s').length cv, rfl, fin.out.1, ⟨fun _ => fin.out.2, fun h => (h rfl).elim, hsm⟩⟩
    have q1 := hcc1.out
    have q2 := hcc2.out
    simp [results, Tryz.f28, go_sem, q1, q2]
  case stop =>
    rintro hi c k W hh1 hh2 hk ⟨rfl, hr0, hn1, hbx1, hbx2, hbo, hkp⟩ hdf
    have hc1 := hbx1.cell
    have hc2 := hbx2.cell
    rw [hs0] at hdf
    simp only [hs0]
    gi_wp2
    refine ⟨by simp, .inl ⟨_, _, rfl, run_takeDeferred hdf, ?_⟩⟩
    have hcc1 : (W.putObj (w.heap.size + 5) (.deferred none)).cell? ⟨w.heap.size + 1, 0, none⟩ = some (.slice none 0 0) := put_cell hbx1.cell (by omega)
    have hcc2 : (W.putObj (w.heap.size + 5) (.deferred none)).cell? ⟨w.heap.size + 1 + 1, 0, none⟩ = some (.int .i64 r) := put_cell hbx2.cell (by omega)
    have kp : Frm.Kept (fun b => b = w.heap.size + 5) W (W.putObj (w.heap.size + 5) (.deferred none)) := Frm.kept_put _ _ _ rfl
    refine ⟨.tuple #[.slice none 0 0, .int .i64 r], ?_, .slice none 0 0, rfl, ⟨bo_kept hbo kp (fun b hb hh => ?_), kept_two hkp kp (fun b hb => .inr (by omega)), fun b hb => .inl hb, rfl⟩, ⟨fun h => absurd h hr0, fun _ => rfl, hn1⟩⟩
    · simp [results, Tryz.f28, go_sem, hcc1, hcc2]
    · rcases hb with hb | hb
      · have := H.out.is.1.lt hb; omega
      · omega
end Go.Proofs.YtihgikekkgoddaaGreatDoor
