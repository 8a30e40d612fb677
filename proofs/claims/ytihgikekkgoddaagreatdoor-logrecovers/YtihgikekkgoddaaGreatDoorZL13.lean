/- Contract of Open. -/
import Derived.Test.YtihgikekkgoddaaGreatDoorZL12
namespace Go.Proofs.YtihgikekkgoddaaGreatDoor
open Go.RowKit Go.Shelf Sto

/-- what Open leaves, if it fails. -/
def OpenBad (B : Nat) (w : World) (sb : Nat) (g : Gs) (t : St) (p : List UInt8) (e : Ending) (w' : World) : Prop :=
  ∃ (r : Int) (t' : St) (g' : Gs), e = .returned (.tuple #[.pointer none, .slice none 0 0, .slice none 0 0, .int .i64 r]) ∧ r ≠ 0 ∧ ((t.left = 0 ∧ r = 30 ∧ t' = t) ∨ (t.left ≠ 0 ∧ OpenNo p t r t')) ∧ Is B w' sb g' t' ∧ Kept (foot sb g) w w' ∧ ∀ b, foot sb g' b → foot sb g b ∨ w.heap.size ≤ b
/-- what it leaves, if it is done. -/
def OpenGood (B : Nat) (w : World) (sb : Nat) (g : Gs) (t : St) (p : List UInt8) (e : Ending) (w' : World) : Prop :=
  ∃ (lb : Nat) (sv rv : Value) (t' : St) (g' : Gs) (n : Nat) (s : List UInt8) (recs : List (List UInt8)), e = .returned (.tuple #[ptr lb, sv, rv, .int .i64 0]) ∧ t.left ≠ 0 ∧ OpenAt p t 5 t' n s recs ∧ Bo B w' lb g' t' ⟨sb, p, n, recs.length, false⟩ ∧ w.heap.size ≤ lb ∧ n < 100 ∧ SnapAt (lb + 2) sb g' w' sv s ∧ RecsAt (lb + 2) sb g' w' rv recs ∧ Kept (foot sb g) w w' ∧ ∀ b, foot sb g' b → foot sb g b ∨ w.heap.size ≤ b
theorem kept_from {sb : Nat} {g : Gs} {w W W' : World} {A : Nat} (hb : Below w.heap.size w W) (hA : w.heap.size ≤ A) (hk : Kept (fun b => foot sb g b ∨ A ≤ b) W W') : Kept (foot sb g) w W' :=
  (kept_of_below (F := foot sb g) hb).trans hk (fun b h => h.imp id (fun h => by omega))
set_option maxRecDepth 100000 in
set_option maxHeartbeats 4000000 in
theorem open_any (w : World) {B sb : Nat} {g : Gs} {t : St} (h : Is B w sb g t) (p : List UInt8) (hp : p.length ≤ 16) (hgood : Good p (namesOf t)) (ha : t.acts + 200 < 4611686018427387904) :
    Calls Tryz.prog 7 #[ptr sb, str p] w fun e w' => OpenBad B w sb g t p e w' ∨ OpenGood B w sb g t p e w' := by
  obtain ⟨V, hV⟩ : ∃ V, ((w.alloc (.cells #[.pointer none] 24)).alloc (.cells #[.slice none 0 0] 22)).alloc (.cells #[.slice none 0 0] 25) = V := ⟨_, rfl⟩
  have hal : Below w.heap.size w V := by rw [← hV]; exact (((Below.refl _ w).alloc (Nat.le_refl _) _).alloc (by simp) _).alloc (by simp; omega) _
  have hsV : V.heap.size = w.heap.size + 3 := by rw [← hV]; simp
  have v0 : Boxed V w.heap.size 24 (.pointer none) := by rw [← hV]; exact ((Boxed.new w _ _).alloc _).alloc _
  have v1 : Boxed V (w.heap.size + 1) 22 (.slice none 0 0) := by
    rw [← hV]
    have := (Boxed.new (w.alloc (.cells #[.pointer none] 24)) 22 (.slice none 0 0)).alloc (.cells #[.slice none 0 0] 25)
    rwa [World.size_alloc] at this
  have v2 : Boxed V (w.heap.size + 2) 25 (.slice none 0 0) := by
    rw [← hV]
    have := Boxed.new ((w.alloc (.cells #[.pointer none] 24)).alloc (.cells #[.slice none 0 0] 22)) 25 (.slice none 0 0)
    rwa [World.size_alloc, World.size_alloc] at this
  have han := answers_any V (h.below hal)
  have hcl := hid (fun W => clone_str W p (by omega))
  have hp' : ¬ (16 : Int) < (p.length : Int) := by omega
  have H := hid h
  -- storing three times nothing
  have nils : Hid (∀ (W : World) (x0 x1 x2 : Value), Boxed W w.heap.size 24 x0 → Boxed W (w.heap.size + 1) 22 x1 → Boxed W (w.heap.size + 2) 25 x2 →
      W.cell? ⟨w.heap.size, 0, none⟩ = some x0 ∧ W.frozen? ⟨w.heap.size, 0, none⟩ = false ∧ W.cell? ⟨w.heap.size + 1, 0, none⟩ = some x1 ∧ W.frozen? ⟨w.heap.size + 1, 0, none⟩ = false ∧ W.cell? ⟨w.heap.size + 1 + 1, 0, none⟩ = some x2 ∧ W.frozen? ⟨w.heap.size + 1 + 1, 0, none⟩ = false ∧
      Hid (Kept (fun b => w.heap.size ≤ b ∧ b < w.heap.size + 3) W (((W.setCell ⟨w.heap.size, 0, none⟩ (.pointer none)).setCell ⟨w.heap.size + 1, 0, none⟩ (.slice none 0 0)).setCell ⟨w.heap.size + 1 + 1, 0, none⟩ (.slice none 0 0))) ∧
      Hid ((((W.setCell ⟨w.heap.size, 0, none⟩ (.pointer none)).setCell ⟨w.heap.size + 1, 0, none⟩ (.slice none 0 0)).setCell ⟨w.heap.size + 1 + 1, 0, none⟩ (.slice none 0 0)).cell? ⟨w.heap.size, 0, none⟩ = some (.pointer none) ∧ (((W.setCell ⟨w.heap.size, 0, none⟩ (.pointer none)).setCell ⟨w.heap.size + 1, 0, none⟩ (.slice none 0 0)).setCell ⟨w.heap.size + 1 + 1, 0, none⟩ (.slice none 0 0)).cell? ⟨w.heap.size + 1, 0, none⟩ = some (.slice none 0 0) ∧ (((W.setCell ⟨w.heap.size, 0, none⟩ (.pointer none)).setCell ⟨w.heap.size + 1, 0, none⟩ (.slice none 0 0)).setCell ⟨w.heap.size + 1 + 1, 0, none⟩ (.slice none 0 0)).cell? ⟨w.heap.size + 1 + 1, 0, none⟩ = some (.slice none 0 0))) := by
    intro W x0 x1 x2 h0 h1 h2
    have k1 : Kept (fun b => w.heap.size ≤ b ∧ b < w.heap.size + 3) W (((W.setCell ⟨w.heap.size, 0, none⟩ (.pointer none)).setCell ⟨w.heap.size + 1, 0, none⟩ (.slice none 0 0)).setCell ⟨w.heap.size + 1 + 1, 0, none⟩ (.slice none 0 0)) :=
      ((kept_set (F := fun b => w.heap.size ≤ b ∧ b < w.heap.size + 3) W _ _ _ ⟨by omega, by omega⟩).trans (kept_set (F := fun b => w.heap.size ≤ b ∧ b < w.heap.size + 3) _ _ _ _ ⟨by omega, by omega⟩) (fun b hb => .inl hb)).trans (kept_set (F := fun b => w.heap.size ≤ b ∧ b < w.heap.size + 3) _ _ _ _ ⟨by omega, by omega⟩) (fun b hb => .inl hb)
    have a0 := h0.set (.pointer none)
    have a1 : Boxed (W.setCell ⟨w.heap.size, 0, none⟩ (.pointer none)) (w.heap.size + 1) 22 x1 := (heap_set _ _ _ _ _ (by omega)).trans h1
    have a2 : Boxed (W.setCell ⟨w.heap.size, 0, none⟩ (.pointer none)) (w.heap.size + 2) 25 x2 := (heap_set _ _ _ _ _ (by omega)).trans h2
    have c0 : Boxed ((W.setCell ⟨w.heap.size, 0, none⟩ (.pointer none)).setCell ⟨w.heap.size + 1, 0, none⟩ (.slice none 0 0)) w.heap.size 24 (.pointer none) := (heap_set _ _ _ _ _ (by omega)).trans a0
    have c1 := a1.set (.slice none 0 0)
    have c2 : Boxed ((W.setCell ⟨w.heap.size, 0, none⟩ (.pointer none)).setCell ⟨w.heap.size + 1, 0, none⟩ (.slice none 0 0)) (w.heap.size + 2) 25 x2 := (heap_set _ _ _ _ _ (by omega)).trans a2
    have d0 : Boxed (((W.setCell ⟨w.heap.size, 0, none⟩ (.pointer none)).setCell ⟨w.heap.size + 1, 0, none⟩ (.slice none 0 0)).setCell ⟨w.heap.size + 1 + 1, 0, none⟩ (.slice none 0 0)) w.heap.size 24 (.pointer none) := (heap_set _ _ _ _ _ (by omega)).trans c0
    have d1 : Boxed (((W.setCell ⟨w.heap.size, 0, none⟩ (.pointer none)).setCell ⟨w.heap.size + 1, 0, none⟩ (.slice none 0 0)).setCell ⟨w.heap.size + 1 + 1, 0, none⟩ (.slice none 0 0)) (w.heap.size + 1) 22 (.slice none 0 0) := (heap_set _ _ _ _ _ (by omega)).trans c1
    have d2 := c2.set (.slice none 0 0)
    exact ⟨h0.cell, h0.frozen, h1.cell, h1.frozen, h2.cell, h2.frozen, k1, d0.cell, d1.cell, d2.cell⟩
  by_cases hl : t.left = 0
  · rw [if_pos hl] at han
    replace han := hid han
    have HV := hid (And.intro v0 (And.intro v1 v2))
    have fin : Hid (∀ W', Below w.heap.size w W' → ∀ W2, Kept (fun b => w.heap.size ≤ b ∧ b < w.heap.size + 3) W' W2 → OpenBad B w sb g t p (.returned (.tuple #[.pointer none, .slice none 0 0, .slice none 0 0, .int .i64 30])) W2) := by
      intro W' hb W2 hk
      have hz := hb.size
      refine ⟨30, t, g, rfl, by omega, .inl ⟨hl, rfl, rfl⟩, ?_, (kept_of_below hb).trans hk (fun b h => .inr h.1), fun b hb => .inl hb⟩
      have h1 := H.out.below hb
      exact ⟨h1.1.keep (fun b hb' => hk.block b (h1.1.lt hb') (fun hh => by have := H.out.1.lt hb'; omega)), h1.2.1, Nat.le_trans h1.2.2 hk.size⟩
    have HAL := hid hal
    clear h hl v0 v1 v2 hal hgood
    unfold str ptr at *
    go_enter Tryz.func7, Tryz.ntmps7
    go_wp2_with fail
    refine han.out.mono ?_
    rintro e w1 ⟨rfl, hb1⟩
    have hb1' : Below w.heap.size w w1 := HAL.out.trans (hb1.mono HAL.out.size)
    obtain ⟨c0, f0, c1, f1, c2, f2, kk, dd⟩ := nils.out w1 _ _ _ ((hb1.block _ HV.out.1.lt).trans HV.out.1) ((hb1.block _ HV.out.2.1.lt).trans HV.out.2.1) ((hb1.block _ HV.out.2.2.lt).trans HV.out.2.2)
    have F1 := hid (fin.out w1 hb1')
    clear hb1 hb1' han fin nils HV
    go_wp2
    refine bodyPost_ret (v := .tuple #[.pointer none, .slice none 0 0, .slice none 0 0, .int .i64 30]) ?_ rfl (.inl (F1.out _ kk.out))
    obtain ⟨d0, d1, d2⟩ := dd.out
    simp [results, Tryz.f7, go_sem, d0, d1, d2]
  · rw [if_neg hl] at han
    replace han := hid han
    have HV := hid (And.intro v0 (And.intro v1 v2))
    have HAL := hid hal
    have hsV' := hid hsV
    have hfg : ∀ b, foot sb g b → b < w.heap.size := fun b hb => h.1.lt hb
    -- the five steps
    have five : Hid (∀ (w2 : World), Below V.heap.size V w2 → ∃ WS, WS = (((w2.setCell ⟨w.heap.size, 0, none⟩ (.pointer (some ⟨w2.heap.size, 0, none⟩))).alloc (.cells #[.pointer (some ⟨sb, 0, none⟩), .string ⟨p.toArray⟩, .int .i64 0, .int .i64 0, .bool false] 33)).alloc (.cells #[.func (.func 25) #[] #[.pointer (some ⟨w.heap.size, 0, none⟩)], .func (.func 27) #[] #[.pointer (some ⟨w.heap.size, 0, none⟩), .pointer (some ⟨w.heap.size + 1, 0, none⟩)], .func (.func 29) #[] #[.pointer (some ⟨w.heap.size, 0, none⟩)], .func (.func 31) #[] #[.pointer (some ⟨w.heap.size, 0, none⟩), .pointer (some ⟨w.heap.size + 1 + 1, 0, none⟩)], .func (.func 33) #[] #[.pointer (some ⟨w.heap.size, 0, none⟩)]] 36)) ∧
        (Calls Tryz.prog 24 #[.slice (some ⟨w2.heap.size + 1, 0, none⟩) 5 5] WS fun e w' => ∃ r : Int, e = .returned (.int .i64 r) ∧ ((r = 0 ∧ ∃ gi ti n c s recs sv rv, OpenAt p t 5 ti n s recs ∧ OSt B w.heap.size w2.heap.size WS w' g gi sb ⟨sb, p, n, c, false⟩ ti ∧ Boxed w' w.heap.size 24 (ptr w2.heap.size) ∧ Boxed w' (w.heap.size + 1) 22 sv ∧ Boxed w' (w.heap.size + 2) 25 rv ∧ SnapAt (w2.heap.size + 2) sb gi w' sv s ∧ RecsAt (w2.heap.size + 2) sb gi w' rv recs ∧ n < 100 ∧ c = recs.length) ∨ (r ≠ 0 ∧ OpenX B w.heap.size w2.heap.size WS g t sb p r w'))) ∧ Below w.heap.size w WS ∧ WS.heap.size = w2.heap.size + 2 ∧ w.heap.size + 3 ≤ w2.heap.size) := by
      intro w2 hb2
      have hz2 := hb2.size
      have hlow2 : Below w.heap.size w w2 := hal.trans (hb2.mono (by omega))
      obtain ⟨w3, e3⟩ : ∃ w3, w3 = w2.setCell ⟨w.heap.size, 0, none⟩ (.pointer (some ⟨w2.heap.size, 0, none⟩)) := ⟨_, rfl⟩
      obtain ⟨w4, e4⟩ : ∃ w4, w4 = w3.alloc (.cells #[.pointer (some ⟨sb, 0, none⟩), .string ⟨p.toArray⟩, .int .i64 0, .int .i64 0, .bool false] 33) := ⟨_, rfl⟩
      refine ⟨_, rfl, ?_⟩
      rw [← e3, ← e4]
      have s3 : w3.heap.size = w2.heap.size := by rw [e3]; simp [World.setCell]
      have s4 : w4.heap.size = w2.heap.size + 1 := by rw [e4]; simp; omega
      have o3 : ∀ b, b ≠ w.heap.size → w3.heap[b]? = w2.heap[b]? := fun b hb => by rw [e3]; exact heap_set _ _ _ _ _ hb
      have b4 : Below w3.heap.size w3 w4 := by rw [e4]; exact alloc_low _ _
      have l4 : LogAt w4 w2.heap.size ⟨sb, p, 0, 0, false⟩ := by rw [e4, ← s3]; exact (MapKept.heap_alloc w3 _).1
      have low3 : Below w.heap.size w w3 := by rw [e3]; exact hlow2.setCell (p := ⟨w.heap.size, 0, none⟩) (Nat.le_refl _) _
      have low4 : Below w.heap.size w w4 := low3.trans (b4.mono low3.size)
      obtain ⟨WS, eS⟩ : ∃ WS, WS = w4.alloc (.cells (stepsOf w.heap.size) 36) := ⟨_, rfl⟩
      have eS' : w4.alloc (.cells #[.func (.func 25) #[] #[.pointer (some ⟨w.heap.size, 0, none⟩)], .func (.func 27) #[] #[.pointer (some ⟨w.heap.size, 0, none⟩), .pointer (some ⟨w.heap.size + 1, 0, none⟩)], .func (.func 29) #[] #[.pointer (some ⟨w.heap.size, 0, none⟩)], .func (.func 31) #[] #[.pointer (some ⟨w.heap.size, 0, none⟩), .pointer (some ⟨w.heap.size + 1 + 1, 0, none⟩)], .func (.func 33) #[] #[.pointer (some ⟨w.heap.size, 0, none⟩)]] 36) = WS := eS.symm
      rw [eS']
      have sS : WS.heap.size = w2.heap.size + 2 := by rw [eS]; simp; omega
      have bS : Below w4.heap.size w4 WS := by rw [eS]; exact alloc_low _ _
      have lowS : Below w.heap.size w WS := low4.trans (bS.mono low4.size)
      have fS : WS.heap[w2.heap.size + 1]? = some (.cells (stepsOf w.heap.size) 36) := by rw [eS, ← s4]; exact (MapKept.heap_alloc w4 _).1
      have lS : LogAt WS w2.heap.size ⟨sb, p, 0, 0, false⟩ := (bS.block _ (by omega)).trans l4
      have x0 : Boxed WS w.heap.size 24 (ptr w2.heap.size) := by
        have : Boxed w2 w.heap.size 24 (.pointer none) := (hb2.block _ v0.lt).trans v0
        have := this.set (.pointer (some ⟨w2.heap.size, 0, none⟩))
        rw [← e3] at this
        exact (bS.block _ (by omega)).trans ((b4.block _ (by omega)).trans this)
      have x1 : Boxed WS (w.heap.size + 1) 22 (.slice none 0 0) := (bS.block _ (by omega)).trans ((b4.block _ (by omega)).trans ((o3 _ (by omega)).trans ((hb2.block _ v1.lt).trans v1)))
      have x2 : Boxed WS (w.heap.size + 2) 25 (.slice none 0 0) := (bS.block _ (by omega)).trans ((b4.block _ (by omega)).trans ((o3 _ (by omega)).trans ((hb2.block _ v2.lt).trans v2)))
      have isS := h.below lowS
      have bo : Bo B WS w2.heap.size g t ⟨sb, p, 0, 0, false⟩ := ⟨isS, lS, by have := h.2.2; omega⟩
      have hfS : ∀ b, foot sb g b → b < WS.heap.size := fun b hb => by have := hfg b hb; omega
      have start : OpenQ B w.heap.size w2.heap.size WS g t sb p 0 WS := ⟨g, t, 0, 0, [], [], .slice none 0 0, .slice none 0 0, .s0, ⟨bo, Kept.refl _ _, fun _ hb => .inl hb, rfl⟩, x0, x1, x2, fS, snapAt_nil _ _ _ _ hfS (by omega), recsAt_nil _ _ _ _ hfS (by omega), hgood, by omega, by omega, fun h => by omega, fun _ => rfl⟩
      refine ⟨?_, lowS, sS, by omega⟩
      have hA := hfg
      refine (inOrder_any WS (w2.heap.size + 1) 5 5 (Nat.le_refl _) (by omega) stepK (stepB w.heap.size) (fun i hi => ?_)
        (fun i W => if i = 5 then ∃ gi ti n c s recs sv rv, OpenAt p t 5 ti n s recs ∧ OSt B w.heap.size w2.heap.size WS W g gi sb ⟨sb, p, n, c, false⟩ ti ∧ Boxed W w.heap.size 24 (ptr w2.heap.size) ∧ Boxed W (w.heap.size + 1) 22 sv ∧ Boxed W (w.heap.size + 2) 25 rv ∧ SnapAt (w2.heap.size + 2) sb gi W sv s ∧ RecsAt (w2.heap.size + 2) sb gi W rv recs ∧ n < 100 ∧ c = recs.length else OpenQ B w.heap.size w2.heap.size WS g t sb p i W)
        (fun r W => OpenX B w.heap.size w2.heap.size WS g t sb p r W) (fun i W hi hI => ?_) (fun i W hi hI => ?_) start).mono ?_
      · match i, hi with
        | 0, _ => exact enters_of Tryz.func25 (by kernel_rfl) rfl
        | 1, _ => exact enters_of Tryz.func27 (by kernel_rfl) rfl
        | 2, _ => exact enters_of Tryz.func29 (by kernel_rfl) rfl
        | 3, _ => exact enters_of Tryz.func31 (by kernel_rfl) rfl
        | 4, _ => exact enters_of Tryz.func33 (by kernel_rfl) rfl
      · rw [if_neg (by omega)] at hI
        obtain ⟨gi, ti, n, c, s, recs, sv, rv, hI⟩ := hI
        rw [cell_of hI.fs]
        match i, hi with
        | 0, _ => rfl
        | 1, _ => rfl
        | 2, _ => rfl
        | 3, _ => rfl
        | 4, _ => rfl
      · rw [if_neg (by omega)] at hI
        have hcase : i = 0 ∨ i = 1 ∨ i = 2 ∨ i = 3 ∨ i = 4 := by omega
        have conv : ∀ (j : Nat) (e : Ending) (W' : World), j ≠ 5 → (Errs (fun r W' => (r = 0 ∧ OpenQ B w.heap.size w2.heap.size WS g t sb p j W') ∨ (r ≠ 0 ∧ OpenX B w.heap.size w2.heap.size WS g t sb p r W')) e W') → ∃ r : Int, e = .returned (.int .i64 r) ∧ ((r = 0 ∧ (if j = 5 then ∃ gi ti n c s recs sv rv, OpenAt p t 5 ti n s recs ∧ OSt B w.heap.size w2.heap.size WS W' g gi sb ⟨sb, p, n, c, false⟩ ti ∧ Boxed W' w.heap.size 24 (ptr w2.heap.size) ∧ Boxed W' (w.heap.size + 1) 22 sv ∧ Boxed W' (w.heap.size + 2) 25 rv ∧ SnapAt (w2.heap.size + 2) sb gi W' sv s ∧ RecsAt (w2.heap.size + 2) sb gi W' rv recs ∧ n < 100 ∧ c = recs.length else OpenQ B w.heap.size w2.heap.size WS g t sb p j W')) ∨ (r ≠ 0 ∧ OpenX B w.heap.size w2.heap.size WS g t sb p r W')) := fun j e W' hj ⟨r, h1, h2⟩ => ⟨r, h1, h2.imp (fun h => ⟨h.1, by rw [if_neg hj]; exact h.2⟩) id⟩
        rcases hcase with rfl | rfl | rfl | rfl | rfl
        · exact (step1 hI hA (by omega) sS hp ha).mono (fun e W' h => conv 1 e W' (by omega) h)
        · exact (step2 hI hA (by omega) sS hp).mono (fun e W' h => conv 2 e W' (by omega) h)
        · exact (step3 hI hA (by omega) sS hp ha).mono (fun e W' h => conv 3 e W' (by omega) h)
        · exact (step4 hI hA (by omega) sS hp ha).mono (fun e W' h => conv 4 e W' (by omega) h)
        · exact (step5 hI hA (by omega) sS hp ha).mono (fun e W' ⟨r, h1, h2⟩ => ⟨r, h1, h2.imp (fun h => ⟨h.1, by rw [if_pos rfl]; exact h.2⟩) id⟩)
      · rintro e w' ⟨r, h1, h2⟩
        exact ⟨r, h1, h2.imp (fun h => ⟨h.1, by have := h.2; rwa [if_pos rfl] at this⟩) id⟩
    have bad : Hid (∀ (w2 WS : World) (r : Int) (W' W2 : World), Below w.heap.size w WS → WS.heap.size = w2.heap.size + 2 → w.heap.size + 3 ≤ w2.heap.size → r ≠ 0 → OpenX B w.heap.size w2.heap.size WS g t sb p r W' → Kept (fun b => w.heap.size ≤ b ∧ b < w.heap.size + 3) W' W2 → OpenBad B w sb g t p (.returned (.tuple #[.pointer none, .slice none 0 0, .slice none 0 0, .int .i64 r])) W2) := by
      intro w2 WS r W' W2 hb hS hw h0 hX hk
      obtain ⟨g', t', x', y1, y2, hno, hst, _⟩ := hX
      have hx := hst.sb
      have his := hst.bo.is
      rw [hx] at his
      refine ⟨r, t', g', rfl, h0, .inr ⟨hl, hno⟩, ⟨his.1.keep (fun b hb' => hk.block b (his.1.lt hb') (fun hh => ?_)), his.2.1, Nat.le_trans his.2.2 hk.size⟩, (kept_from hb (Nat.le_refl _) hst.kept).trans hk (fun b h => .inr h.1), fun b hb' => (hst.fresh b hb').imp id (fun h => by omega)⟩
      rcases hst.fresh b hb' with h8 | h8
      · have := hfg b h8; omega
      · omega
    clear h hal v0 v1 v2 hgood hsV
    unfold str at han hcl
    unfold str
    go_enter Tryz.func7, Tryz.ntmps7
    unfold ptr at han
    unfold ptr
    go_wp2_with fail
    refine han.out.mono ?_
    rintro e w1 ⟨rfl, hb1⟩
    have HB1 := hid hb1
    clear hb1
    go_wp2_with fail
    refine (hcl.out _).mono ?_
    rintro e w2 ⟨rfl, hb2⟩
    have hb2' : Below V.heap.size V w2 := HB1.out.trans (hb2.mono HB1.out.size)
    have b0 : Boxed w2 w.heap.size 24 (.pointer none) := (hb2'.block _ HV.out.1.lt).trans HV.out.1
    have c0 := b0.cell
    have f0 := b0.frozen
    clear b0
    have hlt2 : w.heap.size < w2.heap.size := by have := hb2'.size; have := hsV'.out; omega
    obtain ⟨WS, eS, hin, lowS, sS, hw3⟩ := five.out w2 hb2'
    have ES := hid eS
    rw [eS] at hin
    have HIN := hid hin
    clear hb2 hb2' eS hin five HB1 han hcl
    go_wp2_with fail
    refine HIN.out.mono ?_
    rw [← ES.out]
    rintro e w5 ⟨r, rfl, (⟨rfl, hfin⟩ | ⟨h0, hX⟩)⟩
    · obtain ⟨gi, ti, n, c, s, recs, sv, rv, hat, hst, q0, q1, q2, hso, hro, hn, rfl⟩ := hfin
      have C0 := q0.cell
      have C1 := q1.cell
      have C2 := q2.cell
      have F0 := q0.frozen
      have F1 := q1.frozen
      have F2 := q2.frozen
      obtain ⟨sa, sc, rfl⟩ := hso.own.slice
      obtain ⟨ra, rc, rfl⟩ := hro.recs.slice
      obtain ⟨WF, eF⟩ : ∃ WF, WF = ((w5.drew.setCell ⟨w.heap.size, 0, none⟩ (.pointer (some ⟨w2.heap.size, 0, none⟩))).setCell ⟨w.heap.size + 1, 0, none⟩ (.slice sa (ints s).length sc)).setCell ⟨w.heap.size + 1 + 1, 0, none⟩ (.slice ra (recs.map ints).length rc) := ⟨_, rfl⟩
      have kk : Kept (fun b => w.heap.size ≤ b ∧ b < w.heap.size + 3) w5 WF := by
        rw [eF]
        have k0 : Kept (fun b => w.heap.size ≤ b ∧ b < w.heap.size + 3) w5 w5.drew := ⟨rfl, rfl, rfl, Nat.le_refl _, fun _ _ _ => rfl⟩
        exact ((k0.trans (kept_set (F := fun b => w.heap.size ≤ b ∧ b < w.heap.size + 3) _ _ _ _ ⟨by omega, by omega⟩) (fun b hb => .inl hb)).trans (kept_set (F := fun b => w.heap.size ≤ b ∧ b < w.heap.size + 3) _ _ _ _ ⟨by omega, by omega⟩) (fun b hb => .inl hb)).trans (kept_set (F := fun b => w.heap.size ≤ b ∧ b < w.heap.size + 3) _ _ _ _ ⟨by omega, by omega⟩) (fun b hb => .inl hb)
      have dd : Hid (WF.cell? ⟨w.heap.size, 0, none⟩ = some (.pointer (some ⟨w2.heap.size, 0, none⟩)) ∧ WF.cell? ⟨w.heap.size + 1, 0, none⟩ = some (.slice sa (ints s).length sc) ∧ WF.cell? ⟨w.heap.size + 1 + 1, 0, none⟩ = some (.slice ra (recs.map ints).length rc)) := by
        show _ ∧ _ ∧ _
        rw [eF]
        have a0 := (boxed_drew q0).set (.pointer (some ⟨w2.heap.size, 0, none⟩))
        have a1 : Boxed (w5.drew.setCell ⟨w.heap.size, 0, none⟩ (.pointer (some ⟨w2.heap.size, 0, none⟩))) (w.heap.size + 1) 22 _ := (heap_set _ _ _ _ _ (by omega)).trans (boxed_drew q1)
        have a2 : Boxed (w5.drew.setCell ⟨w.heap.size, 0, none⟩ (.pointer (some ⟨w2.heap.size, 0, none⟩))) (w.heap.size + 2) 25 _ := (heap_set _ _ _ _ _ (by omega)).trans (boxed_drew q2)
        have c0 : Boxed ((w5.drew.setCell ⟨w.heap.size, 0, none⟩ (.pointer (some ⟨w2.heap.size, 0, none⟩))).setCell ⟨w.heap.size + 1, 0, none⟩ (.slice sa (ints s).length sc)) w.heap.size 24 _ := (heap_set _ _ _ _ _ (by omega)).trans a0
        have c1 := a1.set (.slice sa (ints s).length sc)
        have c2 : Boxed ((w5.drew.setCell ⟨w.heap.size, 0, none⟩ (.pointer (some ⟨w2.heap.size, 0, none⟩))).setCell ⟨w.heap.size + 1, 0, none⟩ (.slice sa (ints s).length sc)) (w.heap.size + 2) 25 _ := (heap_set _ _ _ _ _ (by omega)).trans a2
        have d0 : Boxed (((w5.drew.setCell ⟨w.heap.size, 0, none⟩ (.pointer (some ⟨w2.heap.size, 0, none⟩))).setCell ⟨w.heap.size + 1, 0, none⟩ (.slice sa (ints s).length sc)).setCell ⟨w.heap.size + 1 + 1, 0, none⟩ (.slice ra (recs.map ints).length rc)) w.heap.size 24 _ := (heap_set _ _ _ _ _ (by omega)).trans c0
        have d1 : Boxed (((w5.drew.setCell ⟨w.heap.size, 0, none⟩ (.pointer (some ⟨w2.heap.size, 0, none⟩))).setCell ⟨w.heap.size + 1, 0, none⟩ (.slice sa (ints s).length sc)).setCell ⟨w.heap.size + 1 + 1, 0, none⟩ (.slice ra (recs.map ints).length rc)) (w.heap.size + 1) 22 _ := (heap_set _ _ _ _ _ (by omega)).trans c1
        have d2 := c2.set (.slice ra (recs.map ints).length rc)
        exact ⟨d0.cell, d1.cell, d2.cell⟩
      have nf : ∀ b, w.heap.size ≤ b → b < w.heap.size + 3 → ¬ foot sb gi b := fun b h1 h2 hb => by
        rcases hst.fresh b hb with h8 | h8
        · have := hfg b h8; omega
        · omega
      have fin : Hid (OpenGood B w sb g t p (.returned (.tuple #[ptr w2.heap.size, .slice sa (ints s).length sc, .slice ra (recs.map ints).length rc, .int .i64 0])) WF) := by
        refine ⟨w2.heap.size, _, _, ti, gi, n, s, recs, rfl, hl, hat, hst.bo.keep (fun b hb => kk.block b (hst.bo.lt hb) (fun hh => ?_)) kk.size, by omega, hn, hso.move kk (fun b hb => .inr (by omega)) (fun b hb => .inl hb), hro.move kk (fun b hb => .inr (by omega)) (fun b hb => .inl hb), (kept_from lowS (Nat.le_refl _) hst.kept).trans kk (fun b h => .inr h.1), fun b hb => (hst.fresh b hb).imp id (fun h => by omega)⟩
        rcases hb with hb | hb
        · exact nf b hh.1 hh.2 hb
        · omega
      replace eF := hid eF
      clear hst hso hro q0 q1 q2 hat HIN bad nils kk nf
      unfold ptr at C0
      generalize (ints s).length = m1 at *
      generalize (recs.map ints).length = m2 at *
      go_wp2
      go_region
      all_goals
        go_wp2
        rw [show (((w5.setCell ⟨w.heap.size, 0, none⟩ (.pointer (some ⟨w2.heap.size, 0, none⟩))).setCell ⟨w.heap.size + 1, 0, none⟩ (.slice sa m1 sc)).setCell ⟨w.heap.size + 1 + 1, 0, none⟩ (.slice ra m2 rc)).drew = WF from eF.out.symm]
        refine bodyPost_ret (v := .tuple #[.pointer (some ⟨w2.heap.size, 0, none⟩), .slice sa m1 sc, .slice ra m2 rc, .int .i64 0]) ?_ rfl (.inr fin.out)
        obtain ⟨d0, d1, d2⟩ := dd.out
        simp [results, Tryz.f7, go_sem, d0, d1, d2]
    · have h0' : (r == 0) = false := by simpa using h0
      have hX' := hX
      obtain ⟨g', t', x', y1, y2, hno, hst, z0, z1, z2⟩ := hX
      obtain ⟨c0, f0, c1, f1, c2, f2, kk, dd⟩ := nils.out w5 _ _ _ z0 z1 z2
      have F1 := hid (bad.out w2 WS r w5 _ lowS sS hw3 h0 hX' kk.out)
      clear hno hst z0 z1 z2 HIN bad nils hX'
      unfold ptr at c0
      go_wp2
      refine bodyPost_ret (v := .tuple #[.pointer none, .slice none 0 0, .slice none 0 0, .int .i64 r]) ?_ rfl (.inl F1.out)
      obtain ⟨d0, d1, d2⟩ := dd.out
      simp [results, Tryz.f7, go_sem, d0, d1, d2]
end Go.Proofs.YtihgikekkgoddaaGreatDoor
