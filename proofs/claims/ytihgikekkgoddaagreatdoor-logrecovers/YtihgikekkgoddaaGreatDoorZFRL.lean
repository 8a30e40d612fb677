/- A loop over a function, as this program uses it: the k-th of m rounds is told what it is handed; the iterator's data stay; what a round turns is its own. No program is named. -/
import Derived.RangeFuncNested
import Derived.RangeFuncBound
import Derived.RangeFuncCalls
import Derived.RangeFuncLeaves
import Derived.Shelf.Abstract
import Derived.Shelf.RegionOpen
import Derived.WalkKit
import Derived.OwnWalkIn
import Derived.TacticsInMore
import Derived.LoopNIn
import Derived.LoopIn
namespace Go.Proofs.YtihgikekkgoddaaGreatDoor.Frm
open Go.RowKit

/-- outside F all that lay lies as it did. -/
structure Kept (F : Nat → Prop) (w w' : World) : Prop where
  os : w'.os = w.os
  tape : w'.tape = w.tape
  output : w'.output = w.output
  size : w.heap.size ≤ w'.heap.size
  block : ∀ k, k < w.heap.size → ¬ F k → w'.heap[k]? = w.heap[k]?
theorem Kept.refl (F : Nat → Prop) (w : World) : Kept F w w := ⟨rfl, rfl, rfl, Nat.le_refl _, fun _ _ _ => rfl⟩
theorem Kept.trans {F F' : Nat → Prop} {a b c : World} (h : Kept F a b) (k : Kept F' b c) (hF : ∀ k, F' k → F k ∨ a.heap.size ≤ k) : Kept F a c :=
  ⟨k.os.trans h.os, k.tape.trans h.tape, k.output.trans h.output, Nat.le_trans h.size k.size, fun i hi hn => (k.block i (Nat.lt_of_lt_of_le hi h.size) (fun hf => (hF i hf).elim hn (by omega))).trans (h.block i hi hn)⟩
theorem Kept.mono {F F' : Nat → Prop} {a b : World} (h : Kept F a b) (hF : ∀ k, k < a.heap.size → F k → F' k) : Kept F' a b :=
  ⟨h.os, h.tape, h.output, h.size, fun i hi hn => h.block i hi fun hf => hn (hF i hi hf)⟩
theorem Kept.low {F : Nat → Prop} {a b : World} (h : Kept F a b) {B : Nat} (hB : B ≤ a.heap.size) (hF : ∀ k, F k → B ≤ k) : Below B a b :=
  ⟨h.os, h.tape, h.output, h.size, fun i hi => h.block i (by omega) fun hf => by have := hF i hf; omega⟩
theorem kept_of_below {F : Nat → Prop} {a b : World} (h : Below a.heap.size a b) : Kept F a b :=
  ⟨h.os, h.tape, h.output, h.size, fun i hi _ => h.block i hi⟩
theorem kept_put {F : Nat → Prop} (w : World) (r : Nat) (o : Obj) (hr : F r) : Kept F w (w.putObj r o) :=
  ⟨rfl, rfl, rfl, by simp, fun _ _ hn => World.putObj_heap_other fun e => hn (e ▸ hr)⟩
theorem below_put {B : Nat} (w : World) (r : Nat) (o : Obj) (hr : B ≤ r) : Below B w (w.putObj r o) :=
  ⟨rfl, rfl, rfl, by simp, fun _ hk => World.putObj_heap_other (by omega)⟩

/-- what an iterator promises: m rounds at most; the k-th is handed what Y says; its data D stay. -/
def Gives (P : Program) (g : Nat) (lb : Array Value) (m : Nat) (Y : Nat → Array Value → World → Prop) (Z : Array Value → Nat → Prop) (D : Nat → Prop) (w0 : World) : Prop :=
  ∀ (l : Nat) (J Jx : Nat → World → Prop) (M : Nat → Prop) (W : World), Below w0.heap.size w0 W → (∀ b, M b → b < W.heap.size ∧ ¬ D b) →
    (∀ k A B, J k A → Below W.heap.size A B → J k B) → (∀ k A B, Jx k A → Below W.heap.size A B → Jx k B) →
    (∀ k args W1, k < m → W.heap.size ≤ W1.heap.size → J k W1 → Y k args W1 → ∀ i, YieldAt Fence.wide i P l args W1 fun e W' => Kept (fun b => M b ∨ Z args b) W1 W' ∧ ((e = .returned (.bool true) ∧ J (k + 1) W') ∨ (e = .returned (.bool false) ∧ Jx (k + 1) W'))) →
    J 0 W →
    Calls P g (#[.func (.yield l) #[] #[]] ++ lb) W fun e W' => (∃ v, e = .returned v) ∧ (J m W' ∨ ∃ k, k ≤ m ∧ Jx k W')

/-- how the body of a round may be left. -/
def outOf (M : Nat → Prop) (I : Nat → World → Prop) (Ix : Code → Nat → World → Prop) (k : Nat) (W : World) : Exit → Act → World → Prop
  | .normal, _, W' => Kept M W W' ∧ I (k + 1) W'
  | .ret, _, W' => Kept M W W' ∧ Ix .ret (k + 1) W'
  | .exit id, _, W' => Kept M W W' ∧ Ix (.exit id) (k + 1) W'
  | .goto t, _, W' => Kept M W W' ∧ Ix (.goto t) (k + 1) W'
  | .panic _, _, _ => False
  | .outgrown, _, _ => False

theorem range_law {P : Program} {n : Nat} {g : Operand} {ps : Array Tmp} {assign body : Code} {Q : Exit → Act → World → Prop} {a : Act} {w : World}
    {gf : Nat} {lb : Array Value} (hg : a.eval g = .func (.func gf) #[] lb) (eg : ∀ args w, (callFunc gf args).run P w = .ok (.enter gf args) w)
    {m : Nat} {Y : Nat → Array Value → World → Prop} {Z : Array Value → Nat → Prop} {D : Nat → Prop} {w0 : World} (hseq : Gives P gf lb m Y Z D w0) (hb0 : Below w0.heap.size w0 w)
    (hps : ∀ k args W, Y k args W → args.size = ps.size) (hYr : ∀ k args A r o o', Y k args A → A.heap[r]? = some (.loop o) → Y k args (A.putObj r o')) (hZr : ∀ k args A r o, Y k args A → A.heap[r]? = some o → o.isCells = false → ¬ Z args r)
    (M : Nat → Prop) (hM : ∀ b, M b → b < w.heap.size ∧ ¬ D b) (hD : ∀ b, D b → b < w.heap.size)
    (I : Nat → World → Prop) (Ix : Code → Nat → World → Prop) (hI : ∀ k A B, I k A → Below w.heap.size A B → I k B) (hIx : ∀ c k A B, Ix c k A → Below w.heap.size A B → Ix c k B) (h0 : I 0 w) (a₁ : Array Value → Act)
    (hassign : ∀ i l k args W (K : Act → World → Prop), Y k args W → K (a₁ args) W →
      assign.wpIn (Fence.wide.inRound l) i P (Exit.then K (fun _ _ _ => False)) { tmps := (ps.zip args).foldl (fun t (p, v) => t.setIfInBounds p v) a.tmps, defers := [] } W)
    (hbody : ∀ i l k args W, k < m → w.heap.size ≤ W.heap.size → I k W → Y k args W → body.wpIn (Fence.wide.inRound l) i P (outOf (fun b => M b ∨ Z args b) I Ix k W) (a₁ args) W)
    (hdone : ∀ B W, w.heap.size ≤ B → I m W → W.heap[B]? = some (.deferred (some [])) → Q .normal { a with defers := { target := .collected B, args := #[] } :: a.defers } W)
    (hstop : ∀ B c k W, w.heap.size ≤ B → k ≤ m → Ix c k W → W.heap[B]? = some (.deferred (some [])) → c.wpIn Fence.wide n P Q { a with defers := { target := .collected B, args := #[] } :: a.defers } W) :
    (Code.rangeFunc g ps assign body).wpIn Fence.wide n P Q a w := by
  refine wpIn_rangeFunc fun fn hfn => ?_
  obtain ⟨rec, hrec⟩ : ∃ rec : LoopState → Option Code → Loop, rec = fun st pe => { state := st, pending := pe, fn, tmps := a.tmps, params := ps, assign, body, defers := w.heap.size } := ⟨_, rfl⟩
  obtain ⟨V, hV⟩ : ∃ V, (w.alloc (.deferred (some []))).alloc (.loop (rec .ready none)) = V := ⟨_, rfl⟩
  have vs : V.heap.size = w.heap.size + 2 := by rw [← hV]; simp
  have vl : V.heap[w.heap.size + 1]? = some (.loop (rec .ready none)) := by
    rw [← hV]; have := World.alloc_heap_new (w.alloc (.deferred (some []))) (.loop (rec .ready none)); rwa [World.size_alloc] at this
  have vd : V.heap[w.heap.size]? = some (.deferred (some [])) := by rw [← hV]; exact (Below.heap_alloc _ _ _ (by simp)).trans (World.alloc_heap_new w _)
  have bw : Below w.heap.size w V := by rw [← hV]; exact ((Below.refl _ w).alloc (Nat.le_refl _) _).alloc (by simp) _
  refine ⟨w.heap.size + 1, [{ target := .collected w.heap.size, args := #[] }], V, { target := .fn (.func gf) lb, args := #[.func (.yield (w.heap.size + 1)) #[] #[]] }, V, gf,
    #[.func (.yield (w.heap.size + 1)) #[] #[]] ++ lb, V, ?_, ?_, fun _ _ => trivial, ?_, fun h => (by cases h), ?_⟩
  · rw [← hV, hrec]; exact run_enterLoop_outer _ _ _ _ _
  · simp only [resolve, hg]
    simp [go_sem]
  · simp [invoke, go_sem, eg]
  refine (callsIn_wide.2 (hseq (w.heap.size + 1)
    (fun k W => I k W ∧ W.heap[w.heap.size + 1]? = some (.loop (rec .ready none)) ∧ W.heap[w.heap.size]? = some (.deferred (some [])))
    (fun k W => ∃ c, Ix c k W ∧ W.heap[w.heap.size + 1]? = some (.loop (rec .done (some c))) ∧ W.heap[w.heap.size]? = some (.deferred (some [])))
    (fun b => M b ∨ b = w.heap.size + 1) V (hb0.trans (bw.mono hb0.size)) ?_ ?_ ?_ ?_ ⟨hI 0 _ _ h0 bw, vl, vd⟩)).mono ?_
  · rintro b (hb | rfl)
    · have := hM b hb; exact ⟨by omega, this.2⟩
    · exact ⟨by omega, fun h => by have := hD _ h; omega⟩
  · rintro k A B ⟨h1, h2, h3⟩ hb
    exact ⟨hI k A B h1 (hb.mono (by omega)), (hb.block _ (by omega)).trans h2, (hb.block _ (by omega)).trans h3⟩
  · rintro k A B ⟨c, h1, h2, h3⟩ hb
    exact ⟨c, hIx c k A B h1 (hb.mono (by omega)), (hb.block _ (by omega)).trans h2, (hb.block _ (by omega)).trans h3⟩
  · rintro k args W hk hsz ⟨hi, hl, hd⟩ hy i
    have hrun := run_yield (P := P) (args := args) hl (by rw [hrec]; exact hps k args W hy)
    rw [hrec] at hrun
    refine ⟨fn, _, assign, body, hrun, roundIn_of_wpIn hfn (hassign _ _ k args W _ hy ⟨_, run_beginRound hl (by rw [hrec]), ?_⟩)⟩
    obtain ⟨X, hX⟩ : ∃ X, W.putObj (w.heap.size + 1) (.loop { rec .ready none with state := .busy }) = X := ⟨_, rfl⟩
    rw [hX]
    have xl : X.heap[w.heap.size + 1]? = some (.loop { rec .ready none with state := .busy }) := by rw [← hX]; exact World.putObj_heap_same (by omega)
    have xd : X.heap[w.heap.size]? = some (.deferred (some [])) := by rw [← hX]; exact (World.putObj_heap_other (by omega)).trans hd
    have xs : X.heap.size = W.heap.size := by rw [← hX]; simp
    have xk : Kept (fun b => (M b ∨ b = w.heap.size + 1) ∨ Z args b) W X := by rw [← hX]; exact kept_put _ _ _ (.inl (.inr rfl))
    have xi : I k X := by rw [← hX]; exact hI k _ _ hi (below_put _ _ _ (by omega))
    have xy : Y k args X := by rw [← hX]; exact hYr k args W _ _ _ hy hl
    refine wpIn_mono (hbody _ _ k args X hk (by omega) xi xy) ?_
    have fin : ∀ (jump : Option Code) (W3 : World), Kept (fun b => M b ∨ Z args b) X W3 →
        (Instr.endRound (w.heap.size + 1) jump).run P W3 = .ok (.bool jump.isNone) (W3.putObj (w.heap.size + 1) (.loop (rec (if jump.isNone then .ready else .done) jump))) ∧
        (W3.putObj (w.heap.size + 1) (.loop (rec (if jump.isNone then .ready else .done) jump))).heap[w.heap.size + 1]? = some (.loop (rec (if jump.isNone then .ready else .done) jump)) ∧
        (W3.putObj (w.heap.size + 1) (.loop (rec (if jump.isNone then .ready else .done) jump))).heap[w.heap.size]? = some (.deferred (some [])) ∧
        Kept (fun b => (M b ∨ b = w.heap.size + 1) ∨ Z args b) W (W3.putObj (w.heap.size + 1) (.loop (rec (if jump.isNone then .ready else .done) jump))) := fun jump W3 hk3 => by
      have nr : ¬ (M (w.heap.size + 1) ∨ Z args (w.heap.size + 1)) := by
        rintro (h | h)
        · have := (hM _ h).1; omega
        · exact hZr k args X _ _ xy xl rfl h
      have nd : ¬ (M w.heap.size ∨ Z args w.heap.size) := by
        rintro (h | h)
        · have := (hM _ h).1; omega
        · exact hZr k args X _ _ xy xd rfl h
      have hl3 := (hk3.block _ (by omega) nr).trans xl
      have hd3 := (hk3.block _ (by omega) nd).trans xd
      have hr := run_endRound (P := P) jump hl3
      have lt3 := (Array.getElem?_eq_some_iff.1 hl3).1
      refine ⟨?_, World.putObj_heap_same lt3, (World.putObj_heap_other (by omega)).trans hd3, ?_⟩
      · rw [hrec] at hr ⊢; exact hr
      · refine (xk.trans hk3 fun b hb => .inl (hb.elim (fun h => .inl (.inl h)) .inr)).trans (kept_put W3 _ _ (F := fun b => (M b ∨ b = w.heap.size + 1) ∨ Z args b) (.inl (.inr rfl))) fun b hb => .inl hb
    have low3 : ∀ (W3 : World) (o : Obj), Below w.heap.size W3 (W3.putObj (w.heap.size + 1) o) := fun W3 o => below_put _ _ _ (by omega)
    rintro e a3 W3 hp
    cases e with
    | normal =>
      obtain ⟨hk3, hi3⟩ := hp
      obtain ⟨hr, hl4, hd4, hk4⟩ := fin none W3 hk3
      exact ⟨_, _, hr, hk4, .inl ⟨rfl, hI _ _ _ hi3 (low3 _ _), hl4, hd4⟩⟩
    | ret =>
      obtain ⟨hk3, hi3⟩ := hp
      obtain ⟨hr, hl4, hd4, hk4⟩ := fin (some .ret) W3 hk3
      exact ⟨_, _, hr, hk4, .inr ⟨rfl, .ret, hIx _ _ _ _ hi3 (low3 _ _), hl4, hd4⟩⟩
    | exit id =>
      obtain ⟨hk3, hi3⟩ := hp
      obtain ⟨hr, hl4, hd4, hk4⟩ := fin (some (.exit id)) W3 hk3
      exact ⟨_, _, hr, hk4, .inr ⟨rfl, .exit id, hIx _ _ _ _ hi3 (low3 _ _), hl4, hd4⟩⟩
    | goto t =>
      obtain ⟨hk3, hi3⟩ := hp
      obtain ⟨hr, hl4, hd4, hk4⟩ := fin (some (.goto t)) W3 hk3
      exact ⟨_, _, hr, hk4, .inr ⟨rfl, .goto t, hIx _ _ _ _ hi3 (low3 _ _), hl4, hd4⟩⟩
    | panic ch => exact hp.elim
    | outgrown => exact hp.elim
  · rintro e W2 ⟨⟨v, rfl⟩, (⟨hi, hl, hd⟩ | ⟨k, hk, c, hi, hl, hd⟩)⟩
    · have hr := run_endLoop (P := P) hl (by rw [hrec]; simp)
      rw [hrec] at hr
      exact ⟨none, _, hr, hdone _ _ (Nat.le_refl _) (hI _ _ _ hi (below_put _ _ _ (by omega))) ((World.putObj_heap_other (by omega)).trans hd)⟩
    · have hr := run_endLoop (P := P) hl (by rw [hrec]; simp)
      rw [hrec] at hr
      exact ⟨some c, _, hr, hstop _ c k _ (Nat.le_refl _) hk (hIx _ _ _ _ hi (below_put _ _ _ (by omega))) ((World.putObj_heap_other (by omega)).trans hd)⟩
end Go.Proofs.YtihgikekkgoddaaGreatDoor.Frm
