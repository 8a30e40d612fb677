/- A loop over a function: what a round turns is told by what holds ahead of it and behind it; between lo and hi, where the iterator and the loop keep what is theirs, it turns nothing. No program is named. -/
import Derived.RangeFuncNested
import Derived.RangeFuncBound
import Derived.RangeFuncCalls
import Derived.RangeFuncLeaves
import Derived.Shelf.Abstract
import Derived.Shelf.RegionOpen
import Derived.WalkKit
import Derived.OwnWalkIn
import Derived.TacticsInMore
import Derived.LoopNIn
import Derived.LoopIn
import Derived.Test.YtlggdeadkebgiaaM
namespace Go.Proofs.Ytlggdeadkebgiaa
open Go.RowKit

theorem kept_put {F : Nat → Prop} (w : World) (r : Nat) (o : Obj) (hr : F r) : Kept F w (w.putObj r o) :=
  ⟨rfl, rfl, rfl, by simp, fun _ _ hn => World.putObj_heap_other fun e => hn (e ▸ hr)⟩
theorem below_put {B : Nat} (w : World) (r : Nat) (o : Obj) (hr : B ≤ r) : Below B w (w.putObj r o) :=
  ⟨rfl, rfl, rfl, by simp, fun _ hk => World.putObj_heap_other (by omega)⟩

/-- what an iterator promises: m rounds at most; the k-th is handed what Y says, as long as Dat holds. -/
def Gives2 (P : Program) (g : Nat) (lb : Array Value) (m : Nat) (Y : Nat → Array Value → Prop) (Dat : World → Prop) (w0 : World) : Prop :=
  ∀ (l : Nat) (J Jx : Nat → Nat → World → Prop) (W : World), Below w0.heap.size w0 W →
    (∀ hi k A B, J hi k A → Below A.heap.size A B → J hi k B) → (∀ hi k A B, Jx hi k A → Below A.heap.size A B → Jx hi k B) →
    (∀ hi k args W1, k < m → W.heap.size ≤ hi → hi ≤ W1.heap.size → J hi k W1 → Y k args → ∀ i, YieldAt Fence.wide i P l args W1 fun e W' => (W1.heap.size ≤ W'.heap.size ∧ ∀ b, W.heap.size ≤ b → b < hi → W'.heap[b]? = W1.heap[b]?) ∧ ((e = .returned (.bool true) ∧ J hi (k + 1) W') ∨ (e = .returned (.bool false) ∧ Jx hi (k + 1) W'))) →
    (∀ hi k A, J hi k A → Dat A) → (∀ hi, W.heap.size ≤ hi → J hi 0 W) →
    Calls P g (#[.func (.yield l) #[] #[]] ++ lb) W fun e W' => (∃ v, e = .returned v) ∧ ∃ hi, W.heap.size ≤ hi ∧ hi ≤ W'.heap.size ∧ (J hi m W' ∨ ∃ k, k ≤ m ∧ Jx hi k W')

/-- blocks from lo up to hi lie as they did. -/
def Lies (lo hi : Nat) (W W' : World) : Prop := W.heap.size ≤ W'.heap.size ∧ ∀ b, lo ≤ b → b < hi → W'.heap[b]? = W.heap[b]?
theorem Lies.refl (lo hi : Nat) (W : World) : Lies lo hi W W := ⟨Nat.le_refl _, fun _ _ _ => rfl⟩
/-- how the body of a round may be left. -/
def outOf2 (lo hi : Nat) (I : Nat → Nat → World → Prop) (Ix : Code → Nat → Nat → World → Prop) (k : Nat) (W : World) : Exit → Act → World → Prop
  | .normal, _, W' => Lies lo hi W W' ∧ I hi (k + 1) W'
  | .ret, _, W' => Lies lo hi W W' ∧ Ix .ret hi (k + 1) W'
  | .exit id, _, W' => Lies lo hi W W' ∧ Ix (.exit id) hi (k + 1) W'
  | .goto t, _, W' => Lies lo hi W W' ∧ Ix (.goto t) hi (k + 1) W'
  | .panic _, _, _ => False
  | .outgrown, _, _ => False

theorem range2 {P : Program} {n : Nat} {g : Operand} {ps : Array Tmp} {assign body : Code} {Q : Exit → Act → World → Prop} {a : Act} {w : World}
    {gf : Nat} {lb : Array Value} (hg : a.eval g = .func (.func gf) #[] lb) (eg : ∀ args w, (callFunc gf args).run P w = .ok (.enter gf args) w)
    {m : Nat} {Y : Nat → Array Value → Prop} {Dat : World → Prop} (hseq : Gives2 P gf lb m Y Dat w) (hps : ∀ k args, Y k args → args.size = ps.size)
    (I : Nat → Nat → World → Prop) (Ix : Code → Nat → Nat → World → Prop)
    (hI : ∀ hi k A B, I hi k A → Kept (fun b => b = w.heap.size ∨ b = w.heap.size + 1) A B → I hi k B)
    (hIx : ∀ c hi k A B, Ix c hi k A → Kept (fun b => b = w.heap.size ∨ b = w.heap.size + 1) A B → Ix c hi k B)
    (hD : ∀ hi k A, I hi k A → Dat A) (h0 : ∀ hi, w.heap.size ≤ hi → I hi 0 w) (a₁ : Array Value → World → Act) (wa : Array Value → World → World) (hwa : ∀ args W, Below W.heap.size W (wa args W))
    (hassign : ∀ i l k args W (K : Act → World → Prop), Y k args → K (a₁ args W) (wa args W) →
      assign.wpIn (Fence.wide.inRound l) i P (Exit.then K (fun _ _ _ => False)) { tmps := (ps.zip args).foldl (fun t (p, v) => t.setIfInBounds p v) a.tmps, defers := [] } W)
    (hbody : ∀ i l hi k args W0 W, k < m → w.heap.size + 2 ≤ hi → hi ≤ W0.heap.size → I hi k W → Y k args → Kept (fun b => b = w.heap.size + 1) (wa args W0) W → body.wpIn (Fence.wide.inRound l) i P (outOf2 w.heap.size hi I Ix k W) (a₁ args W0) W)
    (hdone : ∀ hi W, w.heap.size + 2 ≤ hi → hi ≤ W.heap.size → I hi m W → W.heap[w.heap.size]? = some (.deferred (some [])) → Q .normal { a with defers := { target := .collected w.heap.size, args := #[] } :: a.defers } W)
    (hstop : ∀ hi c k W, w.heap.size + 2 ≤ hi → hi ≤ W.heap.size → k ≤ m → Ix c hi k W → W.heap[w.heap.size]? = some (.deferred (some [])) → c.wpIn Fence.wide n P Q { a with defers := { target := .collected w.heap.size, args := #[] } :: a.defers } W) :
    (Code.rangeFunc g ps assign body).wpIn Fence.wide n P Q a w := by
  refine wpIn_rangeFunc fun fn hfn => ?_
  obtain ⟨rec, hrec⟩ : ∃ rec : LoopState → Option Code → Loop, rec = fun st pe => { state := st, pending := pe, fn, tmps := a.tmps, params := ps, assign, body, defers := w.heap.size } := ⟨_, rfl⟩
  obtain ⟨V, hV⟩ : ∃ V, (w.alloc (.deferred (some []))).alloc (.loop (rec .ready none)) = V := ⟨_, rfl⟩
  have vs : V.heap.size = w.heap.size + 2 := by rw [← hV]; simp
  have vl : V.heap[w.heap.size + 1]? = some (.loop (rec .ready none)) := by
    rw [← hV]; have := World.alloc_heap_new (w.alloc (.deferred (some []))) (.loop (rec .ready none)); rwa [World.size_alloc] at this
  have vd : V.heap[w.heap.size]? = some (.deferred (some [])) := by rw [← hV]; exact (Below.heap_alloc _ _ _ (by simp)).trans (World.alloc_heap_new w _)
  have bw : Below w.heap.size w V := by rw [← hV]; exact ((Below.refl _ w).alloc (Nat.le_refl _) _).alloc (by simp) _
  have kput : ∀ (A : World) (o : Obj), Kept (fun b => b = w.heap.size ∨ b = w.heap.size + 1) A (A.putObj (w.heap.size + 1) o) := fun A o => kept_put _ _ _ (.inr rfl)
  refine ⟨w.heap.size + 1, [{ target := .collected w.heap.size, args := #[] }], V, { target := .fn (.func gf) lb, args := #[.func (.yield (w.heap.size + 1)) #[] #[]] }, V, gf,
    #[.func (.yield (w.heap.size + 1)) #[] #[]] ++ lb, V, ?_, ?_, fun _ _ => trivial, ?_, fun h => (by cases h), ?_⟩
  · rw [← hV, hrec]; exact run_enterLoop_outer _ _ _ _ _
  · simp only [resolve, hg]
    simp [go_sem]
  · simp [invoke, go_sem, eg]
  refine (callsIn_wide.2 (hseq (w.heap.size + 1)
    (fun hi k W => I hi k W ∧ w.heap.size + 2 ≤ W.heap.size ∧ W.heap[w.heap.size + 1]? = some (.loop (rec .ready none)) ∧ W.heap[w.heap.size]? = some (.deferred (some [])))
    (fun hi k W => ∃ c, Ix c hi k W ∧ w.heap.size + 2 ≤ W.heap.size ∧ W.heap[w.heap.size + 1]? = some (.loop (rec .done (some c))) ∧ W.heap[w.heap.size]? = some (.deferred (some [])))
    V bw ?_ ?_ ?_ (fun hi k A h => hD hi k A h.1) (fun hi hh => ⟨hI hi 0 _ _ (h0 hi (by omega)) (kept_of_below bw), by omega, vl, vd⟩))).mono ?_
  · rintro hi k A B ⟨h1, h4, h2, h3⟩ hb
    exact ⟨hI hi k A B h1 (kept_of_below hb), Nat.le_trans h4 hb.size, (hb.block _ (by omega)).trans h2, (hb.block _ (by omega)).trans h3⟩
  · rintro hi k A B ⟨c, h1, h4, h2, h3⟩ hb
    exact ⟨c, hIx c hi k A B h1 (kept_of_below hb), Nat.le_trans h4 hb.size, (hb.block _ (by omega)).trans h2, (hb.block _ (by omega)).trans h3⟩
  · rintro hi k args W hk hhi hsz ⟨hi0, hs2, hl, hd⟩ hy i
    have hrun := run_yield (P := P) (args := args) hl (by rw [hrec]; exact hps k args hy)
    rw [hrec] at hrun
    refine ⟨fn, _, assign, body, hrun, roundIn_of_wpIn hfn (hassign _ _ k args W _ hy ⟨_, run_beginRound (((hwa args W).block _ (by omega)).trans hl) (by rw [hrec]), ?_⟩)⟩
    have hA := hwa args W
    have hAs := hA.size
    have hlA := (hA.block _ (by omega)).trans hl
    have hdA := (hA.block _ (by omega)).trans hd
    obtain ⟨X, hX⟩ : ∃ X, (wa args W).putObj (w.heap.size + 1) (.loop { rec .ready none with state := .busy }) = X := ⟨_, rfl⟩
    rw [hX]
    have xl : X.heap[w.heap.size + 1]? = some (.loop { rec .ready none with state := .busy }) := by rw [← hX]; exact World.putObj_heap_same (by omega)
    have xd : X.heap[w.heap.size]? = some (.deferred (some [])) := by rw [← hX]; exact (World.putObj_heap_other (by omega)).trans hdA
    have xs : X.heap.size = (wa args W).heap.size := by rw [← hX]; simp
    have xi : I hi k X := by rw [← hX]; exact hI hi k _ _ (hI hi k _ _ hi0 (kept_of_below hA)) (kput _ _)
    have xo : ∀ b, b ≠ w.heap.size + 1 → b < W.heap.size → X.heap[b]? = W.heap[b]? := fun b hb hlt => by rw [← hX]; exact (World.putObj_heap_other hb).trans (hA.block b hlt)
    have xk : Kept (fun b => b = w.heap.size + 1) (wa args W) X := by rw [← hX]; exact kept_put _ _ _ rfl
    refine wpIn_mono (hbody _ _ hi k args W X hk (by omega) (by omega) xi hy xk) ?_
    have fin : ∀ (jump : Option Code) (W3 : World), Lies w.heap.size hi X W3 →
        (Instr.endRound (w.heap.size + 1) jump).run P W3 = .ok (.bool jump.isNone) (W3.putObj (w.heap.size + 1) (.loop (rec (if jump.isNone then .ready else .done) jump))) ∧
        (W3.putObj (w.heap.size + 1) (.loop (rec (if jump.isNone then .ready else .done) jump))).heap[w.heap.size + 1]? = some (.loop (rec (if jump.isNone then .ready else .done) jump)) ∧
        (W3.putObj (w.heap.size + 1) (.loop (rec (if jump.isNone then .ready else .done) jump))).heap[w.heap.size]? = some (.deferred (some [])) ∧
        w.heap.size + 2 ≤ (W3.putObj (w.heap.size + 1) (.loop (rec (if jump.isNone then .ready else .done) jump))).heap.size ∧
        (W.heap.size ≤ (W3.putObj (w.heap.size + 1) (.loop (rec (if jump.isNone then .ready else .done) jump))).heap.size ∧ ∀ b, V.heap.size ≤ b → b < hi → (W3.putObj (w.heap.size + 1) (.loop (rec (if jump.isNone then .ready else .done) jump))).heap[b]? = W.heap[b]?) := fun jump W3 hk3 => by
      have hl3 := (hk3.2 (w.heap.size + 1) (by omega) (by omega)).trans xl
      have hd3 := (hk3.2 w.heap.size (by omega) (by omega)).trans xd
      have hr := run_endRound (P := P) jump hl3
      have lt3 := (Array.getElem?_eq_some_iff.1 hl3).1
      have s3 := hk3.1
      refine ⟨?_, World.putObj_heap_same lt3, (World.putObj_heap_other (by omega)).trans hd3, by simp; omega, by simp; omega, fun b h1 h2 => ?_⟩
      · rw [hrec] at hr ⊢; exact hr
      · exact (World.putObj_heap_other (by omega)).trans ((hk3.2 b (by omega) h2).trans (xo b (by omega) (by omega)))
    rintro e a3 W3 hp
    cases e with
    | normal =>
      obtain ⟨hk3, hi3⟩ := hp
      obtain ⟨hr, hl4, hd4, hs4, hk4⟩ := fin none W3 hk3
      exact ⟨_, _, hr, hk4, .inl ⟨rfl, hI _ _ _ _ hi3 (kput _ _), hs4, hl4, hd4⟩⟩
    | ret =>
      obtain ⟨hk3, hi3⟩ := hp
      obtain ⟨hr, hl4, hd4, hs4, hk4⟩ := fin (some .ret) W3 hk3
      exact ⟨_, _, hr, hk4, .inr ⟨rfl, .ret, hIx _ _ _ _ _ hi3 (kput _ _), hs4, hl4, hd4⟩⟩
    | exit id =>
      obtain ⟨hk3, hi3⟩ := hp
      obtain ⟨hr, hl4, hd4, hs4, hk4⟩ := fin (some (.exit id)) W3 hk3
      exact ⟨_, _, hr, hk4, .inr ⟨rfl, .exit id, hIx _ _ _ _ _ hi3 (kput _ _), hs4, hl4, hd4⟩⟩
    | goto t =>
      obtain ⟨hk3, hi3⟩ := hp
      obtain ⟨hr, hl4, hd4, hs4, hk4⟩ := fin (some (.goto t)) W3 hk3
      exact ⟨_, _, hr, hk4, .inr ⟨rfl, .goto t, hIx _ _ _ _ _ hi3 (kput _ _), hs4, hl4, hd4⟩⟩
    | panic ch => exact hp.elim
    | outgrown => exact hp.elim
  · rintro e W2 ⟨⟨v, rfl⟩, hi, hh1, hh2, (⟨hi0, hs, hl, hd⟩ | ⟨k, hk, c, hi0, hs, hl, hd⟩)⟩
    · have hr := run_endLoop (P := P) hl (by rw [hrec]; simp)
      rw [hrec] at hr
      exact ⟨none, _, hr, hdone hi _ (by omega) (by simp; omega) (hI _ _ _ _ hi0 (kput _ _)) ((World.putObj_heap_other (by omega)).trans hd)⟩
    · have hr := run_endLoop (P := P) hl (by rw [hrec]; simp)
      rw [hrec] at hr
      exact ⟨some c, _, hr, hstop hi c k _ (by omega) (by simp; omega) hk (hIx _ _ _ _ _ hi0 (kput _ _)) ((World.putObj_heap_other (by omega)).trans hd)⟩
end Go.Proofs.Ytlggdeadkebgiaa
