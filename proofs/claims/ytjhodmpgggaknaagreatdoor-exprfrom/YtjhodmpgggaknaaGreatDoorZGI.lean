/- Joined: RL C6 C7 C8. -/
import Derived.RangeFuncNested
import Derived.RangeFuncBound
import Derived.RangeFuncCalls
import Derived.RangeFuncLeaves
import Derived.Shelf.Abstract
import Derived.Shelf.RegionOpen
import Derived.WalkKit
import Derived.OwnWalkIn
import Derived.TacticsInMore
import Derived.LoopNIn
import Derived.LoopIn
import Derived.Test.YtjhodmpgggaknaaGreatDoorZGR
import Derived.Test.YtjhodmpgggaknaaGreatDoorZGH
import Derived.Test.YtjhodmpgggaknaaGreatDoorZGB
import Derived.Test.YtjhodmpgggaknaaGreatDoorZGC
/- A loop over a function: what a round turns is told by what holds ahead of it and behind it; between lo and hi, where the iterator and the loop keep what is theirs, it turns nothing. No program is named. -/
namespace Go.Proofs.YtjhodmpgggaknaaGreatDoor
open Go.RowKit

theorem kept_put {F : Nat → Prop} (w : World) (r : Nat) (o : Obj) (hr : F r) : Kept F w (w.putObj r o) :=
  ⟨rfl, rfl, rfl, by simp, fun _ _ hn => World.putObj_heap_other fun e => hn (e ▸ hr)⟩
theorem below_put {B : Nat} (w : World) (r : Nat) (o : Obj) (hr : B ≤ r) : Below B w (w.putObj r o) :=
  ⟨rfl, rfl, rfl, by simp, fun _ hk => World.putObj_heap_other (by omega)⟩

/-- what an iterator promises: m rounds at most; the k-th is handed what Y says, as long as Dat holds. -/
def Gives2 (P : Program) (g : Nat) (lb : Array Value) (m : Nat) (Y : Nat → Array Value → Prop) (Dat : World → Prop) (w0 : World) : Prop :=
  ∀ (l : Nat) (J Jx : Nat → Nat → World → Prop) (W : World), Below w0.heap.size w0 W →
    (∀ hi k A B, J hi k A → Below A.heap.size A B → J hi k B) → (∀ hi k A B, Jx hi k A → Below A.heap.size A B → Jx hi k B) →
    (∀ hi k args W1, k < m → W.heap.size ≤ hi → hi ≤ W1.heap.size → J hi k W1 → Y k args → ∀ i, YieldAt Fence.wide i P l args W1 fun e W' => (W1.heap.size ≤ W'.heap.size ∧ ∀ b, W.heap.size ≤ b → b < hi → W'.heap[b]? = W1.heap[b]?) ∧ ((e = .returned (.bool true) ∧ J hi (k + 1) W') ∨ (e = .returned (.bool false) ∧ Jx hi (k + 1) W'))) →
    (∀ hi k A, J hi k A → Dat A) → (∀ hi, W.heap.size ≤ hi → J hi 0 W) →
    Calls P g (#[.func (.yield l) #[] #[]] ++ lb) W fun e W' => (∃ v, e = .returned v) ∧ ∃ hi, W.heap.size ≤ hi ∧ hi ≤ W'.heap.size ∧ (J hi m W' ∨ ∃ k, k ≤ m ∧ Jx hi k W')

/-- blocks from lo up to hi lie as they did. -/
def Lies (lo hi : Nat) (W W' : World) : Prop := W.heap.size ≤ W'.heap.size ∧ ∀ b, lo ≤ b → b < hi → W'.heap[b]? = W.heap[b]?
theorem Lies.refl (lo hi : Nat) (W : World) : Lies lo hi W W := ⟨Nat.le_refl _, fun _ _ _ => rfl⟩
/-- how the body of a round may be left. -/
def outOf2 (lo hi : Nat) (I : Nat → Nat → World → Prop) (Ix : Code → Nat → Nat → World → Prop) (k : Nat) (W : World) : Exit → Act → World → Prop
  | .normal, _, W' => Lies lo hi W W' ∧ I hi (k + 1) W'
  | .ret, _, W' => Lies lo hi W W' ∧ Ix .ret hi (k + 1) W'
  | .exit id, _, W' => Lies lo hi W W' ∧ Ix (.exit id) hi (k + 1) W'
  | .goto t, _, W' => Lies lo hi W W' ∧ Ix (.goto t) hi (k + 1) W'
  | .panic _, _, _ => False
  | .outgrown, _, _ => False

theorem range2 {P : Program} {n : Nat} {g : Operand} {ps : Array Tmp} {assign body : Code} {Q : Exit → Act → World → Prop} {a : Act} {w : World}
    {gf : Nat} {lb : Array Value} (hg : a.eval g = .func (.func gf) #[] lb) (eg : ∀ args w, (callFunc gf args).run P w = .ok (.enter gf args) w)
    {m : Nat} {Y : Nat → Array Value → Prop} {Dat : World → Prop} (hseq : Gives2 P gf lb m Y Dat w) (hps : ∀ k args, Y k args → args.size = ps.size)
    (I : Nat → Nat → World → Prop) (Ix : Code → Nat → Nat → World → Prop)
    (hI : ∀ hi k A B, I hi k A → Kept (fun b => b = w.heap.size ∨ b = w.heap.size + 1) A B → I hi k B)
    (hIx : ∀ c hi k A B, Ix c hi k A → Kept (fun b => b = w.heap.size ∨ b = w.heap.size + 1) A B → Ix c hi k B)
    (hD : ∀ hi k A, I hi k A → Dat A) (h0 : ∀ hi, w.heap.size ≤ hi → I hi 0 w) (a₁ : Array Value → World → Act) (wa : Array Value → World → World) (hwa : ∀ args W, Below W.heap.size W (wa args W))
    (hassign : ∀ i l k args W (K : Act → World → Prop), Y k args → K (a₁ args W) (wa args W) →
      assign.wpIn (Fence.wide.inRound l) i P (Exit.then K (fun _ _ _ => False)) { tmps := (ps.zip args).foldl (fun t (p, v) => t.setIfInBounds p v) a.tmps, defers := [] } W)
    (hbody : ∀ i l hi k args W0 W, k < m → w.heap.size + 2 ≤ hi → hi ≤ W0.heap.size → I hi k W → Y k args → Kept (fun b => b = w.heap.size + 1) (wa args W0) W → body.wpIn (Fence.wide.inRound l) i P (outOf2 w.heap.size hi I Ix k W) (a₁ args W0) W)
    (hdone : ∀ hi W, w.heap.size + 2 ≤ hi → hi ≤ W.heap.size → I hi m W → W.heap[w.heap.size]? = some (.deferred (some [])) → Q .normal { a with defers := { target := .collected w.heap.size, args := #[] } :: a.defers } W)
    (hstop : ∀ hi c k W, w.heap.size + 2 ≤ hi → hi ≤ W.heap.size → k ≤ m → Ix c hi k W → W.heap[w.heap.size]? = some (.deferred (some [])) → c.wpIn Fence.wide n P Q { a with defers := { target := .collected w.heap.size, args := #[] } :: a.defers } W) :
    (Code.rangeFunc g ps assign body).wpIn Fence.wide n P Q a w := by
  refine wpIn_rangeFunc fun fn hfn => ?_
  obtain ⟨rec, hrec⟩ : ∃ rec : LoopState → Option Code → Loop, rec = fun st pe => { state := st, pending := pe, fn, tmps := a.tmps, params := ps, assign, body, defers := w.heap.size } := ⟨_, rfl⟩
  obtain ⟨V, hV⟩ : ∃ V, (w.alloc (.deferred (some []))).alloc (.loop (rec .ready none)) = V := ⟨_, rfl⟩
  have vs : V.heap.size = w.heap.size + 2 := by rw [← hV]; simp
  have vl : V.heap[w.heap.size + 1]? = some (.loop (rec .ready none)) := by
    rw [← hV]; have := World.alloc_heap_new (w.alloc (.deferred (some []))) (.loop (rec .ready none)); rwa [World.size_alloc] at this
  have vd : V.heap[w.heap.size]? = some (.deferred (some [])) := by rw [← hV]; exact (Below.heap_alloc _ _ _ (by simp)).trans (World.alloc_heap_new w _)
  have bw : Below w.heap.size w V := by rw [← hV]; exact ((Below.refl _ w).alloc (Nat.le_refl _) _).alloc (by simp) _
  have kput : ∀ (A : World) (o : Obj), Kept (fun b => b = w.heap.size ∨ b = w.heap.size + 1) A (A.putObj (w.heap.size + 1) o) := fun A o => kept_put _ _ _ (.inr rfl)
  refine ⟨w.heap.size + 1, [{ target := .collected w.heap.size, args := #[] }], V, { target := .fn (.func gf) lb, args := #[.func (.yield (w.heap.size + 1)) #[] #[]] }, V, gf,
    #[.func (.yield (w.heap.size + 1)) #[] #[]] ++ lb, V, ?_, ?_, fun _ _ => trivial, ?_, fun h => (by cases h), ?_⟩
  · rw [← hV, hrec]; exact run_enterLoop_outer _ _ _ _ _
  · simp only [resolve, hg]
    simp [go_sem]
  · simp [invoke, go_sem, eg]
  refine (callsIn_wide.2 (hseq (w.heap.size + 1)
    (fun hi k W => I hi k W ∧ w.heap.size + 2 ≤ W.heap.size ∧ W.heap[w.heap.size + 1]? = some (.loop (rec .ready none)) ∧ W.heap[w.heap.size]? = some (.deferred (some [])))
    (fun hi k W => ∃ c, Ix c hi k W ∧ w.heap.size + 2 ≤ W.heap.size ∧ W.heap[w.heap.size + 1]? = some (.loop (rec .done (some c))) ∧ W.heap[w.heap.size]? = some (.deferred (some [])))
    V bw ?_ ?_ ?_ (fun hi k A h => hD hi k A h.1) (fun hi hh => ⟨hI hi 0 _ _ (h0 hi (by omega)) (kept_of_below bw), by omega, vl, vd⟩))).mono ?_
  · rintro hi k A B ⟨h1, h4, h2, h3⟩ hb
    exact ⟨hI hi k A B h1 (kept_of_below hb), Nat.le_trans h4 hb.size, (hb.block _ (by omega)).trans h2, (hb.block _ (by omega)).trans h3⟩
  · rintro hi k A B ⟨c, h1, h4, h2, h3⟩ hb
    exact ⟨c, hIx c hi k A B h1 (kept_of_below hb), Nat.le_trans h4 hb.size, (hb.block _ (by omega)).trans h2, (hb.block _ (by omega)).trans h3⟩
  · rintro hi k args W hk hhi hsz ⟨hi0, hs2, hl, hd⟩ hy i
    have hrun := run_yield (P := P) (args := args) hl (by rw [hrec]; exact hps k args hy)
    rw [hrec] at hrun
    refine ⟨fn, _, assign, body, hrun, roundIn_of_wpIn hfn (hassign _ _ k args W _ hy ⟨_, run_beginRound (((hwa args W).block _ (by omega)).trans hl) (by rw [hrec]), ?_⟩)⟩
    have hA := hwa args W
    have hAs := hA.size
    have hlA := (hA.block _ (by omega)).trans hl
    have hdA := (hA.block _ (by omega)).trans hd
    obtain ⟨X, hX⟩ : ∃ X, (wa args W).putObj (w.heap.size + 1) (.loop { rec .ready none with state := .busy }) = X := ⟨_, rfl⟩
    rw [hX]
    have xl : X.heap[w.heap.size + 1]? = some (.loop { rec .ready none with state := .busy }) := by rw [← hX]; exact World.putObj_heap_same (by omega)
    have xd : X.heap[w.heap.size]? = some (.deferred (some [])) := by rw [← hX]; exact (World.putObj_heap_other (by omega)).trans hdA
    have xs : X.heap.size = (wa args W).heap.size := by rw [← hX]; simp
    have xi : I hi k X := by rw [← hX]; exact hI hi k _ _ (hI hi k _ _ hi0 (kept_of_below hA)) (kput _ _)
    have xo : ∀ b, b ≠ w.heap.size + 1 → b < W.heap.size → X.heap[b]? = W.heap[b]? := fun b hb hlt => by rw [← hX]; exact (World.putObj_heap_other hb).trans (hA.block b hlt)
    have xk : Kept (fun b => b = w.heap.size + 1) (wa args W) X := by rw [← hX]; exact kept_put _ _ _ rfl
    refine wpIn_mono (hbody _ _ hi k args W X hk (by omega) (by omega) xi hy xk) ?_
    have fin : ∀ (jump : Option Code) (W3 : World), Lies w.heap.size hi X W3 →
        (Instr.endRound (w.heap.size + 1) jump).run P W3 = .ok (.bool jump.isNone) (W3.putObj (w.heap.size + 1) (.loop (rec (if jump.isNone then .ready else .done) jump))) ∧
        (W3.putObj (w.heap.size + 1) (.loop (rec (if jump.isNone then .ready else .done) jump))).heap[w.heap.size + 1]? = some (.loop (rec (if jump.isNone then .ready else .done) jump)) ∧
        (W3.putObj (w.heap.size + 1) (.loop (rec (if jump.isNone then .ready else .done) jump))).heap[w.heap.size]? = some (.deferred (some [])) ∧
        w.heap.size + 2 ≤ (W3.putObj (w.heap.size + 1) (.loop (rec (if jump.isNone then .ready else .done) jump))).heap.size ∧
        (W.heap.size ≤ (W3.putObj (w.heap.size + 1) (.loop (rec (if jump.isNone then .ready else .done) jump))).heap.size ∧ ∀ b, V.heap.size ≤ b → b < hi → (W3.putObj (w.heap.size + 1) (.loop (rec (if jump.isNone then .ready else .done) jump))).heap[b]? = W.heap[b]?) := fun jump W3 hk3 => by
      have hl3 := (hk3.2 (w.heap.size + 1) (by omega) (by omega)).trans xl
      have hd3 := (hk3.2 w.heap.size (by omega) (by omega)).trans xd
      have hr := run_endRound (P := P) jump hl3
      have lt3 := (Array.getElem?_eq_some_iff.1 hl3).1
      have s3 := hk3.1
      refine ⟨?_, World.putObj_heap_same lt3, (World.putObj_heap_other (by omega)).trans hd3, by simp; omega, by simp; omega, fun b h1 h2 => ?_⟩
      · rw [hrec] at hr ⊢; exact hr
      · exact (World.putObj_heap_other (by omega)).trans ((hk3.2 b (by omega) h2).trans (xo b (by omega) (by omega)))
    rintro e a3 W3 hp
    cases e with
    | normal =>
      obtain ⟨hk3, hi3⟩ := hp
      obtain ⟨hr, hl4, hd4, hs4, hk4⟩ := fin none W3 hk3
      exact ⟨_, _, hr, hk4, .inl ⟨rfl, hI _ _ _ _ hi3 (kput _ _), hs4, hl4, hd4⟩⟩
    | ret =>
      obtain ⟨hk3, hi3⟩ := hp
      obtain ⟨hr, hl4, hd4, hs4, hk4⟩ := fin (some .ret) W3 hk3
      exact ⟨_, _, hr, hk4, .inr ⟨rfl, .ret, hIx _ _ _ _ _ hi3 (kput _ _), hs4, hl4, hd4⟩⟩
    | exit id =>
      obtain ⟨hk3, hi3⟩ := hp
      obtain ⟨hr, hl4, hd4, hs4, hk4⟩ := fin (some (.exit id)) W3 hk3
      exact ⟨_, _, hr, hk4, .inr ⟨rfl, .exit id, hIx _ _ _ _ _ hi3 (kput _ _), hs4, hl4, hd4⟩⟩
    | goto t =>
      obtain ⟨hk3, hi3⟩ := hp
      obtain ⟨hr, hl4, hd4, hs4, hk4⟩ := fin (some (.goto t)) W3 hk3
      exact ⟨_, _, hr, hk4, .inr ⟨rfl, .goto t, hIx _ _ _ _ _ hi3 (kput _ _), hs4, hl4, hd4⟩⟩
    | panic ch => exact hp.elim
    | outgrown => exact hp.elim
  · rintro e W2 ⟨⟨v, rfl⟩, hi, hh1, hh2, (⟨hi0, hs, hl, hd⟩ | ⟨k, hk, c, hi0, hs, hl, hd⟩)⟩
    · have hr := run_endLoop (P := P) hl (by rw [hrec]; simp)
      rw [hrec] at hr
      exact ⟨none, _, hr, hdone hi _ (by omega) (by simp; omega) (hI _ _ _ _ hi0 (kput _ _)) ((World.putObj_heap_other (by omega)).trans hd)⟩
    · have hr := run_endLoop (P := P) hl (by rw [hrec]; simp)
      rw [hrec] at hr
      exact ⟨some c, _, hr, hstop hi c k _ (by omega) (by simp; omega) hk (hIx _ _ _ _ _ hi0 (kput _ _)) ((World.putObj_heap_other (by omega)).trans hd)⟩
end Go.Proofs.YtjhodmpgggaknaaGreatDoor
/- Contracts: Tell, and the functions that it makes, as what they go over. -/
namespace Go.Proofs.YtjhodmpgggaknaaGreatDoor
open Go.RowKit Go.Shelf
attribute [local go_sem] Oper.semAt_some

def tkA (x : Tk) : Value := .agg #[.int .u8 (x.kind : Int), .string ⟨x.text.toArray⟩, .int .i64 (x.at_ : Int)]
/-- what the k-th round is handed. -/
def rowOf (r : List (Tk × Nat)) (k : Nat) (args : Array Value) : Prop := ∃ x e, r[k]? = some (x, e) ∧ args = #[tkA x, .int .i64 (e : Int)]
set_option maxRecDepth 100000 in
set_option maxHeartbeats 1000000 in
theorem tell1_gives (w0 : World) : Gives2 Tryz.prog 53 #[] 1 (rowOf [(⟨0, [], 0⟩, 3)]) (fun _ => True) w0 := by
  intro lp J Jx W hW hJ hJx hY hDat h0
  have hY' := hid (hY W.heap.size 0 #[.agg #[.int .u8 0, .string ⟨#[]⟩, .int .i64 0], .int .i64 3] W (by omega) (Nat.le_refl _) (Nat.le_refl _) (h0 _ (Nat.le_refl _)) ⟨⟨0, [], 0⟩, 3, rfl, rfl⟩ 8)
  clear hY h0
  refine (callsIn_wide (n := 9)).1 ?_
  refine callsIn_of_wp Tryz.func53 rfl trivial ?_ rfl
  simp only [Tryz.ntmps53, List.size_toArray, List.length_cons, List.length_nil, Nat.reduceAdd, Nat.reduceSub, Array.replicate_succ, Array.replicate_zero, List.push_toArray, List.append_toArray, List.nil_append, List.cons_append]
  obtain ⟨fn, tmps, assign, body, hy, hR⟩ := hY'.out
  clear hY'
  gi_wp2
  refine hR.mono ?_
  rintro e W3 ⟨hk3, (⟨rfl, hJ3⟩ | ⟨rfl, hJ3⟩)⟩
  · gi_wp2
    go_end0
    exact ⟨⟨_, rfl⟩, W.heap.size, Nat.le_refl _, hk3.1, .inl hJ3⟩
  · gi_wp2
    go_end0
    exact ⟨⟨_, rfl⟩, W.heap.size, Nat.le_refl _, hk3.1, .inr ⟨1, by omega, hJ3⟩⟩
theorem pos_lt {l : List Tk} {b : Option Nat} {k p : Nat} (h : l.drop k = []) (hk : k ≤ l.length) (hb : b = some p) : k < (told l b).length ∧ (told l b)[k]? = some (⟨0, [], p⟩, 90) ∧ k + 1 = (told l b).length := by
  obtain rfl := drop_nil h hk
  subst hb
  have := told_bad (l := l) (p := p)
  exact ⟨(List.getElem?_eq_some_iff.1 this).1, this, by rw [told_len]; rfl⟩
set_option maxRecDepth 100000 in
set_option maxHeartbeats 4000000 in
theorem tell2_gives (w0 : World) (bx : Nat) (s : Tx) (l : List Tk) (b : Option Nat) (hl : s.length ≤ 4096) (hs : Scan 0 s l b) :
    Gives2 Tryz.prog 55 #[.pointer (some ⟨bx, 0, none⟩)] (told l b).length (rowOf (told l b)) (fun W => W.cell? ⟨bx, 0, none⟩ = some (.string ⟨s.toArray⟩)) w0 := by
  intro lp J Jx W hW hJ hJx hY hDat h0
  have cb := hDat _ _ _ (h0 _ (Nat.le_refl _))
  have hJ0 := h0 _ (Nat.le_refl _)
  have hg0 := hid (between_any s (by omega) W)
  have hp0 := hid (pos_start hs)
  clear hW hs h0
  refine (callsIn_wide (n := 9)).1 ?_
  refine callsIn_of_wp Tryz.func55 rfl trivial ?_ rfl
  simp only [Tryz.ntmps55, List.size_toArray, List.length_cons, List.length_nil, Nat.reduceAdd, Nat.reduceSub, Array.replicate_succ, Array.replicate_zero, List.push_toArray, List.append_toArray, List.nil_append, List.cons_append]
  unfold str at *
  gi_wp2_with fail
  refine ⟨trivial, (callsIn_wide.2 hg0.out).mono ?_⟩
  rintro e w1 ⟨rfl, hw'⟩
  have hw2 := hw'.symm
  subst hw2
  clear hg0
  gi_wp2
  gi_loopw [3] (fun av wr => ∃ (k a : Nat), k ≤ l.length ∧ av = .int .i64 (a : Int) ∧ Hid (Pos s l b k a) ∧ J W.heap.size k wr ∧ W.heap.size ≤ wr.heap.size)
    (fun av _ => s.length - (intOf av).toNat)
  case atStart => exact ⟨0, gap s, by omega, rfl, hp0, hJ0, Nat.le_refl _⟩
  case round =>
    obtain ⟨k, a, hk, rfl, hp, hJk, hK⟩ := hrel
    have hal := hp.out.le
    have cr := hDat _ _ _ hJk
    by_cases hlt : a < s.length
    · have hlt' : (a : Int) < (s.length : Int) := by omega
      have e2 := ext_from s a s.length rfl
      have hdl : (s.drop a).length = s.length - a := by simp
      have hfa := hid (first_any (s.drop a) (by omega) (by omega) wr)
      have hfF := first_F (s.drop a)
      have c3 : (0 : Int) ≤ (a : Int) := by omega
      have c4 : (a : Int) ≤ (s.length : Int) := by omega
      generalize hq : firstF (s.drop a) = q at *
      obtain ⟨kd, x, u⟩ := q
      simp only [] at hfF
      by_cases hu : u = 0
      · rw [if_pos hu] at hfF
        have hb := hp.out.bad hlt hfF
        obtain ⟨h1, h2, h3⟩ := pos_lt hb.1 hk hb.2
        have hyy := hid (fun (w1 : World) (hb1 : Below wr.heap.size wr w1) => hY W.heap.size k #[.agg #[.int .u8 0, .string ⟨#[]⟩, .int .i64 (a : Int)], .int .i64 90] w1 h1 (Nat.le_refl _) (Nat.le_trans hK hb1.size) (hJ _ k _ _ hJk hb1) ⟨⟨0, [], a⟩, 90, h2, rfl⟩ 8)
        have hm := hid h3
        have hmk : k + 1 ≤ (told l b).length := by omega
        clear hb h1 h2 h3 hfF hp hY hJ0 hp0 hq
        subst hu
        unfold tokV str at hfa
        gi_wp2_with fail
        refine ⟨trivial, (callsIn_wide.2 hfa.out).mono ?_⟩
        rintro e w2 ⟨rfl, hB2⟩
        have cr2 : w2.cell? ⟨bx, 0, none⟩ = some (.string ⟨s.toArray⟩) := (hB2.cell (p := ⟨bx, 0, none⟩) (World.block_lt_of_cell? wr ⟨bx, 0, none⟩ cr)).trans cr
        obtain ⟨fn, tmps, assign, body, hy, hR⟩ := hyy.out w2 hB2
        have hK2 := Nat.le_trans hK hB2.size
        clear hyy hB2 hfa
        gi_wp2
        refine hR.mono ?_
        rintro e W3 ⟨hk3, (⟨rfl, hJ3⟩ | ⟨rfl, hJ3⟩)⟩
        · gi_wp2
          refine bodyPost_ret (results_none rfl _ _ _) rfl ?_
          exact ⟨⟨_, rfl⟩, _, Nat.le_refl _, Nat.le_trans hK2 hk3.1, .inl (by rw [← hm.out]; exact hJ3)⟩
        · gi_wp2
          refine bodyPost_ret (results_none rfl _ _ _) rfl ?_
          exact ⟨⟨_, rfl⟩, _, Nat.le_refl _, Nat.le_trans hK2 hk3.1, .inr ⟨k + 1, hmk, hJ3⟩⟩
      · rw [if_neg hu] at hfF
        obtain ⟨h1, h2, h3⟩ := hp.out.tok hlt hfF
        have h4 := told_at (b := b) h1
        have h5 := (List.getElem?_eq_some_iff.1 h4).1
        have h6 := (List.getElem?_eq_some_iff.1 h1).1
        have hyy := hid (fun (w1 : World) (hb1 : Below wr.heap.size wr w1) => hY W.heap.size k #[.agg #[.int .u8 (kd : Int), .string ⟨x.toArray⟩, .int .i64 (a : Int)], .int .i64 0] w1 h5 (Nat.le_refl _) (Nat.le_trans hK hb1.size) (hJ _ k _ _ hJk hb1) ⟨⟨kd, x, a⟩, 0, h4, rfl⟩ 8)
        have h3' := hid h3
        have hgap := gap_le (s.drop (a + u))
        simp only [List.length_drop] at hgap
        have e3 := ext_from s (a + u) s.length rfl
        have hbt := hid (between_any (s.drop (a + u)) (by simp; omega))
        have c5 : IntKind.i64.wrap ((a : Int) + (u : Int)) = (a : Int) + (u : Int) := by rw [IntKind.wrap_i64]; omega
        have c6 : IntKind.i64.wrap ((a : Int) + (u : Int) + (gap (s.drop (a + u)) : Int)) = (a : Int) + (u : Int) + (gap (s.drop (a + u)) : Int) := by rw [IntKind.wrap_i64]; omega
        have c7 : (0 : Int) ≤ (a : Int) + (u : Int) := by omega
        have c8 : (a : Int) + (u : Int) ≤ (s.length : Int) := by omega
        have hu0 : ((u : Int) == 0) = false := by simp; omega
        clear h1 h3 h4 hfF hp hY hJ0 hp0 hq hdl
        unfold tokV str at hfa
        unfold str at hbt
        generalize gap (s.drop (a + u)) = g at *
        gi_wp2_with fail
        refine ⟨trivial, (callsIn_wide.2 hfa.out).mono ?_⟩
        rintro e w2 ⟨rfl, hB2⟩
        have cr2 : w2.cell? ⟨bx, 0, none⟩ = some (.string ⟨s.toArray⟩) := (hB2.cell (p := ⟨bx, 0, none⟩) (World.block_lt_of_cell? wr ⟨bx, 0, none⟩ cr)).trans cr
        obtain ⟨fn, tmps, assign, body, hy, hR⟩ := hyy.out w2 hB2
        have hK2 := Nat.le_trans hK hB2.size
        clear hyy hB2 hfa
        gi_wp2
        refine hR.mono ?_
        rintro e W3 ⟨hk3, (⟨rfl, hJ3⟩ | ⟨rfl, hJ3⟩)⟩
        · have hK3 := Nat.le_trans hK2 hk3.1
          have cr3 := hDat _ _ _ hJ3
          clear hk3 hy hR
          gi_wp2_with fail
          refine ⟨trivial, (callsIn_wide.2 (hbt.out W3)).mono ?_⟩
          rintro e w4 ⟨rfl, hw'⟩
          have hw2 := hw'.symm
          subst hw2
          gi_wp2
          exact ⟨⟨k + 1, a + u + g, by omega, by go_num, h3', hJ3, hK3⟩, by simp [intOf]; omega⟩
        · gi_wp2
          refine bodyPost_ret (results_none rfl _ _ _) rfl ?_
          exact ⟨⟨_, rfl⟩, _, Nat.le_refl _, Nat.le_trans hK2 hk3.1, .inr ⟨k + 1, by omega, hJ3⟩⟩
    · have hlt' : ¬ (a : Int) < (s.length : Int) := by omega
      have hend := hp.out.end (by omega)
      have hJ1 : Hid (J W.heap.size (told l b).length wr) := by
        unfold Hid
        rw [hend.2, told_len, ← drop_nil hend.1 hk]
        exact hJk
      clear hp hend hY hJ0
      gi_wp2
      go_end0
      exact ⟨⟨_, rfl⟩, _, Nat.le_refl _, hK, .inl hJ1.out⟩
end Go.Proofs.YtjhodmpgggaknaaGreatDoor
/- Contract of Tell. -/
namespace Go.Proofs.YtjhodmpgggaknaaGreatDoor
open Go.RowKit Go.Shelf

set_option maxHeartbeats 400000 in
theorem clone_any (s : Tx) (w : World) (hs : s.length ≤ 35184372088832) : Calls Tryz.prog 54 #[str s] w fun e w' => e = .returned (str s) ∧ Below w.heap.size w w' := by
  have hi := hid (Tryz.stringslite_Clone ⟨s.toArray⟩ w (by rw [size_of]; omega))
  unfold str
  go_enter Tryz.func54, Tryz.ntmps54
  go_wp2_with (go_at_call 73; refine hi.out.mono ?_; rintro e w' ⟨rfl, b8⟩)
  go_ret
  exact ⟨rfl, b8⟩
/-- a function that tells what a text's tokens are. -/
def TellPost (s : Tx) (w : World) (e : Ending) (w' : World) : Prop :=
  ∃ (g : Nat) (lb : Array Value) (Dat : World → Prop), e = .returned (.func (.func g) #[] lb) ∧ (∀ args w, (callFunc g args).run Tryz.prog w = .ok (.enter g args) w) ∧ Below w.heap.size w w' ∧ Dat w' ∧ (∀ A B, Dat A → (∀ b, w.heap.size ≤ b → b < w'.heap.size → B.heap[b]? = A.heap[b]?) → Dat B) ∧ ∀ r, TellOf s r → ∀ W0, Gives2 Tryz.prog g lb r.length (rowOf r) Dat W0
set_option maxRecDepth 100000 in
set_option maxHeartbeats 1000000 in
theorem tell_any (s : Tx) (w : World) (hs : s.length ≤ 35184372088832) : Calls Tryz.prog 37 #[str s] w (TellPost s w) := by
  by_cases hl : 4096 < s.length
  · have hl' : (4096 : Int) < (s.length : Int) := by omega
    have fin : Hid (TellPost s w (.returned (.func (.func 53) #[] #[])) w) :=
      ⟨_, _, fun _ => True, rfl, enters_of Tryz.func53 (by kernel_rfl) rfl, Below.refl _ _, trivial, fun _ _ _ _ => trivial, fun r hr W0 => by
        rcases hr with ⟨_, rfl⟩ | ⟨h, _⟩
        · exact tell1_gives W0
        · omega⟩
    unfold str
    clear hs hl
    go_enter Tryz.func37, Tryz.ntmps37
    go_wp2
    go_ret
    exact fin.out
  · have hl' : ¬ (4096 : Int) < (s.length : Int) := by omega
    have fin : Hid (∀ w1, Below w.heap.size w w1 → TellPost s w (.returned (.func (.func 55) #[] #[.pointer (some ⟨w1.heap.size, 0, none⟩)])) (w1.alloc (.cells #[.string ⟨s.toArray⟩] 9))) := fun w1 hb =>
      ⟨_, _, fun W => W.cell? ⟨w1.heap.size, 0, none⟩ = some (.string ⟨s.toArray⟩), rfl, enters_of Tryz.func55 (by kernel_rfl) rfl, low' hb (alloc_below _ _), (Boxed.new w1 _ _).cell, fun A B hA hk => (cell_block (hk _ hb.size (by simp))).trans hA, fun r hr W0 => by
        rcases hr with ⟨h, _⟩ | ⟨h, l, b, hsc, rfl⟩
        · omega
        · exact tell2_gives W0 _ s l b h hsc⟩
    have hcl := hid (clone_any s w hs)
    unfold str at *
    clear hs hl
    go_enter Tryz.func37, Tryz.ntmps37
    go_wp2_with (go_at_call 54; refine hcl.out.mono ?_; rintro e w1 ⟨rfl, hb⟩)
    go_ret
    exact fin.out _ hb
end Go.Proofs.YtjhodmpgggaknaaGreatDoor
/- Contract of All. -/
namespace Go.Proofs.YtjhodmpgggaknaaGreatDoor
open Go.RowKit Go.Shelf
attribute [local go_sem] Oper.semAt_some

theorem wpListIn_append_run {F : Fence} {n : Nat} {P : Program} (w : World) {ops : Array Oper} {rest : List Oper} {o : Oper} {a : Act} {Q : Exit → Act → World → Prop}
    (hg : o.guard = none) (s x : Operand) (t : TypeId) (hop : o.op = Op.call { callee := Callee.builtin Builtin.append, args := #[s, x], argTypes := #[t, t] })
    (v v2 v' : Value) (w' : World) (hs : a.eval s = v) (hx : a.eval x = v2) (hrun : ∀ ty, (Builtin.append_ #[t, t] ty #[v, v2]).run P w = .ok v' w')
    (h : wpListIn F n P ops Q rest (a.put o.dst v') w') : wpListIn F n P ops Q (o :: rest) a w := by
  refine wpListIn_plain hg fun K hK' => ?_
  unfold Oper.wpIn
  refine ⟨?_, ?_⟩
  · simp [Oper.about, hop, resolve, Target.leads, Sem.run_pure]
  · rw [Oper.semAt_plain F _ _ (by rw [hop]; intro c hc'; cases hc')]
    simp [execOp, hop, resolve, invoke, builtin, hs, hx, hrun, Result.andThen]
    exact hK' _ _ h
/-- the tokens of the first k rows. -/
def toks (r : List (Tk × Nat)) (k : Nat) : List Tk := (r.take k).map Prod.fst
theorem toks_len {r : List (Tk × Nat)} {k : Nat} (h : k ≤ r.length) : (toks r k).length = k := by simp [toks]; omega
theorem toks_succ {r : List (Tk × Nat)} {k : Nat} {x : Tk} {e : Nat} (h : r[k]? = some (x, e)) : toks r (k + 1) = toks r k ++ [x] := by
  unfold toks; rw [List.take_add_one, h]; simp
/-- All's own memory between two rounds. -/
structure AllI (n B : Nat) (w : World) (Dat : World → Prop) (r : List (Tk × Nat)) (hi k : Nat) (W : World) : Prop where
  dat : Dat W
  low : Below w.heap.size w W
  sz : B ≤ W.heap.size
  b2 : Boxed W n 38 (.slice none 0 0)
  b3 : Boxed W (n + 1) 3 (.int .i64 0)
  b4 : Boxed W (n + 1 + 1) 25 (.int .i64 0)
  row : ∃ a c, Boxed W (n + 1 + 1 + 1) 38 (.slice a k c) ∧ (B + 2 ≤ hi → OwnT hi W (.slice a k c) (toks r k))
  zero : ∀ x ∈ r.take k, x.2 = 0
structure AllX (n : Nat) (w : World) (r : List (Tk × Nat)) (W : World) : Prop where
  low : Below w.heap.size w W
  out : ∃ x e, (x, e) ∈ r ∧ e ≠ 0 ∧ Boxed W n 38 (.slice none 0 0) ∧ Boxed W (n + 1) 3 (.int .i64 (x.at_ : Int)) ∧ Boxed W (n + 1 + 1) 25 (.int .i64 (e : Int))
theorem AllI.kept {n B : Nat} {w : World} {Dat : World → Prop} {r : List (Tk × Nat)} {hi k : Nat} {A C : World} (h : AllI n B w Dat r hi k A) (hn : n = w.heap.size) (hB : n + 4 ≤ B)
    (hd : ∀ A C, Dat A → (∀ b, n + 4 ≤ b → b < B → C.heap[b]? = A.heap[b]?) → Dat C) (hk : Kept (fun b => b = B ∨ b = B + 1) A C) : AllI n B w Dat r hi k C := by
  have bx : ∀ {b t v}, b < B → Boxed A b t v → Boxed C b t v := fun hb h2 => (hk.block _ h2.lt (by omega)).trans h2
  obtain ⟨a, c, h1, h2⟩ := h.row
  have hs := h.low.size
  refine ⟨hd A C h.dat fun b h1 h2 => hk.block b (by have := h.sz; omega) (by omega), h.low.trans (hk.below hs fun k hk => by omega), Nat.le_trans h.sz hk.size, bx (by omega) h.b2, bx (by omega) h.b3, bx (by omega) h.b4, ⟨a, c, bx (by omega) h1, fun hh => ?_⟩, h.zero⟩
  exact (h2 hh).keep fun b hb => by
    have := (h2 hh).lt hb
    exact hk.block b this.2 (by omega)
theorem AllX.kept {n B : Nat} {w : World} {r : List (Tk × Nat)} {A C : World} (h : AllX n w r A) (hn : n = w.heap.size) (hB : n + 4 ≤ B) (hk : Kept (fun b => b = B ∨ b = B + 1) A C) : AllX n w r C := by
  have bx : ∀ {b t v}, b < B → Boxed A b t v → Boxed C b t v := fun hb h2 => (hk.block _ h2.lt (by omega)).trans h2
  obtain ⟨x, e, h1, h2, h3, h4, h5⟩ := h.out
  have hs : w.heap.size ≤ A.heap.size := h.low.size
  exact ⟨h.low.trans ⟨hk.os, hk.tape, hk.output, hk.size, fun b hb => hk.block b (by omega) (by omega)⟩, x, e, h1, h2, bx (by omega) h3, bx (by omega) h4, bx (by omega) h5⟩
/-- the world behind the loop's variable. -/
def oneIn (args : Array Value) (W : World) : World :=
  match args.getD 0 undef with
  | .agg c => W.alloc (.cells c 48)
  | _ => W
def AllPost (r : List (Tk × Nat)) (w : World) (e : Ending) (w' : World) : Prop :=
  ∃ v, e = .returned v ∧ Below w.heap.size w w' ∧ ((∃ x er, (x, er) ∈ r ∧ er ≠ 0 ∧ v = .tuple #[.slice none 0 0, .int .i64 (x.at_ : Int), .int .i64 (er : Int)]) ∨ (∃ a c, v = .tuple #[.slice a r.length c, .int .i64 0, .int .i64 0] ∧ OwnT w.heap.size w' (.slice a r.length c) (toks r r.length) ∧ ∀ x ∈ r, x.2 = 0))
set_option maxRecDepth 100000 in
set_option maxHeartbeats 4000000 in
theorem all_any (s : Tx) (r : List (Tk × Nat)) (hr : TellOf s r) (w : World) (hs : s.length ≤ 35184372088832) : Calls Tryz.prog 18 #[str s] w (AllPost r w) := by
  have ht := hid (fun w => tell_any s w hs)
  have hmid := hid (show (∀ p ∈ r, p.1.text.length ≤ 4096) ∧ r.length ≤ 4097 from by
    rcases hr with ⟨_, rfl⟩ | ⟨h, l, b, hsc, rfl⟩
    · refine ⟨fun p hp => ?_, by simp⟩
      simp at hp; subst hp; simp
    · obtain ⟨h1, h2, h3⟩ := scan_mem hsc
      unfold told
      refine ⟨fun p hp => ?_, ?_⟩
      · rcases List.mem_append.1 hp with hp | hp
        · obtain ⟨x, hx, rfl⟩ := List.mem_map.1 hp
          have := (h2 x hx).1
          show x.text.length ≤ _
          omega
        · cases b with
          | none => cases hp
          | some q => simp [bads] at hp; subst hp; simp
      · cases b <;> simp [bads] <;> omega)
  unfold str at *
  refine (callsIn_wide (n := 9)).1 ?_
  refine callsIn_of_wp_marks Tryz.func18 rfl trivial ?_ rfl
  simp only [Tryz.ntmps18, List.size_toArray, List.length_cons, List.length_nil, Nat.reduceAdd, Nat.reduceSub, Array.replicate_succ, Array.replicate_zero, List.push_toArray, List.append_toArray, List.nil_append, List.cons_append]
  gi_wp2_with fail
  obtain ⟨w4, hw4⟩ : ∃ w4, (((w.alloc (.cells #[Value.slice none 0 0] 38)).alloc (.cells #[Value.int .i64 0] 3)).alloc (.cells #[Value.int .i64 0] 25)).alloc (.cells #[Value.slice none 0 0] 38) = w4 := ⟨_, rfl⟩
  have sz4 : w4.heap.size = w.heap.size + 4 := by rw [← hw4]; simp
  have lo4 : Below w.heap.size w w4 := by rw [← hw4]; exact ((((Below.refl _ w).alloc (Nat.le_refl _) _).alloc (by simp) _).alloc (by simp; omega) _).alloc (by simp; omega) _
  have b2 : Boxed w4 w.heap.size 38 (.slice none 0 0) := by rw [← hw4]; exact (((Boxed.new w _ _).alloc _).alloc _).alloc _
  have b3 : Boxed w4 (w.heap.size + 1) 3 (.int .i64 0) := by
    rw [← hw4]
    have := ((Boxed.new (w.alloc (.cells #[Value.slice none 0 0] 38)) 3 (.int .i64 0)).alloc (.cells #[Value.int .i64 0] 25)).alloc (.cells #[Value.slice none 0 0] 38)
    simpa using this
  have b4 : Boxed w4 (w.heap.size + 1 + 1) 25 (.int .i64 0) := by
    rw [← hw4]
    have := (Boxed.new ((w.alloc (.cells #[Value.slice none 0 0] 38)).alloc (.cells #[Value.int .i64 0] 3)) 25 (.int .i64 0)).alloc (.cells #[Value.slice none 0 0] 38)
    simpa using this
  have b5 : Boxed w4 (w.heap.size + 1 + 1 + 1) 38 (.slice none 0 0) := by
    rw [← hw4]
    have := Boxed.new (((w.alloc (.cells #[Value.slice none 0 0] 38)).alloc (.cells #[Value.int .i64 0] 3)).alloc (.cells #[Value.int .i64 0] 25)) 38 (.slice none 0 0)
    simpa using this
  rw [hw4]
  clear hw4
  refine ⟨trivial, (callsIn_wide.2 (ht.out _)).mono ?_⟩
  rintro e w1 ⟨g, lb, Dat, rfl, eg, hb1, hdat, hdk, hgv⟩
  gi_wp2_with fail
  have hsz := hb1.size
  obtain ⟨B, hB⟩ : ∃ B, B = w1.heap.size := ⟨_, rfl⟩
  obtain ⟨n, hn⟩ : ∃ n, n = w.heap.size := ⟨_, rfl⟩
  have hnB : n + 4 ≤ B := by omega
  have hd : ∀ A C, Dat A → (∀ b, n + 4 ≤ b → b < B → C.heap[b]? = A.heap[b]?) → Dat C := fun A C h1 h2 => hdk A C h1 fun b h3 h4 => h2 b (by omega) (by omega)
  have start : ∀ hi, AllI n B w Dat r hi 0 w1 := fun hi => by
    have bx : ∀ {b t v}, Boxed w4 b t v → Boxed w1 b t v := fun h2 => (hb1.block _ h2.lt).trans h2
    rw [hn, hB]
    exact ⟨hdat, lo4.trans (hb1.mono (by omega)), Nat.le_refl _, bx b2, bx b3, bx b4, ⟨none, 0, bx b5, fun _ => ownT_nil _ _⟩, fun x hx => by simp at hx⟩
  rw [← hn]
  have HN := hid hn
  have HB := hid hB
  clear hn hB
  refine range2 (gf := g) (lb := lb) rfl eg (hgv r hr w1) (fun k args hy => by obtain ⟨x, e, _, rfl⟩ := hy; rfl)
    (fun hi k W => AllI n B w Dat r hi k W) (fun c hi k W => c = .ret ∧ AllX n w r W)
    (fun hi k A C h hk => h.kept HN.out hnB hd (by rw [HB.out]; exact hk)) (fun c hi k A C h hk => ⟨h.1, h.2.kept HN.out hnB (by rw [HB.out]; exact hk)⟩)
    (fun hi k A h => h.dat) (fun hi _ => start hi)
    (fun args W => { tmps := #[.string ⟨s.toArray⟩, undef, .pointer (some ⟨n, 0, none⟩), .pointer (some ⟨n + 1, 0, none⟩), .pointer (some ⟨n + 1 + 1, 0, none⟩), .pointer (some ⟨n + 1 + 1 + 1, 0, none⟩), .pointer (some ⟨W.heap.size, 0, none⟩), args.getD 1 undef, .string ⟨s.toArray⟩, .func (.func g) #[] lb, args.getD 0 undef, args.getD 1 undef, undef, undef, undef, undef, undef, undef, undef, undef, undef, undef], defers := [] })
    oneIn (fun args W => by unfold oneIn; split; exact alloc_below _ _; exact Below.refl _ _) ?assign ?body ?done ?stop
  case assign =>
    rintro i l1 k args W K ⟨x, e, hx, rfl⟩ hK
    unfold tkA
    gi_wp2
    exact hK
  case done =>
    rintro hi V hh1 hh2 hI hK
    obtain ⟨a, c, hrow, hown⟩ := hI.row
    have hc5 := hrow.cell
    have x2 := hI.b2
    have x3 := hI.b3
    have x4 := hI.b4
    have hlow := hid hI.low
    have hzero := hid hI.zero
    have hown' := hid (hown (by rw [HB.out]; exact hh1))
    have hnw : n + 4 ≤ w1.heap.size := by rw [← HB.out]; exact hnB
    clear hI hown
    have f2 := x2.frozen
    have f3 := x3.frozen
    have f4 := x4.frozen
    have d2 := x2.cell
    have d3 := x3.cell
    have d4 := x4.cell
    have fin : Hid (∀ W3, W3 = ((V.setCell ⟨n, 0, none⟩ (.slice a r.length c)).setCell ⟨n + 1, 0, none⟩ (.int .i64 0)).setCell ⟨n + 1 + 1, 0, none⟩ (.int .i64 0) → Boxed W3 n 38 (.slice a r.length c) ∧ Boxed W3 (n + 1) 3 (.int .i64 0) ∧ Boxed W3 (n + 1 + 1) 25 (.int .i64 0) ∧ W3.heap[w1.heap.size]? = some (.deferred (some [])) ∧ Below w.heap.size w W3 ∧ OwnT hi W3 (.slice a r.length c) (toks r r.length)) := by
      intro W3 e3
      rw [e3]
      refine ⟨((x2.set _).other (by omega) _).other (by omega) _, ((x3.other (by omega) _).set _).other (by omega) _, ((x4.other (by omega) _).other (by omega) _).set _, ?_, ?_, ?_⟩
      · exact ((heap_set _ _ _ _ _ (by omega)).trans ((heap_set _ _ _ _ _ (by omega)).trans (heap_set _ _ _ _ _ (by omega)))).trans hK
      · have := HN.out
        exact ((hlow.out.setCell (p := ⟨n, 0, none⟩) (by show _ ≤ n; omega) _).setCell (p := ⟨n + 1, 0, none⟩) (by show _ ≤ n + 1; omega) _).setCell (p := ⟨n + 1 + 1, 0, none⟩) (by show _ ≤ n + 1 + 1; omega) _
      · exact hown'.out.keep fun b hb => by
          have := hown'.out.lt hb
          exact (heap_set _ _ _ _ _ (by omega)).trans ((heap_set _ _ _ _ _ (by omega)).trans (heap_set _ _ _ _ _ (by omega)))
    gi_wp2
    obtain ⟨y2, y3, y4, hK3, hl3, ho3⟩ := fin.out _ rfl
    generalize ((V.setCell ⟨n, 0, none⟩ (.slice a r.length c)).setCell ⟨n + 1, 0, none⟩ (.int .i64 0)).setCell ⟨n + 1 + 1, 0, none⟩ (.int .i64 0) = W3 at *
    refine ⟨by simp, .inl ⟨_, _, rfl, run_takeDeferred hK3, ?_⟩⟩
    have e2 : (W3.putObj w1.heap.size (.deferred none)).cell? ⟨n, 0, none⟩ = some (.slice a r.length c) := (cell_block (World.putObj_heap_other (by omega))).trans y2.cell
    have e3 : (W3.putObj w1.heap.size (.deferred none)).cell? ⟨n + 1, 0, none⟩ = some (.int .i64 0) := (cell_block (World.putObj_heap_other (by omega))).trans y3.cell
    have e4 : (W3.putObj w1.heap.size (.deferred none)).cell? ⟨n + 1 + 1, 0, none⟩ = some (.int .i64 0) := (cell_block (World.putObj_heap_other (by omega))).trans y4.cell
    refine ⟨.tuple #[.slice a r.length c, .int .i64 0, .int .i64 0], ?_, ?_⟩
    · simp [results, Tryz.f18, go_sem, e2, e3, e4]
    · refine ⟨_, rfl, hl3.trans (below_put _ _ _ (by have := HN.out; omega)), .inr ⟨a, c, rfl, (ho3.keep fun b hb => World.putObj_heap_other (by have := ho3.lt hb; omega)).base (by have := HN.out; omega), fun x hx => hzero.out x (by rw [List.take_length]; exact hx)⟩⟩
  case stop =>
    rintro hi c k V hh1 hh2 hk ⟨rfl, hX⟩ hK
    obtain ⟨x, e, hx, he, x2, x3, x4⟩ := hX.out
    have hnw : n + 4 ≤ w1.heap.size := by rw [← HB.out]; exact hnB
    gi_wp2
    refine ⟨by simp, .inl ⟨_, _, rfl, run_takeDeferred hK, ?_⟩⟩
    have e2 : (V.putObj w1.heap.size (.deferred none)).cell? ⟨n, 0, none⟩ = some (.slice none 0 0) := (cell_block (World.putObj_heap_other (by omega))).trans x2.cell
    have e3 : (V.putObj w1.heap.size (.deferred none)).cell? ⟨n + 1, 0, none⟩ = some (.int .i64 (x.at_ : Int)) := (cell_block (World.putObj_heap_other (by omega))).trans x3.cell
    have e4 : (V.putObj w1.heap.size (.deferred none)).cell? ⟨n + 1 + 1, 0, none⟩ = some (.int .i64 (e : Int)) := (cell_block (World.putObj_heap_other (by omega))).trans x4.cell
    refine ⟨.tuple #[.slice none 0 0, .int .i64 (x.at_ : Int), .int .i64 (e : Int)], ?_, ?_⟩
    · simp [results, Tryz.f18, go_sem, e2, e3, e4]
    · exact ⟨_, rfl, hX.low.trans (below_put _ _ _ (by have := HN.out; omega)), .inl ⟨x, e, hx, he, rfl⟩⟩
  case body =>
    rintro i l1 hi k args W0 V hk hh1 hh2 hI ⟨x, e, hx, rfl⟩ hkk
    unfold tkA oneIn at hkk
    have hbox : V.heap[W0.heap.size]? = some (.cells #[.int .u8 (x.kind : Int), .string ⟨x.text.toArray⟩, .int .i64 (x.at_ : Int)] 48) := (hkk.block _ (by simp) (by have := HB.out; omega)).trans (new_block W0 _)
    unfold tkA
    have c1 := cell_of hbox 0
    have c2 := cell_of hbox 1
    have c3 := cell_of hbox 2
    simp at c1 c2 c3
    have hlt := lt_of_block hbox
    have hnw : n + 4 ≤ w1.heap.size := by rw [← HB.out]; exact hnB
    by_cases he : e = 0
    · subst he
      obtain ⟨a, c, hrow, hown⟩ := hI.row
      have hO := hown (by rw [HB.out]; exact hh1)
      have htx : x.text.length ≤ maxLen := by have := hmid.out.1 _ (List.mem_of_getElem? hx); unfold maxLen; simp only [] at this; omega
      have hhV : hi ≤ V.heap.size := by omega
      have hkr := hmid.out.2
      have hO' : OwnT hi V (.slice a k c) (toks r k) := hO
      obtain ⟨a', c', w', hrun, ho', hb'⟩ := pushT_run hO' x htx (by rw [toks_len (by omega)]; omega) hhV
      rw [toks_len (by omega)] at hrun ho'
      rw [← toks_succ hx] at ho'
      unfold kv str nv at hrun
      have bx : ∀ {b t v}, b < hi → Boxed V b t v → Boxed w' b t v := fun hb h2 => (hb'.block _ hb).trans h2
      have r5 := bx (by omega) hrow
      have g5 := r5.frozen
      have g6 := r5.cell
      have g7 := hrow.cell
      have fin : Hid (∀ W', W' = w'.setCell ⟨n + 1 + 1 + 1, 0, none⟩ (.slice a' (k + 1) c') → outOf2 w1.heap.size hi (fun hi k W => AllI n B w Dat r hi k W) (fun c hi k W => c = .ret ∧ AllX n w r W) k V .normal { tmps := #[], defers := [] } W') := by
        intro W' e'
        rw [e']
        have hs' : V.heap.size ≤ w'.heap.size := hb'.size
        have hkp : ∀ b, b < hi → b ≠ n + 1 + 1 + 1 → (w'.setCell ⟨n + 1 + 1 + 1, 0, none⟩ (.slice a' (k + 1) c')).heap[b]? = V.heap[b]? := fun b hb hne => (heap_set _ _ _ _ _ hne).trans (hb'.block b hb)
        refine ⟨⟨by rw [size_set]; exact hs', fun b h1 h2 => hkp b h2 (by omega)⟩, ?_⟩
        refine ⟨hd _ _ hI.dat fun b h1 h2 => hkp b (by have := HB.out; omega) (by omega), ?_, by rw [size_set]; exact Nat.le_trans hI.sz hs', (bx (by omega) hI.b2).other (by omega) _, (bx (by omega) hI.b3).other (by omega) _, (bx (by omega) hI.b4).other (by omega) _, ⟨a', c', r5.set _, fun _ => ?_⟩, ?_⟩
        · have := HN.out
          refine (hI.low.trans (hb'.mono (by omega))).setCell (p := ⟨n + 1 + 1 + 1, 0, none⟩) (by show _ ≤ n + 1 + 1 + 1; omega) _
        · exact ho'.keep fun b hb => heap_set _ _ _ _ _ (by have := (ho'.lt hb).1; omega)
        · intro y hy
          rw [List.take_add_one, hx] at hy
          rcases List.mem_append.1 hy with hy | hy
          · exact hI.zero y hy
          · simp at hy; subst hy; rfl
      clear hI hO hO' hown ho' hb' hkk start hgv hd hdk
      gi_wp2_with (gi_at_builtin; refine wpListIn_append_run _ rfl _ _ 38 rfl _ _ _ _ rfl rfl hrun ?_)
      exact fin.out _ rfl
    · have he0 : ((e : Int) != 0) = true := by simp; omega
      have x2 := hI.b2
      have x3 := hI.b3
      have x4 := hI.b4
      have f2 := x2.frozen
      have f3 := x3.frozen
      have f4 := x4.frozen
      have d2 := x2.cell
      have d3 := x3.cell
      have d4 := x4.cell
      have hmix : Tryz.prog.follows .mixedOrders = true := by kernel_rfl
      have fin : Hid (∀ A, outOf2 w1.heap.size hi (fun hi k W => AllI n B w Dat r hi k W) (fun c hi k W => c = .ret ∧ AllX n w r W) k V .ret A (((V.setCell ⟨n, 0, none⟩ (.slice none 0 0)).setCell ⟨n + 1, 0, none⟩ (.int .i64 (x.at_ : Int))).setCell ⟨n + 1 + 1, 0, none⟩ (.int .i64 (e : Int))).drew) := by
        intro A
        have hdr : ∀ W : World, W.drew.heap = W.heap := fun _ => rfl
        have hbx : ∀ {W : World} {b t v}, Boxed W b t v → Boxed W.drew b t v := fun h => h
        refine ⟨⟨by rw [hdr, size_set, size_set, size_set]; exact Nat.le_refl _, fun b h1 h2 => ?_⟩, rfl, ⟨?_, x, e, List.mem_of_getElem? hx, he, hbx (((x2.set _).other (by omega) _).other (by omega) _), hbx (((x3.other (by omega) _).set _).other (by omega) _), hbx (((x4.other (by omega) _).other (by omega) _).set _)⟩⟩
        · rw [hdr]
          exact (heap_set _ _ _ _ _ (by omega)).trans ((heap_set _ _ _ _ _ (by omega)).trans (heap_set _ _ _ _ _ (by omega)))
        · have := HN.out
          exact below_drew (((hI.low.setCell (p := ⟨n, 0, none⟩) (by show _ ≤ n; omega) _).setCell (p := ⟨n + 1, 0, none⟩) (by show _ ≤ n + 1; omega) _).setCell (p := ⟨n + 1 + 1, 0, none⟩) (by show _ ≤ n + 1 + 1; omega) _)
      clear start hgv hd hdk hI hkk
      gi_wp2
      gi_region_o
      all_goals
        gi_wp2
        exact fin.out _
/-- of a text that is too long. -/
theorem all_long (s : Tx) (w : World) (h : 4096 < s.length) (hs : s.length ≤ 35184372088832) : Calls Tryz.prog 18 #[str s] w fun e w' => e = .returned (.tuple #[.slice none 0 0, .int .i64 0, .int .i64 3]) ∧ Below w.heap.size w w' := by
  refine (all_any s [(⟨0, [], 0⟩, 3)] (.inl ⟨h, rfl⟩) w hs).mono ?_
  rintro e w' ⟨v, rfl, hb, ⟨x, er, hx, _, rfl⟩ | ⟨_, _, _, _, h0⟩⟩
  · simp at hx
    obtain ⟨rfl, rfl⟩ := hx
    exact ⟨rfl, hb⟩
  · have := h0 _ List.mem_cons_self
    cases this
theorem told_mem {l : List Tk} {b : Option Nat} {x : Tk} {e : Nat} (h : (x, e) ∈ told l b) (he : e ≠ 0) : ∃ p, b = some p ∧ x = ⟨0, [], p⟩ ∧ e = 90 := by
  unfold told at h
  rcases List.mem_append.1 h with h | h
  · obtain ⟨y, _, h⟩ := List.mem_map.1 h
    cases h
    exact absurd rfl he
  · cases b with
    | none => cases h
    | some p => simp [bads] at h; exact ⟨p, rfl, h.1, h.2⟩
/-- of one in which something stands that is no token. -/
theorem all_bad (s : Tx) (w : World) {l : List Tk} {p : Nat} (hsc : Scan 0 s l (some p)) (h : s.length ≤ 4096) : Calls Tryz.prog 18 #[str s] w fun e w' => e = .returned (.tuple #[.slice none 0 0, .int .i64 (p : Int), .int .i64 90]) ∧ Below w.heap.size w w' := by
  refine (all_any s _ (.inr ⟨h, l, some p, hsc, rfl⟩) w (by omega)).mono ?_
  rintro e w' ⟨v, rfl, hb, ⟨x, er, hx, he, rfl⟩ | ⟨_, _, _, _, h0⟩⟩
  · obtain ⟨q, h1, rfl, rfl⟩ := told_mem hx he
    cases h1
    exact ⟨rfl, hb⟩
  · have := h0 (⟨0, [], p⟩, 90) (by simp [told, bads])
    cases this
/-- of one that has tokens alone. -/
theorem all_ok (s : Tx) (w : World) {l : List Tk} (hsc : Scan 0 s l none) (h : s.length ≤ 4096) : Calls Tryz.prog 18 #[str s] w fun e w' => ∃ a c, e = .returned (.tuple #[.slice a l.length c, .int .i64 0, .int .i64 0]) ∧ OwnT w.heap.size w' (.slice a l.length c) l ∧ Below w.heap.size w w' := by
  refine (all_any s _ (.inr ⟨h, l, none, hsc, rfl⟩) w (by omega)).mono ?_
  have e1 : told l none = l.map fun x => (x, 0) := by simp [told, bads]
  have e2 : (told l none).length = l.length := by simp [e1]
  rintro e w' ⟨v, rfl, hb, ⟨x, er, hx, he, rfl⟩ | ⟨a, c, rfl, ho, _⟩⟩
  · obtain ⟨q, h1, _⟩ := told_mem hx he
    cases h1
  · have e3 : toks (told l none) (told l none).length = l := by
      unfold toks
      rw [List.take_length, e1, List.map_map]
      exact List.map_id l
    rw [e3] at ho
    rw [e2] at ho ⊢
    exact ⟨a, c, rfl, ho, hb⟩
end Go.Proofs.YtjhodmpgggaknaaGreatDoor
