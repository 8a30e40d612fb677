/- LogRecovers: contracts of the log's calls, whenever the power goes, with the row of records beside the store. -/
import Derived.Test.YtihgikekkgoddaaGreatDoorZRc1
import Derived.Test.YtihgikekkgoddaaGreatDoorZSy1
namespace Go.Proofs.YtihgikekkgoddaaGreatDoor
open Go.RowKit Go.Shelf Sto

/-- records in a row of our own (their bytes lie where the arguments lie), away from some blocks. -/
def Row (B : Nat) (w : World) (bx : Nat × Array Value) (F : Nat → Prop) (wr : World) (rv : Value) (ms : List (List UInt8)) : Prop :=
  (B ≤ bx.1 ∧ wr.heap[bx.1]? = some (.cells bx.2 47) ∧ ¬ F bx.1) ∧ ∃ vs, wr.ownsRow B 22 1 rv ms.length vs ∧ (∀ b, rv.ownBlock = some b → ¬ F b) ∧ ∀ i (hi : i < ms.length), ∃ u, vs[i]? = some u ∧ Frm.IsB w u (ints ms[i])
theorem Row.empty {B : Nat} {w : World} {bx : Nat × Array Value} {F : Nat → Prop} {wr : World} (h : B ≤ bx.1 ∧ wr.heap[bx.1]? = some (.cells bx.2 47) ∧ ¬ F bx.1) : Row B w bx F wr (.slice none 0 0) [] := ⟨h, [], World.ownsRow_nil _ _ _ _, (fun b h => by cases h), (fun i hi => by simp at hi)⟩
theorem Row.slice {B : Nat} {w : World} {bx : Nat × Array Value} {F : Nat → Prop} {wr : World} {rv : Value} {ms : List (List UInt8)} (h : Row B w bx F wr rv ms) : ∃ a c, rv = .slice a ms.length c := by
  obtain ⟨_, vs, h1, _⟩ := h
  exact row_slice h1
theorem Row.move {B : Nat} {w : World} {bx : Nat × Array Value} {F F' G : Nat → Prop} {wr w' : World} {rv : Value} {ms : List (List UInt8)} (h : Row B w bx F wr rv ms) (hk : Kept G wr w') (hG : ∀ b, G b → F b) (hf : ∀ b, F' b → F b ∨ wr.heap.size ≤ b) : Row B w bx F' w' rv ms := by
  obtain ⟨⟨b1, b2, b3⟩, vs, h1, h2, h3⟩ := h
  have hlt := lt_of_block b2
  refine ⟨⟨b1, (hk.block _ hlt (fun h => b3 (hG _ h))).trans b2, fun hF => ?_⟩, vs, ownsRow_block h1 fun k hk' => hk.block k (h1.lt k hk').2 (fun h => h2 k hk' (hG k h)), fun b hb hF => ?_, h3⟩
  · rcases hf _ hF with h4 | h4
    · exact b3 h4
    · omega
  · rcases hf b hF with h4 | h4
    · exact h2 b hb h4
    · have := (h1.lt b hb).2; omega
theorem Row.isR {B : Nat} {w : World} {bx : Nat × Array Value} {F : Nat → Prop} {wr : World} {rv : Value} {ms : List (List UInt8)} (h : Row B w bx F wr rv ms) (hw : w.heap.size ≤ B) (hb : Below B w wr) : IsR wr rv ms := by
  obtain ⟨_, vs, h1, _, h3⟩ := h
  have hb' := hb.mono hw
  rcases h1.2 with ⟨rfl, h0⟩ | ⟨g, cap, cur, rfl, _, _, h4, h5, _⟩
  · exact ⟨none, 0, by rw [h0], by omega, by omega, .inl (List.eq_nil_of_length_eq_zero h0)⟩
  · refine ⟨_, cap, rfl, h4, h5, .inr ⟨g, 0, rfl, fun i hi => ?_⟩⟩
    obtain ⟨u, h6, h7⟩ := h3 i hi
    refine ⟨u, ?_, h7.below hb'⟩
    have := h1.cells (g := g) rfl i u h6
    rwa [Addr.add_lit] at this
/-- the row's block is no story's. -/
theorem row_ne {B : Nat} {w : World} {rv : Value} {n : Nat} {vs : List Value} (h : w.ownsRow B 22 1 rv n vs) {xb : Nat} {cs : Array Value} (hx : w.heap[xb]? = some (.cells cs 47)) : rv.ownBlock ≠ some xb := by
  intro hk
  rcases h.2 with ⟨e1, _⟩ | ⟨g, cap, cur, e1, _, h2, _⟩
  · rw [e1] at hk; cases hk
  · rw [e1] at hk
    have e : g = xb := by simpa [Value.ownBlock] using hk
    subst e
    rw [hx] at h2
    simp at h2
theorem recInfo : (Tryz.prog.info? 22).map (fun i => (i.zero, i.size, i.bytes)) = some (some (.slice none 0 0), 1, 24) := by kernel_rfl
/-- one more goes to the row. -/
theorem Row.push {B : Nat} {w : World} {bx : Nat × Array Value} {F : Nat → Prop} {wr : World} {rv : Value} {ms : List (List UInt8)} (h : Row B w bx F wr rv ms) (hF : ∀ b, F b → b < wr.heap.size) (hB : B ≤ wr.heap.size) (hn : ms.length ≤ 1000) {a : Option Addr} {n c : Nat} {r : List UInt8} (hv : Frm.IsB w (.slice a n c) (ints r)) :
    ∃ a' c' w', (∀ ty, (Builtin.append_ #[25, 25] ty #[rv, .slice (some ⟨wr.heap.size, 0, none⟩) 1 1]).run Tryz.prog (wr.alloc (.cells #[.slice a n c] 22)) = .ok (.slice a' (ms.length + 1) c') w') ∧ Row B w bx F w' (.slice a' (ms.length + 1) c') (ms ++ [r]) ∧ wr.grownBy w' rv.ownBlock ∧ (∀ k, rv.ownBlock = some k → B ≤ k ∧ ¬ F k) := by
  obtain ⟨⟨b1, b2, b3⟩, vs, h1, h2, h3⟩ := h
  obtain ⟨i0, hi, hz0, hz1, hz2⟩ := info_parts recInfo
  obtain ⟨a', c', w', hrun, hown, hgr, hat⟩ := push_run (base := B) (i := i0) (z := .slice none 0 0) (size := 1) (bytes := 24) Tryz.underlying25 hi hz0 hz1 hz2 rfl (by decide) h1 [.slice a n c] rfl (by intro u hu; simp at hu; subst hu; rfl) (by omega) (by decide) hB
  have hvl := h1.1
  refine ⟨a', c', w', hrun, ⟨⟨b1, (hgr.block _ (lt_of_block b2) fun e => row_ne h1 b2 e.symm).trans b2, b3⟩, vs ++ [.slice a n c], by simpa using hown, fun b hb hF' => ?_, fun i hi => ?_⟩, hgr, fun k hk => ⟨(h1.lt k hk).1, h2 k hk⟩⟩
  · rcases hat b hb with h4 | h4
    · exact h2 b h4 hF'
    · have := hF b hF'; omega
  · by_cases hlt : i < ms.length
    · obtain ⟨u, h4, h5⟩ := h3 i hlt
      refine ⟨u, by rw [List.getElem?_append_left (by omega)]; exact h4, ?_⟩
      rw [List.getElem_append_left hlt]; exact h5
    · have e : i = ms.length := by simp at hi; omega
      subst e
      refine ⟨.slice a n c, by rw [List.getElem?_append_right (by omega), show ms.length - vs.length = 0 by omega]; rfl, ?_⟩
      rw [List.getElem_append_right (by omega)]
      simpa using hv
abbrev px : List UInt8 := [120]
/-- the log goes on: records rs, of which sy are safe, behind the snapshot S; ms lie in the row rv. -/
def Live (B : Nat) (w : World) (bx : Nat × Array Value) (lb sb : Nat) (S : List UInt8) (rs : List (List UInt8)) (sy : Nat) (rv : Value) (ms : List (List UInt8)) (wr : World) : Prop :=
  ∃ g t N s f, Bo B wr lb g t ⟨sb, px, N, rs.length, false⟩ ∧ RS px t N S (encs rs) s 61 ∧ (encs (rs.take sy)).length ≤ s ∧ sy ≤ rs.length ∧ Bd 61 t ∧ (N : Int) + t.left ≤ 60 ∧ lookE (nameOf px (pLog N)) t.l = some f ∧ Below B w wr ∧ Row B w bx (bfoot lb ⟨sb, px, N, rs.length, false⟩ g) wr rv ms
/-- the power is gone, or it goes on: what a story says is told. -/
def Gone (B : Nat) (w : World) (bx : Nat × Array Value) (sb : Nat) (on : Bool) (S nx : List UInt8) (rs : List (List UInt8)) (sy : Nat) (rv : Value) (dead : Bool) (wr : World) : Prop :=
  ∃ g t, Is B wr sb g t ∧ TellsS px t on S nx rs sy 61 ∧ sy ≤ rs.length ∧ (dead = true → t.left = 0) ∧ t.acts ≤ 1000 ∧ Below B w wr ∧ Row B w bx (foot sb g) wr rv rs
theorem Live.gone {B : Nat} {w : World} {bx : Nat × Array Value} {lb sb : Nat} {S : List UInt8} {rs : List (List UInt8)} {sy : Nat} {rv : Value} {wr : World} (h : Live B w bx lb sb S rs sy rv rs wr) (on : Bool) (nx : List UInt8) : Gone B w bx sb on S nx rs sy rv false wr := by
  obtain ⟨g, t, N, s, f, h1, h2, h3, h4, h5, h6, h7, h9, h10⟩ := h
  have := h5.1
  have := h5.2.2
  exact ⟨g, t, h1.is, .inl ⟨N, s, h2, h3⟩, h4, (fun e => by cases e), by omega, h9, h10.move (Kept.refl _ _) (fun b hb => hb) (fun b hb => .inl (.inl hb))⟩
theorem Live.low {B : Nat} {w : World} {bx : Nat × Array Value} {lb sb : Nat} {S : List UInt8} {rs ms : List (List UInt8)} {sy : Nat} {rv : Value} {wr : World} (h : Live B w bx lb sb S rs sy rv ms wr) : Below B w wr := by
  obtain ⟨g, t, N, s, f, h1, h2, h3, h4, h5, h6, h7, h9, h10⟩ := h; exact h9
theorem Gone.low {B : Nat} {w : World} {bx : Nat × Array Value} {sb : Nat} {on : Bool} {S nx : List UInt8} {rs : List (List UInt8)} {sy : Nat} {rv : Value} {d : Bool} {wr : World} (h : Gone B w bx sb on S nx rs sy rv d wr) : Below B w wr := by
  obtain ⟨g, t, h1, h2, h3, h4, h5, h6, h7⟩ := h; exact h6
theorem bf_fresh {lb : Nat} {x x' : Lg} {g g' : Gs} {n : Nat} (h : ∀ k, foot x'.sb g' k → foot x.sb g k ∨ n ≤ k) : ∀ b, bfoot lb x' g' b → bfoot lb x g b ∨ n ≤ b := fun b hb => hb.elim (fun h1 => (h b h1).imp .inl id) (fun e => .inl (.inr e))
theorem rc_sync {B : Nat} {w : World} {bx : Nat × Array Value} {lb sb : Nat} {S : List UInt8} {rs : List (List UInt8)} {sy : Nat} {rv : Value} {wr : World} (h : Live B w bx lb sb S rs sy rv rs wr) :
    Calls Tryz.prog 9 #[ptr lb] wr fun e w' => (e = .returned (.int .i64 0) ∧ Live B w bx lb sb S rs rs.length rv rs w') ∨ (e = .returned (.int .i64 30) ∧ Live B w bx lb sb S rs sy rv rs w') := by
  obtain ⟨g, t, N, s, f, h1, h2, h3, h4, h5, h6, h7, h9, h10⟩ := h
  have hsm := h2.small
  have hl0 := h5.1
  have hl1 := h5.2.2
  obtain ⟨r, t', ht, hor⟩ := sync_ever h2 h5 h7
  refine (lsync wr h1 h2.len (by show N < 100; omega) (by omega) (r := r) (t' := t') (by unfold syncA; rw [if_neg (by simp)]; exact ht)).mono ?_
  rintro e w' ⟨rfl, g', hs⟩
  have hrow := h10.move hs.kept (fun b hb => hb) (bf_fresh hs.fresh)
  have hlow := h9.trans (BStep.low h1 hs)
  rcases hor with ⟨rfl, rfl, _⟩ | ⟨rfl, k1, k2, k3, f', k4⟩
  · exact .inr ⟨rfl, g', t', N, s, f, hs.bo, h2, h3, h4, h5, h6, h7, hlow, hrow⟩
  · exact .inl ⟨rfl, g', t', N, _, f', hs.bo, k1, by rw [List.take_length]; exact Nat.le_refl _, Nat.le_refl _, k2, by omega, k4, hlow, hrow⟩
theorem rc_append {B : Nat} {w : World} {bx : Nat × Array Value} {lb sb : Nat} {S : List UInt8} {rs : List (List UInt8)} {sy : Nat} {rv : Value} {wr : World} (h : Live B w bx lb sb S rs sy rv rs wr) (v : Value) (r : List UInt8) (hv : Frm.IsB wr v (ints r)) (hr : r.length ≤ 30000) (hl : rs.length ≤ 100) (hX : (encs rs).length + (enc r).length ≤ 1048576) :
    Calls Tryz.prog 8 #[ptr lb, v] wr fun e w' => (e = .returned (.int .i64 0) ∧ Live B w bx lb sb S (rs ++ [r]) sy rv rs w') ∨ (e = .returned (.int .i64 30) ∧ Live B w bx lb sb S rs sy rv rs w') := by
  obtain ⟨g, t, N, s, f, h1, h2, h3, h4, h5, h6, h7, h9, h10⟩ := h
  have hsm := h2.small
  have hl0 := h5.1
  have hl1 := h5.2.2
  obtain ⟨e0, t', ht, hor⟩ := append_ever h2 h5 h7 r hX
  refine (lappend wr h1 h2.len (by show N < 100; omega) v r hv (by omega) (by show rs.length ≤ 1000000; omega) (by omega) (r := e0) (t' := t') (by unfold appendA; rw [if_neg (by simp)]; exact ht)).mono ?_
  rintro e w' ⟨rfl, g', hs⟩
  have hrow := h10.move hs.kept (fun b hb => hb) (bf_fresh hs.fresh)
  have hlow := h9.trans (BStep.low h1 hs)
  rcases hor with ⟨rfl, rfl, _⟩ | ⟨rfl, k1, k2, k3, f', k4⟩
  · rw [appX_no _ (by omega)] at hs hrow
    exact .inr ⟨rfl, g', t', N, s, f, hs.bo, h2, h3, h4, h5, h6, h7, hlow, hrow⟩
  · rw [appX_yes] at hs hrow
    refine .inl ⟨rfl, g', t', N, s, f', by rw [List.length_append]; exact hs.bo, by rw [encs_app, encs_one]; exact k1, ?_, by rw [List.length_append]; omega, k2, by omega, k4, hlow, hrow.move (Kept.refl _ _) (fun b hb => hb) (fun b hb => .inl hb)⟩
    rw [List.take_append_of_le_length h4]; exact h3
theorem rc_check {B : Nat} {w : World} {bx : Nat × Array Value} {lb sb : Nat} {S : List UInt8} {rs : List (List UInt8)} {sy : Nat} {rv : Value} {wr : World} (h : Live B w bx lb sb S rs sy rv rs wr) (v : Value) (r : List UInt8) (hv : Frm.IsB wr v (ints r)) (hr : r.length ≤ 30000) :
    Calls Tryz.prog 10 #[ptr lb, v] wr fun e w' => (e = .returned (.int .i64 0) ∧ Live B w bx lb sb r [] 0 (.slice none 0 0) [] w') ∨ (∃ q, e = .returned (.int .i64 q) ∧ q ≠ 0 ∧ Gone B w bx sb true S r rs sy rv true w') := by
  obtain ⟨g, t, N, s, f, h1, h2, h3, h4, h5, h6, h7, h9, h10⟩ := h
  have hsm := h2.small
  have hl0 := h5.1
  have hl1 := h5.2.2
  obtain ⟨e0, t', x', ht, hor⟩ := check_ever h2 (by omega) h5 h7 (by omega) r (by omega) sb rs.length
  refine (lcheck wr h1 h2.good h2.len (by show N + 1 < 100; omega) v r hv (by omega) (by omega) ht).mono ?_
  rintro e w' ⟨rfl, g', hs⟩
  have hrow := h10.move hs.kept (fun b hb => hb) (bf_fresh hs.fresh)
  have hlow := h9.trans (BStep.low h1 hs)
  rcases hor with ⟨rfl, rfl, k1, k2, k3, f', k4⟩ | ⟨k0, k1, k2, k3, k4⟩
  · exact .inl ⟨rfl, g', t', N + 1, 0, f', hs.bo, k1, by simp [encs], by simp, k2, by omega, k4, hlow, Row.empty (hrow.move (Kept.refl _ _) (fun b hb => hb) (fun b hb => .inl (by exact hb))).1⟩
  · have := k3.1
    have := k3.2.2
    have his := hs.bo.is
    rw [k2] at his
    refine .inr ⟨e0, rfl, k0, g', t', his, ?_, h4, fun _ => k1, by omega, hlow, hrow.move (Kept.refl _ _) (fun b hb => hb) (fun b hb => .inl (.inl (by rw [k2]; exact hb)))⟩
    rcases k4 with k4 | k4
    · exact .inl ⟨N, s, k4, h3⟩
    · exact .inr ⟨rfl, N + 1, k4⟩
theorem rc_dead {B : Nat} {w : World} {bx : Nat × Array Value} {lb sb : Nat} {S : List UInt8} {rs ms : List (List UInt8)} {sy : Nat} {rv : Value} {wr : World} (h : Live B w bx lb sb S rs sy rv ms wr) :
    Calls Tryz.prog 17 #[ptr sb] wr fun e w' => ∃ d : Bool, e = .returned (.bool d) ∧ Live B w bx lb sb S rs sy rv ms w' := by
  obtain ⟨g, t, N, s, f, h1, h2, h3, h4, h5, h6, h7, h9, h10⟩ := h
  refine (dead_t wr h1.is).mono ?_
  rintro e w' ⟨rfl, rfl⟩
  exact ⟨_, rfl, g, t, N, s, f, h1, h2, h3, h4, h5, h6, h7, h9, h10⟩
theorem rc_gone {B : Nat} {w : World} {bx : Nat × Array Value} {sb : Nat} {on : Bool} {S nx : List UInt8} {rs : List (List UInt8)} {sy : Nat} {rv : Value} {wr : World} (h : Gone B w bx sb on S nx rs sy rv true wr) :
    Calls Tryz.prog 17 #[ptr sb] wr fun e w' => e = .returned (.bool true) ∧ Gone B w bx sb on S nx rs sy rv true w' := by
  obtain ⟨g, t, h1, h2, h3, h4, h5, h6, h7⟩ := h
  refine (dead_t wr h1).mono ?_
  rintro e w' ⟨rfl, rfl⟩
  exact ⟨by rw [h4 rfl]; rfl, g, t, h1, h2, h3, h4, h5, h6, h7⟩
/-- the story's cells are turned. -/
theorem Live.rebox {B : Nat} {w : World} {xb : Nat} {cs cs' : Array Value} {lb sb : Nat} {S : List UInt8} {rs ms : List (List UInt8)} {sy : Nat} {rv : Value} {wr w' : World} (h : Live B w (xb, cs) lb sb S rs sy rv ms wr) (h1 : w'.os = wr.os) (h2 : w'.tape = wr.tape) (h3 : w'.output = wr.output) (h4 : w'.heap.size = wr.heap.size) (h5 : ∀ k, k ≠ xb → w'.heap[k]? = wr.heap[k]?) (h6 : w'.heap[xb]? = some (.cells cs' 47)) : Live B w (xb, cs') lb sb S rs sy rv ms w' := by
  obtain ⟨g, t, N, s, f, k1, k2, k3, k4, k5, k6, k7, k8, ⟨b1, b2, b3⟩, vs, r1, r2, r3⟩ := h
  refine ⟨g, t, N, s, f, k1.keep (fun k hk => h5 k fun e => b3 (e ▸ hk)) (by omega), k2, k3, k4, k5, k6, k7, k8.trans ⟨h1, h2, h3, by omega, fun k hk => h5 k fun e => by subst e; exact absurd hk (by simp only at b1; omega)⟩, ⟨b1, h6, b3⟩, vs, ownsRow_block r1 fun k hk => h5 k fun e => row_ne r1 b2 (by simp only; rw [hk, e]), r2, r3⟩
theorem Gone.rebox {B : Nat} {w : World} {xb : Nat} {cs cs' : Array Value} {sb : Nat} {on : Bool} {S nx : List UInt8} {rs : List (List UInt8)} {sy : Nat} {rv : Value} {d : Bool} {wr w' : World} (h : Gone B w (xb, cs) sb on S nx rs sy rv d wr) (h1 : w'.os = wr.os) (h2 : w'.tape = wr.tape) (h3 : w'.output = wr.output) (h4 : w'.heap.size = wr.heap.size) (h5 : ∀ k, k ≠ xb → w'.heap[k]? = wr.heap[k]?) (h6 : w'.heap[xb]? = some (.cells cs' 47)) : Gone B w (xb, cs') sb on S nx rs sy rv d w' := by
  obtain ⟨g, t, k1, k2, k3, k4, k5, k6, ⟨b1, b2, b3⟩, vs, r1, r2, r3⟩ := h
  refine ⟨g, t, ⟨k1.1.keep fun k hk => h5 k fun e => b3 (e ▸ hk), k1.2.1, by rw [h4]; exact k1.2.2⟩, k2, k3, k4, k5, k6.trans ⟨h1, h2, h3, by omega, fun k hk => h5 k fun e => by subst e; exact absurd hk (by simp only at b1; omega)⟩, ⟨b1, h6, b3⟩, vs, ownsRow_block r1 fun k hk => h5 k fun e => row_ne r1 b2 (by simp only; rw [hk, e]), r2, r3⟩
/-- the appended record goes to the row. -/
theorem rc_push {B : Nat} {w : World} {bx : Nat × Array Value} {lb sb : Nat} {S : List UInt8} {rs : List (List UInt8)} {sy : Nat} {rv : Value} {wr : World} {r : List UInt8} (h : Live B w bx lb sb S (rs ++ [r]) sy rv rs wr) (hn : rs.length ≤ 1000) {a : Option Addr} {n c : Nat} (hv : Frm.IsB w (.slice a n c) (ints r)) :
    ∃ a' c' w', (∀ ty, (Builtin.append_ #[25, 25] ty #[rv, .slice (some ⟨wr.heap.size, 0, none⟩) 1 1]).run Tryz.prog (wr.alloc (.cells #[.slice a n c] 22)) = .ok (.slice a' (rs.length + 1) c') w') ∧ Live B w bx lb sb S (rs ++ [r]) sy (.slice a' (rs.length + 1) c') (rs ++ [r]) w' := by
  obtain ⟨g, t, N, s, f, k1, k2, k3, k4, k5, k6, k7, k8, k9⟩ := h
  obtain ⟨a', c', w', hrun, hrow, hgr, hk⟩ := k9.push (fun b hb => k1.lt hb) k1.is.2.2 hn hv
  exact ⟨a', c', w', hrun, g, t, N, s, f, k1.keep (fun k hk' => hgr.block k (k1.lt hk') fun e => (hk k e.symm).2 hk') hgr.size, k2, k3, k4, k5, k6, k7, k8.trans ⟨hgr.os, hgr.tape, hgr.output, hgr.size, fun k hk' => hgr.block k (by have := k1.is.2.2; omega) fun e => by have := (hk k e.symm).1; omega⟩, hrow⟩
theorem Live.box {B : Nat} {w : World} {bx : Nat × Array Value} {lb sb : Nat} {S : List UInt8} {rs ms : List (List UInt8)} {sy : Nat} {rv : Value} {wr : World} (h : Live B w bx lb sb S rs sy rv ms wr) : wr.heap[bx.1]? = some (.cells bx.2 47) := by
  obtain ⟨g, t, N, s, f, k1, k2, k3, k4, k5, k6, k7, k8, k9⟩ := h; exact k9.1.2.1
theorem Gone.box {B : Nat} {w : World} {bx : Nat × Array Value} {sb : Nat} {on : Bool} {S nx : List UInt8} {rs : List (List UInt8)} {sy : Nat} {rv : Value} {d : Bool} {wr : World} (h : Gone B w bx sb on S nx rs sy rv d wr) : wr.heap[bx.1]? = some (.cells bx.2 47) := by
  obtain ⟨g, t, k1, k2, k3, k4, k5, k6, k9⟩ := h; exact k9.1.2.1
end Go.Proofs.YtihgikekkgoddaaGreatDoor
