/- LogRecovers: how it begins; what is behind a crash; opening twice. -/
import Derived.Test.YtihgikekkgoddaaGreatDoorZRc5
import Derived.Test.YtihgikekkgoddaaGreatDoorZRc4
namespace Go.Proofs.YtihgikekkgoddaaGreatDoor
open Go.RowKit Go.Shelf Sto

theorem RS.at_left {p : List UInt8} {t : St} {N : Nat} {S X : List UInt8} {s K : Nat} (h : RS p t N S X s K) (x : Int) : RS p { t with left := x } N S X s K := ⟨h.len, h.good, h.top, h.small, h.snap, h.log, h.few⟩
/-- the log is opened over a new store. -/
def Begun (B : Nat) (w : World) (lb sb : Nat) (wr : World) : Prop :=
  ∃ g t f, Bo B wr lb g t ⟨sb, px, 0, 0, false⟩ ∧ RS px t 0 [] [] 0 1 ∧ lookE (nameOf px (pLog 0)) t.l = some f ∧ t.acts ≤ 10 ∧ Below B w wr
theorem rc_begin {w w1 : World} {sb : Nat} {g : Gs} (h : Is w.heap.size w1 sb g ⟨[], 0, -1⟩) (hb : Below w.heap.size w w1) :
    Calls Tryz.prog 7 #[ptr sb, str px] w1 fun e w' => ∃ lb a c a' c', e = .returned (.tuple #[ptr lb, .slice a 0 c, .slice a' 0 c', .int .i64 0]) ∧ Begun w.heap.size w lb sb w' := by
  refine (open_live w1 h (rs_empty (p := px) (by simp)) rfl (by omega) (by simp)).mono ?_
  rintro e w' ⟨lb, sv, rv, t', g', recs, rfl, ho⟩
  obtain rfl := read8_nil ho.reads
  obtain ⟨a, c, rfl⟩ := ho.snap.own.slice
  obtain ⟨a', c', rfl⟩ := ho.recs.recs.slice
  obtain ⟨f, hf⟩ := ho.has
  have hac := ho.acts
  exact ⟨lb, a, c, a', c', rfl, g', t', f, ho.bo, ho.rs, hf, by simp at hac; omega, hb.trans (ho.kept.below h.2.2 (fun k hk => h.1.base k hk))⟩
/-- and the power is set. -/
def Set0 (B : Nat) (w : World) (lb sb : Nat) (wr : World) : Prop :=
  ∃ g t f, Bo B wr lb g t ⟨sb, px, 0, 0, false⟩ ∧ RS px t 0 [] [] 0 61 ∧ lookE (nameOf px (pLog 0)) t.l = some f ∧ Bd 61 t ∧ t.left ≤ 60 ∧ Below B w wr
theorem rc_power {B : Nat} {w : World} {lb sb : Nat} {wr : World} (h : Begun B w lb sb wr) (q : Nat) (hq : q < 60) :
    Calls Tryz.prog 16 #[ptr sb, .int .i64 (q : Int)] wr fun e w' => e = .returned (.tuple #[]) ∧ Set0 B w lb sb w' := by
  obtain ⟨g, t, f, h1, h2, h3, h4, h5⟩ := h
  refine (power_t wr h1.is q (by omega)).mono ?_
  rintro e w' ⟨rfl, g', hs, hi⟩
  have hst := h1.step hs hi
  have hl := h2.few
  have h2' := (h2.at_left (q : Int)).mono (show 1 ≤ 61 by omega)
  exact ⟨rfl, g', { t with left := (q : Int) }, f, hst.bo, h2', h3, ⟨by simp, by simp only; omega, by simp only; omega⟩, by simp only; omega, h5.trans (BStep.low h1 hst)⟩
/-- and the story has its cells. -/
theorem Set0.start {B : Nat} {w : World} {lb sb : Nat} {wr : World} (h : Set0 B w lb sb wr) (cs : Array Value) : Live B w (wr.heap.size, cs) lb sb [] [] 0 (.slice none 0 0) [] (wr.alloc (.cells cs 47)) := by
  obtain ⟨g, t, f, h1, h2, h3, h4, h5, h6⟩ := h
  have hal := alloc_low wr (.cells cs 47)
  exact ⟨g, t, 0, 0, f, h1.below hal, h2, by simp [encs], by simp, h4, by omega, h3, h6.trans (hal.mono h1.is.2.2), Row.empty ⟨h1.is.2.2, (MapKept.heap_alloc wr _).1, fun hF => by have := h1.lt hF; simp only at this; omega⟩⟩
/-- behind a crash: the store tells S' and R, and all of it is safe. -/
def Back (B : Nat) (w : World) (bx : Nat × Array Value) (sb : Nat) (S' : List UInt8) (R : List (List UInt8)) (rv : Value) (rs : List (List UInt8)) (K A : Nat) (alive : Bool) (wr : World) : Prop :=
  ∃ g t N X s, Is B wr sb g t ∧ RS px t N S' X s K ∧ X.length ≤ s ∧ Read8 X R ∧ (∀ r ∈ R, r.length ≤ 65536) ∧ (alive = true → LV t) ∧ t.acts ≤ A ∧ Below B w wr ∧ Row B w bx (foot sb g) wr rv rs
theorem Back.low {B : Nat} {w : World} {bx : Nat × Array Value} {sb : Nat} {S' : List UInt8} {R : List (List UInt8)} {rv : Value} {rs : List (List UInt8)} {K A : Nat} {al : Bool} {wr : World} (h : Back B w bx sb S' R rv rs K A al wr) : Below B w wr := by
  obtain ⟨g, t, N, X, s, h1, h2, h3, h4, h5, h6, h7, h8, h9⟩ := h; exact h8
theorem Back.row {B : Nat} {w : World} {bx : Nat × Array Value} {sb : Nat} {S' : List UInt8} {R : List (List UInt8)} {rv : Value} {rs : List (List UInt8)} {K A : Nat} {al : Bool} {wr : World} (h : Back B w bx sb S' R rv rs K A al wr) (hw : w.heap.size ≤ B) : IsR wr rv rs := by
  obtain ⟨g, t, N, X, s, h1, h2, h3, h4, h5, h6, h7, h8, h9⟩ := h; exact h9.isR hw h8
theorem far_of {B sb : Nat} {w wr : World} {g : Gs} {t : St} (h : Is B wr sb g t) (hw : w.heap.size ≤ B) {v : Value} {ks : List Int} (hI : IsI w v ks) : ks ≠ [] → ∀ b, v.ownBlock = some b → ¬ foot sb g b := by
  intro hne b hb hf
  obtain ⟨h1, h2, a, c, rfl, h3, h4, h5⟩ := hI
  rcases h5 with h5 | ⟨b', off, rfl, h5⟩
  · exact hne h5
  · have hlt : 0 < ks.length := List.length_pos_iff.2 hne
    have h6 := h5 0 hlt
    have h7 : b' < w.heap.size := by
      have := World.block_lt_of_cell? w ⟨b', off + 0, none⟩ h6
      exact this
    have h8 := h.1.base b hf
    simp [Value.ownBlock] at hb
    omega
theorem rc_crash {B : Nat} {w : World} {bx : Nat × Array Value} {sb : Nat} {on : Bool} {S nx : List UInt8} {rs : List (List UInt8)} {sy : Nat} {rv : Value} {d : Bool} {wr : World} (h : Gone B w bx sb on S nx rs sy rv d wr) (hw : w.heap.size ≤ B) (hr : ∀ r ∈ rs, r.length ≤ 65536) (v : Value) (ks : List Int) (hI : IsI w v ks) :
    Calls Tryz.prog 18 #[ptr sb, v] wr fun e w' => e = .returned (.tuple #[]) ∧ ∃ S' R, FitS on S nx rs sy S' R ∧ Back B w bx sb S' R rv rs 61 1000 true w' := by
  obtain ⟨g, t, h1, h2, h3, h4, h5, h6, h7⟩ := h
  refine (crash_t wr h1 v ks (hI.below (h6.mono hw)) (far_of h1 hw hI)).mono ?_
  rintro e w' ⟨rfl, g', hs, hi⟩
  obtain ⟨N, S', X, s, R, k1, k2, k3, k4, k5⟩ := h2.crash ks h3 hr
  exact ⟨rfl, S', R, k4, g', _, N, X, s, hi, k1, k2, k3, k5, fun _ => rfl, h5, h6.trans (Step.low h1 hs), h7.move hs.kept (fun b hb => hb) hs.fresh⟩
theorem rc_power2 {B : Nat} {w : World} {bx : Nat × Array Value} {sb : Nat} {S' : List UInt8} {R : List (List UInt8)} {rv : Value} {rs : List (List UInt8)} {K A : Nat} {al : Bool} {wr : World} (h : Back B w bx sb S' R rv rs K A al wr) (q : Nat) (hq : q < 6) :
    Calls Tryz.prog 16 #[ptr sb, .int .i64 (q : Int)] wr fun e w' => e = .returned (.tuple #[]) ∧ Back B w bx sb S' R rv rs K A false w' := by
  obtain ⟨g, t, N, X, s, h1, h2, h3, h4, h5, h6, h7, h8, h9⟩ := h
  refine (power_t wr h1 q (by omega)).mono ?_
  rintro e w' ⟨rfl, g', hs, hi⟩
  exact ⟨rfl, g', _, N, X, s, hi, h2.at_left _, h3, h4, h5, (fun e => by cases e), h7, h8.trans (Step.low h1 hs), h9.move hs.kept (fun b hb => hb) hs.fresh⟩
/-- what the first opening tells, beside the store. -/
def Said (B : Nat) (w : World) (bx : Nat × Array Value) (sb : Nat) (S' : List UInt8) (R : List (List UInt8)) (rv : Value) (rs : List (List UInt8)) (tv uv : Value) (wr : World) : Prop :=
  ∃ g t N lo, Is B wr sb g t ∧ RS px t N S' (encs R) (encs R).length 62 ∧ (∀ r ∈ R, r.length ≤ 65536) ∧ t.acts ≤ 1100 ∧ Below B w wr ∧ Row B w bx (foot sb g) wr rv rs ∧ SnapAt lo sb g wr tv S' ∧ RecsAt lo sb g wr uv R
/-- or it failed: the power is gone, and what is told is safe. -/
def Lost (B : Nat) (w : World) (bx : Nat × Array Value) (sb : Nat) (S' : List UInt8) (R : List (List UInt8)) (rv : Value) (rs : List (List UInt8)) (wr : World) : Prop :=
  ∃ g t N, Is B wr sb g t ∧ t.left = 0 ∧ (∀ ks, ∃ X s, RS px (t.crash ks) N S' X s 62 ∧ Read8 X R) ∧ t.acts ≤ 1100 ∧ Below B w wr ∧ Row B w bx (foot sb g) wr rv rs
theorem Said.low {B : Nat} {w : World} {bx : Nat × Array Value} {sb : Nat} {S' : List UInt8} {R : List (List UInt8)} {rv : Value} {rs : List (List UInt8)} {tv uv : Value} {wr : World} (h : Said B w bx sb S' R rv rs tv uv wr) : Below B w wr := by
  obtain ⟨g, t, N, lo, h1, h2, h3, h4, h5, h6, h7, h8⟩ := h; exact h5
theorem no_acts {p : List UInt8} {t t' : St} {N : Nat} {S X : List UInt8} {s K : Nat} {r : Int} (h : RS p t N S X s K) (hK : K < 64) (ho : OpenNo p t r t') : t'.acts ≤ t.acts + 100 := by
  have hsm := h.small
  have step1 : ∀ {t1}, OpenAt p t 1 t1 0 [] [] → RS p t1 N S X s K ∧ t1.acts ≤ t.acts + 1 := fun h1 => by
    cases h1 with
    | s1 e1 => exact ⟨(h.dropNew e1).1, (dropNew_good h.good e1).2⟩
  have step2 : ∀ {t1 n s'}, OpenAt p t 2 t1 n s' [] → RS p t1 N S X s K ∧ t1.acts ≤ t.acts + 1 ∧ n = N := fun h2 => by
    cases h2 with
    | s2 h1 e2 =>
      obtain ⟨a, b⟩ := step1 h1
      exact ⟨a, b, ((a.newest e2).1 rfl).1⟩
  have step3 : ∀ {t3 n s'}, OpenAt p t 3 t3 n s' [] → RS p t3 N S X s (K + 1) ∧ t3.acts ≤ t.acts + 2 ∧ n = N ∧ ∃ f, lookE (nameOf p (pLog N)) t3.l = some f ∧ f.b = X ∧ f.s = s := fun h3 => by
    cases h3 with
    | s3 h2 e3 =>
      obtain ⟨a, b, rfl⟩ := step2 h2
      obtain ⟨c1, _, c2⟩ := a.makeFile hK e3
      have := (makeFile_good (by omega) a.good e3).2
      exact ⟨c1, by omega, rfl, c2 rfl⟩
  cases ho with
  | f1 e1 hr => have := (dropNew_good h.good e1).2; omega
  | f2 h1 e2 hr => have := (step1 h1).2; omega
  | f3 h2 e3 hr =>
    obtain ⟨a, b, rfl⟩ := step2 h2
    have := (makeFile_good (by omega) a.good e3).2
    omega
  | f4 h3 hR e4 hr =>
    obtain ⟨a, b, rfl, _⟩ := step3 h3
    have := (load_good a.good e4).2
    omega
  | f5 h4 e5 hr =>
    cases h4 with
    | s4 h3 hR e4 =>
      obtain ⟨a, b, rfl, f, hf, hX, hs⟩ := step3 h3
      have q4 := (load_good a.good e4).2
      obtain ⟨_, _, X', s'', g2, _⟩ := a.load hf hX hs hR e4
      have q5 := acts_drop _ _ _ _ e5
      have q7 := g2.few
      have q6 : ∀ t4 : St, (ownT p t4).length ≤ t4.l.length := fun t4 => by
        have := own_len p (namesOf t4); rw [names_len] at this; exact this
      refine Nat.le_trans q5 (Nat.le_trans (Nat.add_le_add_left (q6 _) _) (by omega))
theorem rc_open1 {B : Nat} {w : World} {bx : Nat × Array Value} {sb : Nat} {S' : List UInt8} {R : List (List UInt8)} {rv : Value} {rs : List (List UInt8)} {wr : World} (h : Back B w bx sb S' R rv rs 61 1000 false wr) :
    Calls Tryz.prog 7 #[ptr sb, str px] wr fun e w' => (∃ lb tv uv, e = .returned (.tuple #[ptr lb, tv, uv, .int .i64 0]) ∧ Said B w bx sb S' R rv rs tv uv w') ∨
      (∃ q, q ≠ 0 ∧ e = .returned (.tuple #[.pointer none, .slice none 0 0, .slice none 0 0, .int .i64 q]) ∧ Lost B w bx sb S' R rv rs w') := by
  obtain ⟨g, t, N, X, s, h1, h2, h3, h4, h5, h6, h7, h8, h9⟩ := h
  have hd := nd_is h1
  refine (open_any wr h1 px h2.len h2.good (by omega)).mono ?_
  rintro e w' (⟨r, t', g', rfl, h0, hor, hi, hk, hf⟩ | ⟨lb, sv, uv, t', g', n, s', recs, rfl, _, ho, hbo, hlb, hn, hs, hrc, hk, hf⟩)
  · right
    have hlow := h8.trans (hk.below h1.2.2 (fun k hk => h1.1.base k hk))
    have hrow := h9.move hk (fun b hb => hb) hf
    rcases hor with ⟨k1, k2, rfl⟩ | ⟨k1, k2⟩
    · refine ⟨r, h0, rfl, g', t', N, hi, k1, fun ks => ?_, by omega, hlow, hrow⟩
      obtain ⟨j, s2, k3, k4, k5⟩ := h2.crash ks
      rw [List.take_of_length_le (by omega)] at k3
      exact ⟨X, s2, k3.mono (by omega), h4⟩
    · refine ⟨r, h0, rfl, g', t', N, hi, (open_fails h2 hd (by omega) k2).2.1, fun ks => again_fails h2 hd (by omega) h3 h4 h5 k2 ks, ?_, hlow, hrow⟩
      have := no_acts h2 (by omega) k2
      omega
  · left
    obtain ⟨rfl, rfl, k1, k2, k3, k4⟩ := open_tells h2 hd (by omega) ho
    obtain rfl := read8_one k1 h4
    exact ⟨lb, sv, uv, rfl, g', t', _, lb + 2, hbo.is, k2, h5, by omega, h8.trans (hk.below h1.2.2 (fun k hk => h1.1.base k hk)), h9.move hk (fun b hb => hb) hf, hs, hrc⟩
end Go.Proofs.YtihgikekkgoddaaGreatDoor
