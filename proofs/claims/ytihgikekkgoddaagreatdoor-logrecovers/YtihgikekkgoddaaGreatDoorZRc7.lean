/- LogRecovers: the second crash, the second opening. -/
import Derived.Test.YtihgikekkgoddaaGreatDoorZRc6
namespace Go.Proofs.YtihgikekkgoddaaGreatDoor
open Go.RowKit Go.Shelf Sto

def Back2 (B : Nat) (w : World) (bx : Nat × Array Value) (sb : Nat) (S' : List UInt8) (R : List (List UInt8)) (rv : Value) (rs : List (List UInt8)) (b : Bool) (tv uv : Value) (wr : World) : Prop :=
  ∃ g t N X s, Is B wr sb g t ∧ RS px t N S' X s 62 ∧ Read8 X R ∧ LV t ∧ t.acts ≤ 1100 ∧ Below B w wr ∧ Row B w bx (foot sb g) wr rv rs ∧ (b = true → ∃ lo, SnapAt lo sb g wr tv S' ∧ RecsAt lo sb g wr uv R)
theorem rc_crash2 {B : Nat} {w : World} {bx : Nat × Array Value} {sb : Nat} {S' : List UInt8} {R : List (List UInt8)} {rv : Value} {rs : List (List UInt8)} {tv uv : Value} {wr : World} (h : Said B w bx sb S' R rv rs tv uv wr) (hw : w.heap.size ≤ B) (v : Value) (ks : List Int) (hI : IsI w v ks) :
    Calls Tryz.prog 18 #[ptr sb, v] wr fun e w' => e = .returned (.tuple #[]) ∧ Back2 B w bx sb S' R rv rs true tv uv w' := by
  obtain ⟨g, t, N, lo, h1, h2, h3, h4, h5, h6, h7, h8⟩ := h
  refine (crash_t wr h1 v ks (hI.below (h5.mono hw)) (far_of h1 hw hI)).mono ?_
  rintro e w' ⟨rfl, g', hs, hi⟩
  obtain ⟨X, s, k1, k2⟩ := again_done h2 h3 ks
  exact ⟨rfl, g', _, N, X, s, hi, k1, k2, rfl, h4, h5.trans (Step.low h1 hs), h6.move hs.kept (fun b hb => hb) hs.fresh, fun _ => ⟨lo, h7.move hs.kept (fun b hb => .inl hb) hs.fresh, h8.move hs.kept (fun b hb => .inl hb) hs.fresh⟩⟩
theorem rc_crash3 {B : Nat} {w : World} {bx : Nat × Array Value} {sb : Nat} {S' : List UInt8} {R : List (List UInt8)} {rv : Value} {rs : List (List UInt8)} {wr : World} (h : Lost B w bx sb S' R rv rs wr) (hw : w.heap.size ≤ B) (v : Value) (ks : List Int) (hI : IsI w v ks) (tv uv : Value) :
    Calls Tryz.prog 18 #[ptr sb, v] wr fun e w' => e = .returned (.tuple #[]) ∧ Back2 B w bx sb S' R rv rs false tv uv w' := by
  obtain ⟨g, t, N, h1, h2, h3, h4, h5, h6⟩ := h
  refine (crash_t wr h1 v ks (hI.below (h5.mono hw)) (far_of h1 hw hI)).mono ?_
  rintro e w' ⟨rfl, g', hs, hi⟩
  obtain ⟨X, s, k1, k2⟩ := h3 ks
  exact ⟨rfl, g', _, N, X, s, hi, k1, k2, rfl, h4, h5.trans (Step.low h1 hs), h6.move hs.kept (fun b hb => hb) hs.fresh, (fun e => by cases e)⟩
theorem rc_lost {B : Nat} {w : World} {bx : Nat × Array Value} {sb : Nat} {S' : List UInt8} {R : List (List UInt8)} {rv : Value} {rs : List (List UInt8)} {wr : World} (h : Lost B w bx sb S' R rv rs wr) :
    Calls Tryz.prog 17 #[ptr sb] wr fun e w' => e = .returned (.bool true) ∧ Lost B w bx sb S' R rv rs w' := by
  obtain ⟨g, t, N, h1, h2, h3, h4, h5, h6⟩ := h
  refine (dead_t wr h1).mono ?_
  rintro e w' ⟨rfl, rfl⟩
  exact ⟨by rw [h2]; rfl, g, t, N, h1, h2, h3, h4, h5, h6⟩
/-- all that was told, for the law's own look at it. -/
structure All2 (B : Nat) (w : World) (bx : Nat × Array Value) (S' : List UInt8) (R : List (List UInt8)) (rv : Value) (rs : List (List UInt8)) (b : Bool) (tv uv dv gv : Value) (wr : World) : Prop where
  low : Below B w wr
  box : wr.heap[bx.1]? = some (.cells bx.2 47)
  row : IsR wr rv rs
  snap : Frm.IsB wr dv (ints S')
  recs : IsR wr gv R
  first : b = true → Frm.IsB wr tv (ints S') ∧ IsR wr uv R
theorem rc_open2 {B : Nat} {w : World} {bx : Nat × Array Value} {sb : Nat} {S' : List UInt8} {R : List (List UInt8)} {rv : Value} {rs : List (List UInt8)} {b : Bool} {tv uv : Value} {wr : World} (h : Back2 B w bx sb S' R rv rs b tv uv wr) (hw : w.heap.size ≤ B) :
    Calls Tryz.prog 7 #[ptr sb, str px] wr fun e w' => ∃ lb dv gv, e = .returned (.tuple #[ptr lb, dv, gv, .int .i64 0]) ∧ All2 B w bx S' R rv rs b tv uv dv gv w' := by
  obtain ⟨g, t, N, X, s, h1, h2, h3, h4, h5, h6, h7, h8⟩ := h
  refine (open_live wr h1 h2 h4 (by omega) (by omega)).mono ?_
  rintro e w' ⟨lb, sv, gv, t', g', recs, rfl, ho⟩
  obtain rfl := read8_one ho.reads h3
  have hlow := h6.trans (ho.kept.below h1.2.2 (fun k hk => h1.1.base k hk))
  refine ⟨lb, sv, gv, rfl, hlow, (h7.move ho.kept (fun b hb => hb) ho.fresh).1.2.1, (h7.move ho.kept (fun b hb => hb) ho.fresh).isR hw hlow, ho.snap.own.isB, recs_isR ho.recs.recs, fun hb => ?_⟩
  obtain ⟨lo, k1, k2⟩ := h8 hb
  exact ⟨(k1.move ho.kept (fun b hb => .inl hb) ho.fresh).own.isB, recs_isR (k2.move ho.kept (fun b hb => .inl hb) ho.fresh).recs⟩
theorem Said.box {B : Nat} {w : World} {bx : Nat × Array Value} {sb : Nat} {S' : List UInt8} {R : List (List UInt8)} {rv : Value} {rs : List (List UInt8)} {tv uv : Value} {wr : World} (h : Said B w bx sb S' R rv rs tv uv wr) (hw : w.heap.size ≤ B) : wr.heap[bx.1]? = some (.cells bx.2 47) ∧ IsR wr rv rs ∧ Frm.IsB wr tv (ints S') ∧ IsR wr uv R := by
  obtain ⟨g, t, N, lo, h1, h2, h3, h4, h5, h6, h7, h8⟩ := h
  exact ⟨h6.1.2.1, h6.isR hw h5, h7.own.isB, recs_isR h8.recs⟩
theorem Said.below {B : Nat} {w : World} {bx : Nat × Array Value} {sb : Nat} {S' : List UInt8} {R : List (List UInt8)} {rv : Value} {rs : List (List UInt8)} {tv uv : Value} {wr w' : World} (h : Said B w bx sb S' R rv rs tv uv wr) (hb : Below wr.heap.size wr w') : Said B w bx sb S' R rv rs tv uv w' := by
  obtain ⟨g, t, N, lo, h1, h2, h3, h4, h5, h6, h7, h8⟩ := h
  have hk : Kept (fun _ => False) wr w' := kept_of_below hb
  exact ⟨g, t, N, lo, h1.below hb, h2, h3, h4, h5.trans (hb.mono h1.2.2), h6.move hk (fun _ h => h.elim) (fun b hb => .inl hb), h7.move hk (fun _ h => h.elim) (fun b hb => .inl hb), h8.move hk (fun _ h => h.elim) (fun b hb => .inl hb)⟩
end Go.Proofs.YtihgikekkgoddaaGreatDoor
