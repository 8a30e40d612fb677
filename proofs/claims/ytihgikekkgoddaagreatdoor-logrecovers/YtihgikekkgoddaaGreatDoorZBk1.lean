/- LogBack: two logs in one store. -/
import Derived.Test.YtihgikekkgoddaaGreatDoorZAp
import Derived.Test.YtihgikekkgoddaaGreatDoorZLZ
namespace Go.Proofs.YtihgikekkgoddaaGreatDoor
open Go.RowKit Go.Shelf Sto

theorem pq (m : List UInt8) (h : ([113] : List UInt8) <+: m) : ¬ ([112] : List UInt8) <+: m := by
  obtain ⟨r, rfl⟩ := h
  rintro ⟨r', e⟩
  simp at e
theorem qp (m : List UInt8) (h : ([112] : List UInt8) <+: m) : ¬ ([113] : List UInt8) <+: m := by
  obtain ⟨r, rfl⟩ := h
  rintro ⟨r', e⟩
  simp at e
/-- the store: under p such a snapshot and such records, under q one record. -/
def BkT (B : Nat) (w : World) (sb N : Nat) (S : List UInt8) (rs : List (List UInt8)) (K A : Nat) (wr : World) : Prop :=
  ∃ g t s s', Is B wr sb g t ∧ RS [112] t N S (encs rs) s K ∧ RS [113] t 0 [] (encs [[1]]) s' K ∧ LV t ∧ t.acts ≤ A ∧ Below B w wr
/-- and a log over it. -/
def BkS (B : Nat) (w : World) (lb sb N : Nat) (S : List UInt8) (rs : List (List UInt8)) (K A : Nat) (wr : World) : Prop :=
  ∃ g t s s' f, Bo B wr lb g t ⟨sb, [112], N, rs.length, false⟩ ∧ RS [112] t N S (encs rs) s K ∧ RS [113] t 0 [] (encs [[1]]) s' K ∧ LV t ∧ t.acts ≤ A ∧ Below B w wr ∧ lookE (nameOf [112] (pLog N)) t.l = some f
theorem BkS.bare {B : Nat} {w : World} {lb sb N : Nat} {S : List UInt8} {rs : List (List UInt8)} {K A : Nat} {wr : World} (h : BkS B w lb sb N S rs K A wr) : BkT B w sb N S rs K A wr := by
  obtain ⟨g, t, s, s', f, h1, h2, h3, h4, h5, h6, _⟩ := h
  exact ⟨g, t, s, s', h1.is, h2, h3, h4, h5, h6⟩
theorem BkS.low {B : Nat} {w : World} {lb sb N : Nat} {S : List UInt8} {rs : List (List UInt8)} {K A : Nat} {wr : World} (h : BkS B w lb sb N S rs K A wr) : Below B w wr := by
  obtain ⟨g, t, s, s', f, h1, h2, h3, h4, h5, h6, _⟩ := h; exact h6
theorem BkT.low {B : Nat} {w : World} {sb N : Nat} {S : List UInt8} {rs : List (List UInt8)} {K A : Nat} {wr : World} (h : BkT B w sb N S rs K A wr) : Below B w wr := by
  obtain ⟨g, t, s, s', h1, h2, h3, h4, h5, h6⟩ := h; exact h6
theorem bk_append {B : Nat} {w : World} {lb sb N : Nat} {S : List UInt8} {rs : List (List UInt8)} {K A : Nat} {wr : World} (h : BkS B w lb sb N S rs K A wr) (hA : A ≤ 100000) (v : Value) (r : List UInt8) (hv : Frm.IsB wr v (ints r)) (hr : r.length ≤ 10000) (hl : rs.length ≤ 100) (hX : (encs rs).length + (enc r).length ≤ 1048576) :
    Calls Tryz.prog 8 #[ptr lb, v] wr fun e w' => e = .returned (.int .i64 0) ∧ BkS B w lb sb N S (rs ++ [r]) K (A + 1) w' := by
  obtain ⟨g, t, s, s', f, h1, h2, h3, h4, h5, h6, h7⟩ := h
  refine (append_two wr h1 h2 h4 h7 v r hv (by omega) hX (by omega) (by omega)).mono ?_
  rintro e w' ⟨rfl, g', t', f', st, r2, lv, hf, ac, sm⟩
  refine ⟨rfl, g', t', s, s', f', by rw [List.length_append]; exact st.bo, by rw [encs_app, encs_one]; exact r2, h3.other sm pq r2.few, lv, by omega, h6.trans (BStep.low h1 st), hf⟩
theorem bk_check {B : Nat} {w : World} {lb sb : Nat} {S : List UInt8} {rs : List (List UInt8)} {K A : Nat} {wr : World} (h : BkS B w lb sb 0 S rs K A wr) (hA : A ≤ 100000) (hK : K ≤ 50) (v : Value) (r : List UInt8) (hv : Frm.IsB wr v (ints r)) (hr : r.length ≤ 10000) :
    Calls Tryz.prog 10 #[ptr lb, v] wr fun e w' => e = .returned (.int .i64 0) ∧ BkS B w lb sb 1 r [] (K + 2) (A + 7) w' := by
  obtain ⟨g, t, s, s', f, h1, h2, h3, h4, h5, h6, h7⟩ := h
  refine (check_two wr h1 h2 h4 h7 (by omega) (by omega) v r hv (by omega) (by omega)).mono ?_
  rintro e w' ⟨rfl, g', t', f', st, r2, lv, hf, ac, sm⟩
  exact ⟨rfl, g', t', 0, s', f', st.bo, r2, h3.other sm pq r2.few, lv, by omega, h6.trans (BStep.low h1 st), hf⟩
theorem bk_open {B : Nat} {w : World} {sb N : Nat} {S : List UInt8} {rs : List (List UInt8)} {K A : Nat} {wr : World} (h : BkT B w sb N S rs K A wr) (hA : A ≤ 100000) (hK : K ≤ 50) (hr : ∀ p ∈ rs, p.length ≤ 10000) :
    Calls Tryz.prog 7 #[ptr sb, str [112]] wr fun e w' => ∃ lb sv rv, e = .returned (.tuple #[ptr lb, sv, rv, .int .i64 0]) ∧ BkS B w lb sb N S rs (K + 1) (A + 60) w' ∧ Frm.IsB w' sv (ints S) ∧ IsR w' rv rs ∧ LogAt w' lb ⟨sb, [112], N, rs.length, false⟩ := by
  obtain ⟨g, t, s, s', h1, h2, h3, h4, h5, h6⟩ := h
  refine (open_two wr h1 h2 h4 (by omega) (by omega)).mono ?_
  rintro e w' ⟨lb, sv, rv, t', g', recs, rfl, ho, sm⟩
  obtain rfl : recs = rs := read8_one ho.reads (read8_all fun p hp => by have := hr p hp; omega)
  obtain ⟨f, hf⟩ := ho.has
  have hac := ho.acts
  exact ⟨lb, sv, rv, rfl, ⟨g', t', _, s', f, ho.bo, ho.rs, h3.other sm pq ho.rs.few, ho.lv, by omega, h6.trans (ho.kept.below h1.2.2 (fun k hk => h1.1.base k hk)), hf⟩, ho.snap.own.isB, recs_isR ho.recs.recs, ho.bo.log⟩
theorem bk_openq {B : Nat} {w : World} {sb N : Nat} {S : List UInt8} {rs : List (List UInt8)} {K A : Nat} {wr : World} (h : BkT B w sb N S rs K A wr) (hA : A ≤ 100000) (hK : K ≤ 50) :
    Calls Tryz.prog 7 #[ptr sb, str [113]] wr fun e w' => ∃ lb sv rv, e = .returned (.tuple #[ptr lb, sv, rv, .int .i64 0]) ∧ Below B w w' ∧ IsR w' rv [[1]] ∧ ∃ a c, sv = .slice a 0 c := by
  obtain ⟨g, t, s, s', h1, h2, h3, h4, h5, h6⟩ := h
  refine (open_two wr h1 h3 h4 (by omega) (by omega)).mono ?_
  rintro e w' ⟨lb, sv, rv, t', g', recs, rfl, ho, sm⟩
  obtain rfl : recs = [[1]] := read8_one ho.reads (read8_all fun p hp => by simp at hp; subst hp; simp)
  exact ⟨lb, sv, rv, rfl, h6.trans (ho.kept.below h1.2.2 (fun k hk => h1.1.base k hk)), recs_isR ho.recs.recs, ho.snap.own.slice⟩
/-- how it begins: a new store, both logs opened, one record to the other. -/
theorem bk_begin1 {w w1 : World} {sb : Nat} {g : Gs} (h : Is w.heap.size w1 sb g ⟨[], 0, -1⟩) (hb : Below w.heap.size w w1) :
    Calls Tryz.prog 7 #[ptr sb, str [112]] w1 fun e w' => ∃ lb a c a' c', e = .returned (.tuple #[ptr lb, .slice a 0 c, .slice a' 0 c', .int .i64 0]) ∧
      ∃ g' t' f, Bo w.heap.size w' lb g' t' ⟨sb, [112], 0, 0, false⟩ ∧ RS [112] t' 0 [] [] 0 1 ∧ RS [113] t' 0 [] [] 0 1 ∧ LV t' ∧ t'.acts ≤ 10 ∧ Below w.heap.size w w' ∧ lookE (nameOf [112] (pLog 0)) t'.l = some f := by
  refine (open_two w1 h (rs_empty (p := [112]) (by simp)) rfl (by omega) (by simp)).mono ?_
  rintro e w' ⟨lb, sv, rv, t', g', recs, rfl, ho, sm⟩
  obtain rfl := read8_nil ho.reads
  obtain ⟨a, c, rfl⟩ := ho.snap.own.slice
  obtain ⟨a', c', rfl⟩ := ho.recs.recs.slice
  obtain ⟨f, hf⟩ := ho.has
  have hac := ho.acts
  exact ⟨lb, a, c, a', c', rfl, g', t', f, ho.bo, ho.rs, (rs_empty (p := [113]) (by simp)).other sm pq ho.rs.few, ho.lv, by simp at hac; omega, hb.trans (ho.kept.below h.2.2 (fun k hk => h.1.base k hk)), hf⟩
theorem bk_begin2 {w w2 : World} {sb lb : Nat} (h : ∃ g t f, Bo w.heap.size w2 lb g t ⟨sb, [112], 0, 0, false⟩ ∧ RS [112] t 0 [] [] 0 1 ∧ RS [113] t 0 [] [] 0 1 ∧ LV t ∧ t.acts ≤ 10 ∧ Below w.heap.size w w2 ∧ lookE (nameOf [112] (pLog 0)) t.l = some f) :
    Calls Tryz.prog 7 #[ptr sb, str [113]] w2 fun e w' => ∃ lo a c a' c', e = .returned (.tuple #[ptr lo, .slice a 0 c, .slice a' 0 c', .int .i64 0]) ∧
      Calls Tryz.prog 8 #[ptr lo, .slice (some ⟨w'.heap.size, 0, none⟩) 1 1] (w'.alloc (.cells #[.int .u8 1] 5)) fun e w3 => e = .returned (.int .i64 0) ∧ BkS w.heap.size w lb sb 0 [] [] 2 30 w3 := by
  obtain ⟨g, t, f, h1, h2, h3, h4, h5, h6, h7⟩ := h
  refine (open_two w2 h1.is h3 h4 (by omega) (by omega)).mono ?_
  rintro e w' ⟨lo, sv, rv, t', g', recs, rfl, ho, sm⟩
  obtain rfl := read8_nil ho.reads
  obtain ⟨a, c, rfl⟩ := ho.snap.own.slice
  obtain ⟨a', c', rfl⟩ := ho.recs.recs.slice
  obtain ⟨f', hf'⟩ := ho.has
  have hac := ho.acts
  refine ⟨lo, a, c, a', c', rfl, ?_⟩
  have hal := alloc_low w' (.cells #[.int .u8 1] 5)
  refine (append_two _ (ho.bo.below hal) ho.rs ho.lv hf' _ [1] (isB_one w' 1) (by simp) (by have := enc_short (bs := [1]) (by simp); simp [encs]; omega) (by simp) (by omega)).mono ?_
  rintro e w3 ⟨rfl, g3, t3, f3, st, r3, lv3, hf3, ac3, sm3⟩
  have hp : lookE (nameOf [112] (pLog 0)) t3.l = some f := by
    have e1 := sm (nameOf [112] (pLog 0)) (qp _ (List.prefix_append _ _))
    have e2 := sm3 (nameOf [112] (pLog 0)) (qp _ (List.prefix_append _ _))
    exact Eq.trans (e1.trans e2) h7
  have hlb : lb < w2.heap.size := h1.log.lt
  have hne : lb ≠ lo := by have := ho.high; omega
  have hnf : ¬ foot sb g lb := h1.apart
  have hb1 : w'.heap[lb]? = w2.heap[lb]? := ho.kept.block lb hlb hnf
  have hnf' : ¬ foot sb g' lb := fun hf => by
    rcases ho.fresh lb hf with h | h
    · exact hnf h
    · omega
  have hb2 : w3.heap[lb]? = w2.heap[lb]? := by
    have hlt' : lb < w'.heap.size := Nat.lt_of_lt_of_le hlb ho.kept.size
    have e1 := st.kept.block lb (by simp; omega) (fun hf => hf.elim hnf' hne)
    exact e1.trans ((hal.block lb hlt').trans hb1)
  refine ⟨rfl, g3, t3, 0, 0, f, ⟨st.bo.is, h1.log.keep hb2, h1.base⟩, ?_, ?_, lv3, by omega, ?_, hp⟩
  · exact (h2.other (fun m hm => (sm m hm).trans (sm3 m hm)) qp r3.few)
  · have e : encs [] ++ enc [1] = encs [[1]] := by simp [encs]
    rw [e] at r3
    exact r3
  · exact h6.trans ((ho.kept.below h1.is.2.2 (fun k hk => h1.is.1.base k hk)).trans ((hal.mono ho.bo.is.2.2).trans (BStep.low (ho.bo.below hal) st)))
end Go.Proofs.YtihgikekkgoddaaGreatDoor
