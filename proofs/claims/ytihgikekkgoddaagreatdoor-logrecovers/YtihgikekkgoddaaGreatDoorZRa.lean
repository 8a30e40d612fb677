/- Joined: Rc5 Rc6 Rc7. -/
import Derived.Test.YtihgikekkgoddaaGreatDoorZRc2
import Derived.Test.YtihgikekkgoddaaGreatDoorZSy2
import Derived.Test.YtihgikekkgoddaaGreatDoorZRb
/- LogRecovers: contracts of the law's beginning and fits. -/
namespace Go.Proofs.YtihgikekkgoddaaGreatDoor
open Go.RowKit Go.Shelf Sto

set_option maxRecDepth 100000 in
set_option maxHeartbeats 4000000 in
theorem beginning_yes (w : World) (vl va : Value) (all : List (List UInt8)) (k sy : Nat) (hk : k ≤ all.length) (hsy : sy ≤ k) (hl : IsR w vl (all.take k)) (ha : IsR w va all) :
    Calls Tryz.prog 47 #[vl, va, .int .i64 (sy : Int)] w fun e w' => e = .returned (.bool true) ∧ ∃ n, w' = w.drewN n := by
  obtain ⟨a, c, rfl⟩ : ∃ a c, va = .slice a all.length c := by obtain ⟨a, c, e, _⟩ := ha; exact ⟨a, c, e⟩
  obtain ⟨b, d, rfl⟩ : ∃ b d, vl = .slice b k d := by obtain ⟨b, d, e, _⟩ := hl; rw [List.length_take, Nat.min_eq_left hk] at e; exact ⟨b, d, e⟩
  have hcap : all.length ≤ c := by obtain ⟨_, _, e, h1, _⟩ := ha; cases e; exact h1
  have hmax : c ≤ maxLen := by obtain ⟨_, _, e, _, h1, _⟩ := ha; cases e; exact h1
  unfold maxLen at hmax
  have sm := hid (same_yes w _ _ _ hl (isR_take ha hk))
  have t1 : (k : Int) ≤ (all.length : Int) := by omega
  have t2 : (sy : Int) ≤ (k : Int) := by omega
  clear hl ha
  go_enter Tryz.func47, Tryz.ntmps47
  go_wp2_with fail
  refine sm.out.mono ?_
  rintro e w' ⟨rfl, n, rfl⟩
  clear sm
  go_wp2
  go_ret
  exact ⟨rfl, n, rfl⟩
set_option maxRecDepth 100000 in
set_option maxHeartbeats 4000000 in
theorem fits_yes (w : World) (sv nv rv : Value) (S nx : List UInt8) (rs : List (List UInt8)) (sy : Nat) (on : Bool) (tv uv : Value) (S' : List UInt8) (R : List (List UInt8)) (hf : FitS on S nx rs sy S' R) (h1 : Frm.IsB w sv (ints S)) (h2 : Frm.IsB w nv (ints nx)) (h3 : IsR w rv rs) (h4 : Frm.IsB w tv (ints S')) (h5 : IsR w uv R) :
    Calls Tryz.prog 19 #[.agg #[sv, nv, rv, .int .i64 (sy : Int), .bool on], tv, uv] w fun e w' => e = .returned (.bool true) ∧ Below w.heap.size w w' := by
  obtain ⟨V, hV⟩ : ∃ V, w.alloc (.cells #[sv, nv, rv, .int .i64 (sy : Int), .bool on] 47) = V := ⟨_, rfl⟩
  have hal : Below w.heap.size w V := by rw [← hV]; exact alloc_low w _
  have hbx : V.heap[w.heap.size]? = some (.cells #[sv, nv, rv, .int .i64 (sy : Int), .bool on] 47) := by rw [← hV]; exact (MapKept.heap_alloc w _).1
  have c0 : V.cell? ⟨w.heap.size, 0, none⟩ = some sv := by rw [cell_of hbx]; rfl
  have c1 : V.cell? ⟨w.heap.size, 1, none⟩ = some nv := by rw [cell_of hbx]; rfl
  have c2 : V.cell? ⟨w.heap.size, 2, none⟩ = some rv := by rw [cell_of hbx]; rfl
  have c3 : V.cell? ⟨w.heap.size, 3, none⟩ = some (.int .i64 (sy : Int)) := by rw [cell_of hbx]; rfl
  have c4 : V.cell? ⟨w.heap.size, 4, none⟩ = some (.bool on) := by rw [cell_of hbx]; rfl
  have LV' : Hid (∀ q, Below w.heap.size w (V.drewN q)) := fun q => low_drewN q _ hal
  have cs : ∀ q, (convert 22 9 sv).run Tryz.prog (V.drewN q) = .ok (str S) (V.drewN q) := fun q => conv5 (w := V.drewN q) (h1.below (low_drewN q _ hal))
  have cn : ∀ q, (convert 22 9 nv).run Tryz.prog (V.drewN q) = .ok (str nx) (V.drewN q) := fun q => conv5 (w := V.drewN q) (h2.below (low_drewN q _ hal))
  have ct : ∀ q, (convert 22 9 tv).run Tryz.prog (V.drewN q) = .ok (str S') (V.drewN q) := fun q => conv5 (w := V.drewN q) (h4.below (low_drewN q _ hal))
  have cs0 := cs 0
  have cn0 := cn 0
  have ct0 := ct 0
  obtain ⟨ua, uc, hu⟩ : ∃ a c, uv = .slice a R.length c := by obtain ⟨a, c, e, _⟩ := h5; exact ⟨a, c, e⟩
  subst hu
  unfold str at cs cn ct cs0 cn0 ct0
  rw [show V.drewN 0 = V from rfl] at cs0 cn0 ct0
  by_cases hA : on = true ∧ S' = nx ∧ R = []
  · obtain ⟨rfl, rfl, rfl⟩ := hA
    clear hf h1 h2 h3 h4 h5 hal hbx
    go_enter Tryz.func19, Tryz.ntmps19
    go_wp2_with (rw [hV])
    go_ret
    exact ⟨rfl, LV'.out 0⟩
  · obtain ⟨rfl, k, hk, hsy, rfl⟩ : S' = S ∧ ∃ k, k ≤ rs.length ∧ sy ≤ k ∧ R = rs.take k := hf.resolve_left hA
    obtain ⟨ra, rc, hr⟩ : ∃ a c, rv = .slice a rs.length c := by obtain ⟨a, c, e, _⟩ := h3; exact ⟨a, c, e⟩
    subst hr
    have ek : (rs.take k).length = k := by rw [List.length_take]; omega
    have bg : Hid (∀ q, Calls Tryz.prog 47 #[.slice ua (rs.take k).length uc, .slice ra rs.length rc, .int .i64 (sy : Int)] (V.drewN q) fun e w' => e = .returned (.bool true) ∧ ∃ n, w' = (V.drewN q).drewN n) := fun q => beginning_yes (V.drewN q) _ _ rs k sy hk hsy (h5.below (low_drewN q _ hal)) (h3.below (low_drewN q _ hal))
    rw [ek] at bg ⊢
    have hA' : Hid (on = true → S' = nx → k ≠ 0) := fun h1 h2 h3 => hA ⟨h1, h2, by rw [h3]; rfl⟩
    have bg0 := hid (bg.out 0)
    rw [show V.drewN 0 = V from rfl] at bg0
    clear h1 h2 h3 h4 h5 hal hbx hf hA ek
    cases on with
    | false =>
      go_enter Tryz.func19, Tryz.ntmps19
      go_wp2_with (rw [hV])
      refine bg0.out.mono ?_
      rintro e w' ⟨rfl, n, rfl⟩
      clear bg bg0
      go_wp2
      go_ret
      exact ⟨rfl, LV'.out n⟩
    | true =>
      by_cases hn : S' = nx
      · subst hn
        have hk0 : ¬ (k : Int) = 0 := by have := hA'.out rfl rfl; omega
        go_enter Tryz.func19, Tryz.ntmps19
        go_wp2_with (rw [hV])
        refine bg0.out.mono ?_
        rintro e w' ⟨rfl, n, rfl⟩
        clear bg bg0
        go_wp2
        go_ret
        exact ⟨rfl, LV'.out n⟩
      · go_enter Tryz.func19, Tryz.ntmps19
        go_wp2_with (rw [hV])
        refine bg0.out.mono ?_
        rintro e w' ⟨rfl, n, rfl⟩
        clear bg bg0
        go_wp2
        go_ret
        exact ⟨rfl, LV'.out n⟩
end Go.Proofs.YtihgikekkgoddaaGreatDoor
/- LogRecovers: how it begins; what is behind a crash; opening twice. -/
namespace Go.Proofs.YtihgikekkgoddaaGreatDoor
open Go.RowKit Go.Shelf Sto

theorem RS.at_left {p : List UInt8} {t : St} {N : Nat} {S X : List UInt8} {s K : Nat} (h : RS p t N S X s K) (x : Int) : RS p { t with left := x } N S X s K := ⟨h.len, h.good, h.top, h.small, h.snap, h.log, h.few⟩
/-- the log is opened over a new store. -/
def Begun (B : Nat) (w : World) (lb sb : Nat) (wr : World) : Prop :=
  ∃ g t f, Bo B wr lb g t ⟨sb, px, 0, 0, false⟩ ∧ RS px t 0 [] [] 0 1 ∧ lookE (nameOf px (pLog 0)) t.l = some f ∧ t.acts ≤ 10 ∧ Below B w wr
theorem rc_begin {w w1 : World} {sb : Nat} {g : Gs} (h : Is w.heap.size w1 sb g ⟨[], 0, -1⟩) (hb : Below w.heap.size w w1) :
    Calls Tryz.prog 7 #[ptr sb, str px] w1 fun e w' => ∃ lb a c a' c', e = .returned (.tuple #[ptr lb, .slice a 0 c, .slice a' 0 c', .int .i64 0]) ∧ Begun w.heap.size w lb sb w' := by
  refine (open_live w1 h (rs_empty (p := px) (by simp)) rfl (by omega) (by simp)).mono ?_
  rintro e w' ⟨lb, sv, rv, t', g', recs, rfl, ho⟩
  obtain rfl := read8_nil ho.reads
  obtain ⟨a, c, rfl⟩ := ho.snap.own.slice
  obtain ⟨a', c', rfl⟩ := ho.recs.recs.slice
  obtain ⟨f, hf⟩ := ho.has
  have hac := ho.acts
  exact ⟨lb, a, c, a', c', rfl, g', t', f, ho.bo, ho.rs, hf, by simp at hac; omega, hb.trans (ho.kept.below h.2.2 (fun k hk => h.1.base k hk))⟩
/-- and the power is set. -/
def Set0 (B : Nat) (w : World) (lb sb : Nat) (wr : World) : Prop :=
  ∃ g t f, Bo B wr lb g t ⟨sb, px, 0, 0, false⟩ ∧ RS px t 0 [] [] 0 61 ∧ lookE (nameOf px (pLog 0)) t.l = some f ∧ Bd 61 t ∧ t.left ≤ 60 ∧ Below B w wr
theorem rc_power {B : Nat} {w : World} {lb sb : Nat} {wr : World} (h : Begun B w lb sb wr) (q : Nat) (hq : q < 60) :
    Calls Tryz.prog 16 #[ptr sb, .int .i64 (q : Int)] wr fun e w' => e = .returned (.tuple #[]) ∧ Set0 B w lb sb w' := by
  obtain ⟨g, t, f, h1, h2, h3, h4, h5⟩ := h
  refine (power_t wr h1.is q (by omega)).mono ?_
  rintro e w' ⟨rfl, g', hs, hi⟩
  have hst := h1.step hs hi
  have hl := h2.few
  have h2' := (h2.at_left (q : Int)).mono (show 1 ≤ 61 by omega)
  exact ⟨rfl, g', { t with left := (q : Int) }, f, hst.bo, h2', h3, ⟨by simp, by simp only; omega, by simp only; omega⟩, by simp only; omega, h5.trans (BStep.low h1 hst)⟩
/-- and the story has its cells. -/
theorem Set0.start {B : Nat} {w : World} {lb sb : Nat} {wr : World} (h : Set0 B w lb sb wr) (cs : Array Value) : Live B w (wr.heap.size, cs) lb sb [] [] 0 (.slice none 0 0) [] (wr.alloc (.cells cs 47)) := by
  obtain ⟨g, t, f, h1, h2, h3, h4, h5, h6⟩ := h
  have hal := alloc_low wr (.cells cs 47)
  exact ⟨g, t, 0, 0, f, h1.below hal, h2, by simp [encs], by simp, h4, by omega, h3, h6.trans (hal.mono h1.is.2.2), Row.empty ⟨h1.is.2.2, (MapKept.heap_alloc wr _).1, fun hF => by have := h1.lt hF; simp only at this; omega⟩⟩
/-- behind a crash: the store tells S' and R, and all of it is safe. -/
def Back (B : Nat) (w : World) (bx : Nat × Array Value) (sb : Nat) (S' : List UInt8) (R : List (List UInt8)) (rv : Value) (rs : List (List UInt8)) (K A : Nat) (alive : Bool) (wr : World) : Prop :=
  ∃ g t N X s, Is B wr sb g t ∧ RS px t N S' X s K ∧ X.length ≤ s ∧ Read8 X R ∧ (∀ r ∈ R, r.length ≤ 65536) ∧ (alive = true → LV t) ∧ t.acts ≤ A ∧ Below B w wr ∧ Row B w bx (foot sb g) wr rv rs
theorem Back.low {B : Nat} {w : World} {bx : Nat × Array Value} {sb : Nat} {S' : List UInt8} {R : List (List UInt8)} {rv : Value} {rs : List (List UInt8)} {K A : Nat} {al : Bool} {wr : World} (h : Back B w bx sb S' R rv rs K A al wr) : Below B w wr := by
  obtain ⟨g, t, N, X, s, h1, h2, h3, h4, h5, h6, h7, h8, h9⟩ := h; exact h8
theorem Back.row {B : Nat} {w : World} {bx : Nat × Array Value} {sb : Nat} {S' : List UInt8} {R : List (List UInt8)} {rv : Value} {rs : List (List UInt8)} {K A : Nat} {al : Bool} {wr : World} (h : Back B w bx sb S' R rv rs K A al wr) (hw : w.heap.size ≤ B) : IsR wr rv rs := by
  obtain ⟨g, t, N, X, s, h1, h2, h3, h4, h5, h6, h7, h8, h9⟩ := h; exact h9.isR hw h8
theorem far_of {B sb : Nat} {w wr : World} {g : Gs} {t : St} (h : Is B wr sb g t) (hw : w.heap.size ≤ B) {v : Value} {ks : List Int} (hI : IsI w v ks) : ks ≠ [] → ∀ b, v.ownBlock = some b → ¬ foot sb g b := by
  intro hne b hb hf
  obtain ⟨h1, h2, a, c, rfl, h3, h4, h5⟩ := hI
  rcases h5 with h5 | ⟨b', off, rfl, h5⟩
  · exact hne h5
  · have hlt : 0 < ks.length := List.length_pos_iff.2 hne
    have h6 := h5 0 hlt
    have h7 : b' < w.heap.size := by
      have := World.block_lt_of_cell? w ⟨b', off + 0, none⟩ h6
      exact this
    have h8 := h.1.base b hf
    simp [Value.ownBlock] at hb
    omega
theorem rc_crash {B : Nat} {w : World} {bx : Nat × Array Value} {sb : Nat} {on : Bool} {S nx : List UInt8} {rs : List (List UInt8)} {sy : Nat} {rv : Value} {d : Bool} {wr : World} (h : Gone B w bx sb on S nx rs sy rv d wr) (hw : w.heap.size ≤ B) (hr : ∀ r ∈ rs, r.length ≤ 65536) (v : Value) (ks : List Int) (hI : IsI w v ks) :
    Calls Tryz.prog 18 #[ptr sb, v] wr fun e w' => e = .returned (.tuple #[]) ∧ ∃ S' R, FitS on S nx rs sy S' R ∧ Back B w bx sb S' R rv rs 61 1000 true w' := by
  obtain ⟨g, t, h1, h2, h3, h4, h5, h6, h7⟩ := h
  refine (crash_t wr h1 v ks (hI.below (h6.mono hw)) (far_of h1 hw hI)).mono ?_
  rintro e w' ⟨rfl, g', hs, hi⟩
  obtain ⟨N, S', X, s, R, k1, k2, k3, k4, k5⟩ := h2.crash ks h3 hr
  exact ⟨rfl, S', R, k4, g', _, N, X, s, hi, k1, k2, k3, k5, fun _ => rfl, h5, h6.trans (Step.low h1 hs), h7.move hs.kept (fun b hb => hb) hs.fresh⟩
theorem rc_power2 {B : Nat} {w : World} {bx : Nat × Array Value} {sb : Nat} {S' : List UInt8} {R : List (List UInt8)} {rv : Value} {rs : List (List UInt8)} {K A : Nat} {al : Bool} {wr : World} (h : Back B w bx sb S' R rv rs K A al wr) (q : Nat) (hq : q < 6) :
    Calls Tryz.prog 16 #[ptr sb, .int .i64 (q : Int)] wr fun e w' => e = .returned (.tuple #[]) ∧ Back B w bx sb S' R rv rs K A false w' := by
  obtain ⟨g, t, N, X, s, h1, h2, h3, h4, h5, h6, h7, h8, h9⟩ := h
  refine (power_t wr h1 q (by omega)).mono ?_
  rintro e w' ⟨rfl, g', hs, hi⟩
  exact ⟨rfl, g', _, N, X, s, hi, h2.at_left _, h3, h4, h5, (fun e => by cases e), h7, h8.trans (Step.low h1 hs), h9.move hs.kept (fun b hb => hb) hs.fresh⟩
/-- what the first opening tells, beside the store. -/
def Said (B : Nat) (w : World) (bx : Nat × Array Value) (sb : Nat) (S' : List UInt8) (R : List (List UInt8)) (rv : Value) (rs : List (List UInt8)) (tv uv : Value) (wr : World) : Prop :=
  ∃ g t N lo, Is B wr sb g t ∧ RS px t N S' (encs R) (encs R).length 62 ∧ (∀ r ∈ R, r.length ≤ 65536) ∧ t.acts ≤ 1100 ∧ Below B w wr ∧ Row B w bx (foot sb g) wr rv rs ∧ SnapAt lo sb g wr tv S' ∧ RecsAt lo sb g wr uv R
/-- or it failed: the power is gone, and what is told is safe. -/
def Lost (B : Nat) (w : World) (bx : Nat × Array Value) (sb : Nat) (S' : List UInt8) (R : List (List UInt8)) (rv : Value) (rs : List (List UInt8)) (wr : World) : Prop :=
  ∃ g t N, Is B wr sb g t ∧ t.left = 0 ∧ (∀ ks, ∃ X s, RS px (t.crash ks) N S' X s 62 ∧ Read8 X R) ∧ t.acts ≤ 1100 ∧ Below B w wr ∧ Row B w bx (foot sb g) wr rv rs
theorem Said.low {B : Nat} {w : World} {bx : Nat × Array Value} {sb : Nat} {S' : List UInt8} {R : List (List UInt8)} {rv : Value} {rs : List (List UInt8)} {tv uv : Value} {wr : World} (h : Said B w bx sb S' R rv rs tv uv wr) : Below B w wr := by
  obtain ⟨g, t, N, lo, h1, h2, h3, h4, h5, h6, h7, h8⟩ := h; exact h5
theorem no_acts {p : List UInt8} {t t' : St} {N : Nat} {S X : List UInt8} {s K : Nat} {r : Int} (h : RS p t N S X s K) (hK : K < 64) (ho : OpenNo p t r t') : t'.acts ≤ t.acts + 100 := by
  have hsm := h.small
  have step1 : ∀ {t1}, OpenAt p t 1 t1 0 [] [] → RS p t1 N S X s K ∧ t1.acts ≤ t.acts + 1 := fun h1 => by
    cases h1 with
    | s1 e1 => exact ⟨(h.dropNew e1).1, (dropNew_good h.good e1).2⟩
  have step2 : ∀ {t1 n s'}, OpenAt p t 2 t1 n s' [] → RS p t1 N S X s K ∧ t1.acts ≤ t.acts + 1 ∧ n = N := fun h2 => by
    cases h2 with
    | s2 h1 e2 =>
      obtain ⟨a, b⟩ := step1 h1
      exact ⟨a, b, ((a.newest e2).1 rfl).1⟩
  have step3 : ∀ {t3 n s'}, OpenAt p t 3 t3 n s' [] → RS p t3 N S X s (K + 1) ∧ t3.acts ≤ t.acts + 2 ∧ n = N ∧ ∃ f, lookE (nameOf p (pLog N)) t3.l = some f ∧ f.b = X ∧ f.s = s := fun h3 => by
    cases h3 with
    | s3 h2 e3 =>
      obtain ⟨a, b, rfl⟩ := step2 h2
      obtain ⟨c1, _, c2⟩ := a.makeFile hK e3
      have := (makeFile_good (by omega) a.good e3).2
      exact ⟨c1, by omega, rfl, c2 rfl⟩
  cases ho with
  | f1 e1 hr => have := (dropNew_good h.good e1).2; omega
  | f2 h1 e2 hr => have := (step1 h1).2; omega
  | f3 h2 e3 hr =>
    obtain ⟨a, b, rfl⟩ := step2 h2
    have := (makeFile_good (by omega) a.good e3).2
    omega
  | f4 h3 hR e4 hr =>
    obtain ⟨a, b, rfl, _⟩ := step3 h3
    have := (load_good a.good e4).2
    omega
  | f5 h4 e5 hr =>
    cases h4 with
    | s4 h3 hR e4 =>
      obtain ⟨a, b, rfl, f, hf, hX, hs⟩ := step3 h3
      have q4 := (load_good a.good e4).2
      obtain ⟨_, _, X', s'', g2, _⟩ := a.load hf hX hs hR e4
      have q5 := acts_drop _ _ _ _ e5
      have q7 := g2.few
      have q6 : ∀ t4 : St, (ownT p t4).length ≤ t4.l.length := fun t4 => by
        have := own_len p (namesOf t4); rw [names_len] at this; exact this
      refine Nat.le_trans q5 (Nat.le_trans (Nat.add_le_add_left (q6 _) _) (by omega))
theorem rc_open1 {B : Nat} {w : World} {bx : Nat × Array Value} {sb : Nat} {S' : List UInt8} {R : List (List UInt8)} {rv : Value} {rs : List (List UInt8)} {wr : World} (h : Back B w bx sb S' R rv rs 61 1000 false wr) :
    Calls Tryz.prog 7 #[ptr sb, str px] wr fun e w' => (∃ lb tv uv, e = .returned (.tuple #[ptr lb, tv, uv, .int .i64 0]) ∧ Said B w bx sb S' R rv rs tv uv w') ∨
      (∃ q, q ≠ 0 ∧ e = .returned (.tuple #[.pointer none, .slice none 0 0, .slice none 0 0, .int .i64 q]) ∧ Lost B w bx sb S' R rv rs w') := by
  obtain ⟨g, t, N, X, s, h1, h2, h3, h4, h5, h6, h7, h8, h9⟩ := h
  have hd := nd_is h1
  refine (open_any wr h1 px h2.len h2.good (by omega)).mono ?_
  rintro e w' (⟨r, t', g', rfl, h0, hor, hi, hk, hf⟩ | ⟨lb, sv, uv, t', g', n, s', recs, rfl, _, ho, hbo, hlb, hn, hs, hrc, hk, hf⟩)
  · right
    have hlow := h8.trans (hk.below h1.2.2 (fun k hk => h1.1.base k hk))
    have hrow := h9.move hk (fun b hb => hb) hf
    rcases hor with ⟨k1, k2, rfl⟩ | ⟨k1, k2⟩
    · refine ⟨r, h0, rfl, g', t', N, hi, k1, fun ks => ?_, by omega, hlow, hrow⟩
      obtain ⟨j, s2, k3, k4, k5⟩ := h2.crash ks
      rw [List.take_of_length_le (by omega)] at k3
      exact ⟨X, s2, k3.mono (by omega), h4⟩
    · refine ⟨r, h0, rfl, g', t', N, hi, (open_fails h2 hd (by omega) k2).2.1, fun ks => again_fails h2 hd (by omega) h3 h4 h5 k2 ks, ?_, hlow, hrow⟩
      have := no_acts h2 (by omega) k2
      omega
  · left
    obtain ⟨rfl, rfl, k1, k2, k3, k4⟩ := open_tells h2 hd (by omega) ho
    obtain rfl := read8_one k1 h4
    exact ⟨lb, sv, uv, rfl, g', t', _, lb + 2, hbo.is, k2, h5, by omega, h8.trans (hk.below h1.2.2 (fun k hk => h1.1.base k hk)), h9.move hk (fun b hb => hb) hf, hs, hrc⟩
end Go.Proofs.YtihgikekkgoddaaGreatDoor
/- LogRecovers: the second crash, the second opening. -/
namespace Go.Proofs.YtihgikekkgoddaaGreatDoor
open Go.RowKit Go.Shelf Sto

def Back2 (B : Nat) (w : World) (bx : Nat × Array Value) (sb : Nat) (S' : List UInt8) (R : List (List UInt8)) (rv : Value) (rs : List (List UInt8)) (b : Bool) (tv uv : Value) (wr : World) : Prop :=
  ∃ g t N X s, Is B wr sb g t ∧ RS px t N S' X s 62 ∧ Read8 X R ∧ LV t ∧ t.acts ≤ 1100 ∧ Below B w wr ∧ Row B w bx (foot sb g) wr rv rs ∧ (b = true → ∃ lo, SnapAt lo sb g wr tv S' ∧ RecsAt lo sb g wr uv R)
theorem rc_crash2 {B : Nat} {w : World} {bx : Nat × Array Value} {sb : Nat} {S' : List UInt8} {R : List (List UInt8)} {rv : Value} {rs : List (List UInt8)} {tv uv : Value} {wr : World} (h : Said B w bx sb S' R rv rs tv uv wr) (hw : w.heap.size ≤ B) (v : Value) (ks : List Int) (hI : IsI w v ks) :
    Calls Tryz.prog 18 #[ptr sb, v] wr fun e w' => e = .returned (.tuple #[]) ∧ Back2 B w bx sb S' R rv rs true tv uv w' := by
  obtain ⟨g, t, N, lo, h1, h2, h3, h4, h5, h6, h7, h8⟩ := h
  refine (crash_t wr h1 v ks (hI.below (h5.mono hw)) (far_of h1 hw hI)).mono ?_
  rintro e w' ⟨rfl, g', hs, hi⟩
  obtain ⟨X, s, k1, k2⟩ := again_done h2 h3 ks
  exact ⟨rfl, g', _, N, X, s, hi, k1, k2, rfl, h4, h5.trans (Step.low h1 hs), h6.move hs.kept (fun b hb => hb) hs.fresh, fun _ => ⟨lo, h7.move hs.kept (fun b hb => .inl hb) hs.fresh, h8.move hs.kept (fun b hb => .inl hb) hs.fresh⟩⟩
theorem rc_crash3 {B : Nat} {w : World} {bx : Nat × Array Value} {sb : Nat} {S' : List UInt8} {R : List (List UInt8)} {rv : Value} {rs : List (List UInt8)} {wr : World} (h : Lost B w bx sb S' R rv rs wr) (hw : w.heap.size ≤ B) (v : Value) (ks : List Int) (hI : IsI w v ks) (tv uv : Value) :
    Calls Tryz.prog 18 #[ptr sb, v] wr fun e w' => e = .returned (.tuple #[]) ∧ Back2 B w bx sb S' R rv rs false tv uv w' := by
  obtain ⟨g, t, N, h1, h2, h3, h4, h5, h6⟩ := h
  refine (crash_t wr h1 v ks (hI.below (h5.mono hw)) (far_of h1 hw hI)).mono ?_
  rintro e w' ⟨rfl, g', hs, hi⟩
  obtain ⟨X, s, k1, k2⟩ := h3 ks
  exact ⟨rfl, g', _, N, X, s, hi, k1, k2, rfl, h4, h5.trans (Step.low h1 hs), h6.move hs.kept (fun b hb => hb) hs.fresh, (fun e => by cases e)⟩
theorem rc_lost {B : Nat} {w : World} {bx : Nat × Array Value} {sb : Nat} {S' : List UInt8} {R : List (List UInt8)} {rv : Value} {rs : List (List UInt8)} {wr : World} (h : Lost B w bx sb S' R rv rs wr) :
    Calls Tryz.prog 17 #[ptr sb] wr fun e w' => e = .returned (.bool true) ∧ Lost B w bx sb S' R rv rs w' := by
  obtain ⟨g, t, N, h1, h2, h3, h4, h5, h6⟩ := h
  refine (dead_t wr h1).mono ?_
  rintro e w' ⟨rfl, rfl⟩
  exact ⟨by rw [h2]; rfl, g, t, N, h1, h2, h3, h4, h5, h6⟩
/-- all that was told, for the law's own look at it. -/
structure All2 (B : Nat) (w : World) (bx : Nat × Array Value) (S' : List UInt8) (R : List (List UInt8)) (rv : Value) (rs : List (List UInt8)) (b : Bool) (tv uv dv gv : Value) (wr : World) : Prop where
  low : Below B w wr
  box : wr.heap[bx.1]? = some (.cells bx.2 47)
  row : IsR wr rv rs
  snap : Frm.IsB wr dv (ints S')
  recs : IsR wr gv R
  first : b = true → Frm.IsB wr tv (ints S') ∧ IsR wr uv R
theorem rc_open2 {B : Nat} {w : World} {bx : Nat × Array Value} {sb : Nat} {S' : List UInt8} {R : List (List UInt8)} {rv : Value} {rs : List (List UInt8)} {b : Bool} {tv uv : Value} {wr : World} (h : Back2 B w bx sb S' R rv rs b tv uv wr) (hw : w.heap.size ≤ B) :
    Calls Tryz.prog 7 #[ptr sb, str px] wr fun e w' => ∃ lb dv gv, e = .returned (.tuple #[ptr lb, dv, gv, .int .i64 0]) ∧ All2 B w bx S' R rv rs b tv uv dv gv w' := by
  obtain ⟨g, t, N, X, s, h1, h2, h3, h4, h5, h6, h7, h8⟩ := h
  refine (open_live wr h1 h2 h4 (by omega) (by omega)).mono ?_
  rintro e w' ⟨lb, sv, gv, t', g', recs, rfl, ho⟩
  obtain rfl := read8_one ho.reads h3
  have hlow := h6.trans (ho.kept.below h1.2.2 (fun k hk => h1.1.base k hk))
  refine ⟨lb, sv, gv, rfl, hlow, (h7.move ho.kept (fun b hb => hb) ho.fresh).1.2.1, (h7.move ho.kept (fun b hb => hb) ho.fresh).isR hw hlow, ho.snap.own.isB, recs_isR ho.recs.recs, fun hb => ?_⟩
  obtain ⟨lo, k1, k2⟩ := h8 hb
  exact ⟨(k1.move ho.kept (fun b hb => .inl hb) ho.fresh).own.isB, recs_isR (k2.move ho.kept (fun b hb => .inl hb) ho.fresh).recs⟩
theorem Said.box {B : Nat} {w : World} {bx : Nat × Array Value} {sb : Nat} {S' : List UInt8} {R : List (List UInt8)} {rv : Value} {rs : List (List UInt8)} {tv uv : Value} {wr : World} (h : Said B w bx sb S' R rv rs tv uv wr) (hw : w.heap.size ≤ B) : wr.heap[bx.1]? = some (.cells bx.2 47) ∧ IsR wr rv rs ∧ Frm.IsB wr tv (ints S') ∧ IsR wr uv R := by
  obtain ⟨g, t, N, lo, h1, h2, h3, h4, h5, h6, h7, h8⟩ := h
  exact ⟨h6.1.2.1, h6.isR hw h5, h7.own.isB, recs_isR h8.recs⟩
theorem Said.below {B : Nat} {w : World} {bx : Nat × Array Value} {sb : Nat} {S' : List UInt8} {R : List (List UInt8)} {rv : Value} {rs : List (List UInt8)} {tv uv : Value} {wr w' : World} (h : Said B w bx sb S' R rv rs tv uv wr) (hb : Below wr.heap.size wr w') : Said B w bx sb S' R rv rs tv uv w' := by
  obtain ⟨g, t, N, lo, h1, h2, h3, h4, h5, h6, h7, h8⟩ := h
  have hk : Kept (fun _ => False) wr w' := kept_of_below hb
  exact ⟨g, t, N, lo, h1.below hb, h2, h3, h4, h5.trans (hb.mono h1.2.2), h6.move hk (fun _ h => h.elim) (fun b hb => .inl hb), h7.move hk (fun _ h => h.elim) (fun b hb => .inl hb), h8.move hk (fun _ h => h.elim) (fun b hb => .inl hb)⟩
end Go.Proofs.YtihgikekkgoddaaGreatDoor
