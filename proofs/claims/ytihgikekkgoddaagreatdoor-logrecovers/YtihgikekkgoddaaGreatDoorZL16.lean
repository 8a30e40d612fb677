/- Contracts of writeSnapshot, moveOn, Checkpoint. -/
import Derived.Test.YtihgikekkgoddaaGreatDoorZL15
namespace Go.Proofs.YtihgikekkgoddaaGreatDoor
open Go.RowKit Go.Shelf Sto

/-- one step behind the other; the first that fails ends it. -/
def seqA : List (St → Int × St) → St → Int × St
  | [], t => (0, t)
  | f :: fs, t => if (f t).1 = 0 then seqA fs (f t).2 else f t
theorem seqA_drop {fs : List (St → Int × St)} {i : Nat} (hi : i < fs.length) (t : St) : seqA (fs.drop i) t = if (fs[i] t).1 = 0 then seqA (fs.drop (i + 1)) (fs[i] t).2 else fs[i] t := by
  rw [List.drop_eq_getElem_cons hi]; rfl
theorem order_any (WS : World) {B lb : Nat} {g : Gs} {x : Lg} {t : St} (fb n : Nat) (hn : n ≤ 1000) (k : Nat → Nat) (la : Nat → Array Value) (ek : ∀ i, i < n → Enters Tryz.prog (k i)) (fs : List (St → Int × St)) (hl : fs.length = n) (C : Nat → St → Prop)
    (h0 : Bo B WS lb g t x) (hc0 : C 0 t)
    (hcell : ∀ i W gi ti, i < n → BStep B lb WS W g gi x x ti → W.cell? ⟨fb, i, none⟩ = some (.func (.func (k i)) #[] (la i)))
    (hstep : ∀ i (hi : i < fs.length) W gi ti, BStep B lb WS W g gi x x ti → C i ti → (C (i + 1) (fs[i] ti).2) ∧ Calls Tryz.prog (k i) (la i) W fun e W' => e = .returned (.int .i64 (fs[i] ti).1) ∧ ∃ g', BStep B lb W W' gi g' x x (fs[i] ti).2) {r : Int} {t' : St} (hr : seqA fs t = (r, t')) :
    Calls Tryz.prog 24 #[.slice (some ⟨fb, 0, none⟩) n n] WS fun e w' => e = .returned (.int .i64 r) ∧ ∃ g', BStep B lb WS w' g g' x x t' := by
  refine (inOrder_any WS fb n n (Nat.le_refl _) hn k la ek (fun i W => ∃ gi ti, BStep B lb WS W g gi x x ti ∧ C i ti ∧ seqA (fs.drop i) ti = (r, t')) (fun r' W => r' = r ∧ ∃ g', BStep B lb WS W g g' x x t') (fun i W hi hI => ?_) (fun i W hi hI => ?_) ⟨g, t, h0.same (Below.refl _ _), hc0, hr⟩).mono ?_
  · obtain ⟨gi, ti, h1, h2, h3⟩ := hI
    exact hcell i W gi ti hi h1
  · obtain ⟨gi, ti, h1, h2, h3⟩ := hI
    obtain ⟨q1, q2⟩ := hstep i (by omega) W gi ti h1 h2
    rw [seqA_drop (by omega)] at h3
    refine q2.mono ?_
    rintro e W' ⟨rfl, g', hs⟩
    refine ⟨_, rfl, ?_⟩
    by_cases hz : (fs[i] ti).1 = 0
    · rw [if_pos hz] at h3
      exact .inl ⟨hz, g', _, h1.trans hs, q1, h3⟩
    · rw [if_neg hz] at h3
      rw [h3] at hs hz
      refine .inr ⟨by rw [h3]; exact hz, by rw [h3], g', h1.trans hs⟩
  · rintro e w' ⟨r', rfl, (⟨rfl, gi, ti, h1, h2, h3⟩ | ⟨hz, rfl, g', hs⟩)⟩
    · rw [List.drop_of_length_le (by omega)] at h3
      cases h3
      exact ⟨rfl, gi, h1⟩
    · exact ⟨rfl, g', hs⟩
noncomputable def writeL (p : List UInt8) (n : Nat) (bs : List UInt8) : List (St → Int × St) := [dropNewA p, fun t => t.append (nameOf p pNew) (enc bs), fun t => t.sync (nameOf p pNew), fun t => t.rename (nameOf p pNew) (nameOf p (pSnap (n + 1)))]
def third (p : List UInt8) (n : Nat) (t : St) : Int × St := if n = 0 then (0, t) else t.remove (nameOf p (pSnap n))
def moveL (p : List UInt8) (n : Nat) : List (St → Int × St) := [fun t => t.append (nameOf p (pLog (n + 1))) [], fun t => t.remove (nameOf p (pLog n)), third p n]
theorem rename_acts (t : St) (o n : List UInt8) : (t.rename o n).2.acts ≤ t.acts + 1 := by
  unfold St.rename
  refine with_acts t o _ fun f => ?_
  split
  · simp
  · simp [St.done]
/-- a world of some boxes behind w. -/
theorem kc_of {B lb : Nat} {WS W : World} {g gi : Gs} {x x' : Lg} {ti : St} (hs : BStep B lb WS W g gi x x' ti) {b o : Nat} {u : Value} (hu : WS.cell? ⟨b, o, none⟩ = some u) (hf : ¬ foot x.sb g b) (hl : b ≠ lb) : W.cell? ⟨b, o, none⟩ = some u := by
  have hlt : b < WS.heap.size := World.block_lt_of_cell? WS ⟨b, o, none⟩ hu
  exact (World.cell?_of_block (a := ⟨b, o, none⟩) (hs.kept.block b hlt (fun h => h.elim hf hl))).trans hu
theorem nf_of {B lb : Nat} {WS W : World} {g gi : Gs} {x x' : Lg} {ti : St} (hs : BStep B lb WS W g gi x x' ti) (hsb : x'.sb = x.sb) {b : Nat} (hf : ¬ foot x.sb g b) (hlt : b < WS.heap.size) : ¬ foot x.sb gi b := fun h => (hs.fresh b (by rw [hsb]; exact h)).elim hf (by omega)
theorem errs_of {Q : Int → World → Prop} {e : Ending} {w : World} {r : Int} (h : e = .returned (.int .i64 r)) (hq : Q r w) : Errs Q e w := ⟨r, h, hq⟩
set_option maxRecDepth 100000 in
set_option maxHeartbeats 4000000 in
theorem moveOn_any (w : World) {B lb : Nat} {g : Gs} {t : St} {x : Lg} (h : Bo B w lb g t x) (hp : x.p.length ≤ 16) (hn : x.n + 1 < 100) (ha : t.acts + 10 < 4611686018427387904) {r : Int} {t' : St} (hr : seqA (moveL x.p x.n) t = (r, t')) :
    Calls Tryz.prog 41 #[ptr lb, .int .i64 ((x.n : Int) + 1)] w fun e w' => e = .returned (.int .i64 r) ∧ ∃ g', BStep B lb w w' g g' x x t' := by
  obtain ⟨V, hV⟩ : ∃ V, (w.alloc (.cells #[.pointer (some ⟨lb, 0, none⟩)] 24)).alloc (.cells #[.int .i64 ((x.n : Int) + 1)] 3) = V := ⟨_, rfl⟩
  obtain ⟨WS, hWS⟩ : ∃ WS, V.alloc (.cells #[.func (.func 73) #[] #[.pointer (some ⟨w.heap.size, 0, none⟩), .pointer (some ⟨w.heap.size + 1, 0, none⟩)], .func (.func 74) #[] #[.pointer (some ⟨w.heap.size, 0, none⟩)], .func (.func 75) #[] #[.pointer (some ⟨w.heap.size, 0, none⟩)]] 36) = WS := ⟨_, rfl⟩
  have sV : V.heap.size = w.heap.size + 2 := by rw [← hV]; simp
  have bV : Below w.heap.size w V := by rw [← hV]; exact ((Below.refl _ w).alloc (Nat.le_refl _) _).alloc (by simp) _
  have bS : Below V.heap.size V WS := by rw [← hWS]; exact alloc_low _ _
  have sS : WS.heap.size = w.heap.size + 3 := by rw [← hWS]; simp; omega
  have x0 : Boxed V w.heap.size 24 (ptr lb) := by rw [← hV]; exact (Boxed.new w _ _).alloc _
  have x1 : Boxed V (w.heap.size + 1) 3 (.int .i64 ((x.n + 1 : Nat) : Int)) := by
    rw [← hV]
    have := Boxed.new (w.alloc (.cells #[.pointer (some ⟨lb, 0, none⟩)] 24)) 3 (.int .i64 ((x.n : Int) + 1))
    rw [World.size_alloc] at this
    rw [show ((x.n + 1 : Nat) : Int) = (x.n : Int) + 1 by omega]
    exact this
  have y0 : WS.cell? ⟨w.heap.size, 0, none⟩ = some (ptr lb) := ((bS.block _ x0.lt).trans x0 : WS.heap[w.heap.size]? = _) |> fun e => (cell_of e 0).trans rfl
  have y1 : WS.cell? ⟨w.heap.size + 1, 0, none⟩ = some (.int .i64 ((x.n + 1 : Nat) : Int)) := ((bS.block _ x1.lt).trans x1 : WS.heap[w.heap.size + 1]? = _) |> fun e => (cell_of e 0).trans rfl
  have fS : WS.heap[w.heap.size + 2]? = some (.cells #[.func (.func 73) #[] #[ptr w.heap.size, ptr (w.heap.size + 1)], .func (.func 74) #[] #[ptr w.heap.size], .func (.func 75) #[] #[ptr w.heap.size]] 36) := by rw [← hWS, ← sV]; exact (MapKept.heap_alloc V _).1
  have lowS : Below w.heap.size w WS := bV.trans (bS.mono bV.size)
  have hS := h.below lowS
  have hlt := h.log.lt
  have nf : ∀ b, w.heap.size ≤ b → ¬ foot x.sb g b := fun b h1 h2 => by have := h.is.1.lt h2; omega
  have hin := order_any WS (w.heap.size + 2) 3 (by omega) (fun i => match i with | 0 => 73 | 1 => 74 | _ => 75) (fun i => match i with | 0 => #[ptr w.heap.size, ptr (w.heap.size + 1)] | _ => #[ptr w.heap.size])
    (fun i hi => by
      rcases (show i = 0 ∨ i = 1 ∨ i = 2 by omega) with rfl | rfl | rfl
      · exact enters_of Tryz.func73 (by kernel_rfl) rfl
      · exact enters_of Tryz.func74 (by kernel_rfl) rfl
      · exact enters_of Tryz.func75 (by kernel_rfl) rfl)
    (moveL x.p x.n) rfl (fun i ti => ti.acts ≤ t.acts + i) hS (Nat.le_refl _)
    (fun i W gi ti hi hs => by
      have e : W.heap[w.heap.size + 2]? = WS.heap[w.heap.size + 2]? := hs.kept.block _ (by omega) (fun hb => hb.elim (nf _ (by omega)) (by omega))
      rw [cell_of (e.trans fS)]
      rcases (show i = 0 ∨ i = 1 ∨ i = 2 by omega) with rfl | rfl | rfl <;> rfl)
    (fun i hi W gi ti hs hc => by
      have hi3 : i < 3 := hi
      have z0 := kc_of hs y0 (nf _ (Nat.le_refl _)) (by omega)
      have z1 := kc_of hs y1 (nf _ (by omega)) (by omega)
      have n0 := nf_of hs rfl (nf w.heap.size (Nat.le_refl _)) (by omega)
      have n1 := nf_of hs rfl (nf (w.heap.size + 1) (by omega)) (by omega)
      rcases (show i = 0 ∨ i = 1 ∨ i = 2 by omega) with rfl | rfl | rfl
      · exact ⟨Nat.le_trans (append_acts ti (nameOf x.p (pLog (x.n + 1))) []) (by omega), mo1 W w.heap.size (w.heap.size + 1) hs.bo hp (x.n + 1) hn (by omega) z0 z1 (r := (ti.append (nameOf x.p (pLog (x.n + 1))) []).1) (t' := (ti.append (nameOf x.p (pLog (x.n + 1))) []).2) rfl n0 n1⟩
      · exact ⟨Nat.le_trans (remove_acts ti (nameOf x.p (pLog x.n))) (by omega), mo2 W w.heap.size hs.bo hp (by omega) (by omega) z0 (r := (ti.remove (nameOf x.p (pLog x.n))).1) (t' := (ti.remove (nameOf x.p (pLog x.n))).2) rfl n0⟩
      · by_cases hz : x.n = 0
        · have e : third x.p x.n ti = (0, ti) := if_pos hz
          show (third x.p x.n ti).2.acts ≤ t.acts + 3 ∧ Calls Tryz.prog 75 #[ptr w.heap.size] W fun e W' => e = .returned (.int .i64 (third x.p x.n ti).1) ∧ ∃ g', BStep B lb W W' gi g' x x (third x.p x.n ti).2
          rw [e]
          refine ⟨by simp only; omega, (mo3_0 W w.heap.size lb hs.bo.log hz z0).mono ?_⟩
          rintro e W' ⟨rfl, rfl⟩
          exact ⟨rfl, gi, hs.bo.same (Below.refl _ _)⟩
        · have e : third x.p x.n ti = ti.remove (nameOf x.p (pSnap x.n)) := if_neg hz
          show (third x.p x.n ti).2.acts ≤ t.acts + 3 ∧ Calls Tryz.prog 75 #[ptr w.heap.size] W fun e W' => e = .returned (.int .i64 (third x.p x.n ti).1) ∧ ∃ g', BStep B lb W W' gi g' x x (third x.p x.n ti).2
          rw [e]
          exact ⟨Nat.le_trans (remove_acts ti (nameOf x.p (pSnap x.n))) (by omega), mo3 W w.heap.size hs.bo hp (by omega) (by omega) (by omega) z0 (r := (ti.remove (nameOf x.p (pSnap x.n))).1) (t' := (ti.remove (nameOf x.p (pSnap x.n))).2) rfl n0⟩) hr
  have fin : Hid (∀ w' g', BStep B lb WS w' g g' x x t' → BStep B lb w w' g g' x x t') := fun w' g' hs => (h.same lowS).trans hs
  replace hin := hid hin
  clear h hS x0 x1 y0 y1 fS bV bS lowS nf hlt hr
  unfold ptr
  go_enter Tryz.func41, Tryz.ntmps41
  go_wp2_with fail
  refine hin.out.mono ?_
  rintro e w1 ⟨rfl, g', hs⟩
  replace hs := hid (fin.out w1 g' hs)
  go_wp2
  go_ret
  exact ⟨rfl, g', hs.out⟩
theorem append_good {p : List UInt8} {q : Part} (hq : q.ok) {t : St} (bs : List UInt8) (h : Good p (namesOf t)) : Good p (namesOf (t.append (nameOf p q) bs).2) := h.one hq (append_nm t (nameOf p q) bs)
set_option maxRecDepth 100000 in
set_option maxHeartbeats 4000000 in
theorem write_any (w : World) {B lb : Nat} {g : Gs} {t : St} {x : Lg} (h : Bo B w lb g t x) (hgood : Good x.p (namesOf t)) (hp : x.p.length ≤ 16) (hn : x.n + 1 < 100) (ha : t.acts + 10 < 4611686018427387904) (a : Option Addr) (c : Nat) (bs : List UInt8) (hv : Frm.Own 0 w (.slice a (enc bs).length c) (ints (enc bs))) (hvf : ∀ b, (Value.slice a (enc bs).length c).ownBlock = some b → ¬ foot x.sb g b ∧ b ≠ lb) {r : Int} {t' : St} (hr : seqA (writeL x.p x.n bs) t = (r, t')) :
    Calls Tryz.prog 40 #[ptr lb, .slice a (enc bs).length c, .int .i64 ((x.n : Int) + 1)] w fun e w' => e = .returned (.int .i64 r) ∧ ∃ g', BStep B lb w w' g g' x x t' := by
  obtain ⟨V, hV⟩ : ∃ V, ((w.alloc (.cells #[.pointer (some ⟨lb, 0, none⟩)] 24)).alloc (.cells #[.slice a (enc bs).length c] 22)).alloc (.cells #[.int .i64 ((x.n : Int) + 1)] 3) = V := ⟨_, rfl⟩
  obtain ⟨V1, hV1⟩ : ∃ V1, V.alloc (.cells #[.string (⟨x.p.toArray⟩ ++ ⟨#[110, 101, 119]⟩)] 9) = V1 := ⟨_, rfl⟩
  obtain ⟨WS, hWS⟩ : ∃ WS, V1.alloc (.cells #[.func (.func 68) #[] #[.pointer (some ⟨w.heap.size, 0, none⟩)], .func (.func 69) #[] #[.pointer (some ⟨w.heap.size, 0, none⟩), .pointer (some ⟨w.heap.size + 3, 0, none⟩), .pointer (some ⟨w.heap.size + 1, 0, none⟩)], .func (.func 70) #[] #[.pointer (some ⟨w.heap.size, 0, none⟩), .pointer (some ⟨w.heap.size + 3, 0, none⟩)], .func (.func 71) #[] #[.pointer (some ⟨w.heap.size, 0, none⟩), .pointer (some ⟨w.heap.size + 3, 0, none⟩), .pointer (some ⟨w.heap.size + 1 + 1, 0, none⟩)]] 36) = WS := ⟨_, rfl⟩
  have sV : V.heap.size = w.heap.size + 3 := by rw [← hV]; simp
  have bV : Below w.heap.size w V := by rw [← hV]; exact (((Below.refl _ w).alloc (Nat.le_refl _) _).alloc (by simp) _).alloc (by simp; omega) _
  have x0 : Boxed V w.heap.size 24 (ptr lb) := by rw [← hV]; exact ((Boxed.new w _ _).alloc _).alloc _
  have x1 : Boxed V (w.heap.size + 1) 22 (.slice a (enc bs).length c) := by
    rw [← hV]
    have := (Boxed.new (w.alloc (.cells #[.pointer (some ⟨lb, 0, none⟩)] 24)) 22 (.slice a (enc bs).length c)).alloc (.cells #[.int .i64 ((x.n : Int) + 1)] 3)
    rwa [World.size_alloc] at this
  have x2 : Boxed V (w.heap.size + 2) 3 (.int .i64 ((x.n + 1 : Nat) : Int)) := by
    rw [← hV]
    have := Boxed.new ((w.alloc (.cells #[.pointer (some ⟨lb, 0, none⟩)] 24)).alloc (.cells #[.slice a (enc bs).length c] 22)) 3 (.int .i64 ((x.n : Int) + 1))
    rw [World.size_alloc, World.size_alloc] at this
    rw [show ((x.n + 1 : Nat) : Int) = (x.n : Int) + 1 by omega]
    exact this
  have bV1 : Below V.heap.size V V1 := by rw [← hV1]; exact alloc_low _ _
  have sV1 : V1.heap.size = w.heap.size + 4 := by rw [← hV1]; simp; omega
  have x3 : Boxed V1 (w.heap.size + 3) 9 (str (nameOf x.p pNew)) := by
    rw [← hV1, ← sV]
    have := Boxed.new V 9 (.string (⟨x.p.toArray⟩ ++ ⟨#[110, 101, 119]⟩))
    rw [show (⟨#[110, 101, 119]⟩ : ByteArray) = ⟨kNew.toArray⟩ from rfl, bytes_app] at this
    unfold nameOf str
    rw [text_new]
    exact this
  have bS1 : Below V1.heap.size V1 WS := by rw [← hWS]; exact alloc_low _ _
  have sS : WS.heap.size = w.heap.size + 5 := by rw [← hWS]; simp; omega
  have bS : Below V.heap.size V WS := bV1.trans (bS1.mono bV1.size)
  have y0 : WS.cell? ⟨w.heap.size, 0, none⟩ = some (ptr lb) := ((bS.block _ x0.lt).trans x0 : WS.heap[w.heap.size]? = _) |> fun e => (cell_of e 0).trans rfl
  have y1 : WS.cell? ⟨w.heap.size + 1, 0, none⟩ = some (.slice a (enc bs).length c) := ((bS.block _ x1.lt).trans x1 : WS.heap[w.heap.size + 1]? = _) |> fun e => (cell_of e 0).trans rfl
  have y2 : WS.cell? ⟨w.heap.size + 2, 0, none⟩ = some (.int .i64 ((x.n + 1 : Nat) : Int)) := ((bS.block _ x2.lt).trans x2 : WS.heap[w.heap.size + 2]? = _) |> fun e => (cell_of e 0).trans rfl
  have y3 : WS.cell? ⟨w.heap.size + 3, 0, none⟩ = some (str (nameOf x.p pNew)) := ((bS1.block _ x3.lt).trans x3 : WS.heap[w.heap.size + 3]? = _) |> fun e => (cell_of e 0).trans rfl
  have fS : WS.heap[w.heap.size + 4]? = some (.cells #[.func (.func 68) #[] #[ptr w.heap.size], .func (.func 69) #[] #[ptr w.heap.size, ptr (w.heap.size + 3), ptr (w.heap.size + 1)], .func (.func 70) #[] #[ptr w.heap.size, ptr (w.heap.size + 3)], .func (.func 71) #[] #[ptr w.heap.size, ptr (w.heap.size + 3), ptr (w.heap.size + 2)]] 36) := by rw [← hWS, ← sV1]; exact (MapKept.heap_alloc V1 _).1
  have lowS : Below w.heap.size w WS := bV.trans (bS.mono bV.size)
  have hS := h.below lowS
  have hlt := h.log.lt
  have nf : ∀ b, w.heap.size ≤ b → ¬ foot x.sb g b := fun b h1 h2 => by have := h.is.1.lt h2; omega
  have hlen := nameOf_len ok_new hp
  have hml : (nameOf x.p pNew).length ≤ maxLen := by unfold maxLen; omega
  have hin := order_any WS (w.heap.size + 4) 4 (by omega) (fun i => match i with | 0 => 68 | 1 => 69 | 2 => 70 | _ => 71) (fun i => match i with | 0 => #[ptr w.heap.size] | 1 => #[ptr w.heap.size, ptr (w.heap.size + 3), ptr (w.heap.size + 1)] | 2 => #[ptr w.heap.size, ptr (w.heap.size + 3)] | _ => #[ptr w.heap.size, ptr (w.heap.size + 3), ptr (w.heap.size + 2)])
    (fun i hi => by
      rcases (show i = 0 ∨ i = 1 ∨ i = 2 ∨ i = 3 by omega) with rfl | rfl | rfl | rfl
      · exact enters_of Tryz.func68 (by kernel_rfl) rfl
      · exact enters_of Tryz.func69 (by kernel_rfl) rfl
      · exact enters_of Tryz.func70 (by kernel_rfl) rfl
      · exact enters_of Tryz.func71 (by kernel_rfl) rfl)
    (writeL x.p x.n bs) rfl (fun i ti => ti.acts ≤ t.acts + i ∧ (i = 0 → Good x.p (namesOf ti))) hS ⟨Nat.le_refl _, fun _ => hgood⟩
    (fun i W gi ti hi hs => by
      have e : W.heap[w.heap.size + 4]? = WS.heap[w.heap.size + 4]? := hs.kept.block _ (by omega) (fun hb => hb.elim (nf _ (by omega)) (by omega))
      rw [cell_of (e.trans fS)]
      rcases (show i = 0 ∨ i = 1 ∨ i = 2 ∨ i = 3 by omega) with rfl | rfl | rfl | rfl <;> rfl)
    (fun i hi W gi ti hs hc => by
      have hi3 : i < 4 := hi
      have z0 := kc_of hs y0 (nf _ (Nat.le_refl _)) (by omega)
      have z1 := kc_of hs y1 (nf _ (by omega)) (by omega)
      have z2 := kc_of hs y2 (nf _ (by omega)) (by omega)
      have z3 := kc_of hs y3 (nf _ (by omega)) (by omega)
      have n0 := nf_of hs rfl (nf w.heap.size (Nat.le_refl _)) (by omega)
      have n2 := nf_of hs rfl (nf (w.heap.size + 2) (by omega)) (by omega)
      have n3 := nf_of hs rfl (nf (w.heap.size + 3) (by omega)) (by omega)
      have cs := (hs.bo.log.cells).1
      have hdr := hs.bo.below ((Below.refl _ W).drew)
      have stdr := hs.bo.same ((Below.refl _ W).drew)
      rcases (show i = 0 ∨ i = 1 ∨ i = 2 ∨ i = 3 by omega) with rfl | rfl | rfl | rfl
      · refine ⟨⟨Nat.le_trans (dropNew_good (hc.2 rfl) (show dropNewA x.p ti = ((dropNewA x.p ti).1, (dropNewA x.p ti).2) from rfl)).2 (by have := hc.1; omega), fun h => by omega⟩, (ws1 W w.heap.size lb (fun r' W' => r' = (dropNewA x.p ti).1 ∧ ∃ g', BStep B lb W W' gi g' x x (dropNewA x.p ti).2) z0 ((dropNew_any W hs.bo (hc.2 rfl) hp (by have := hc.1; omega) (r := (dropNewA x.p ti).1) (t' := (dropNewA x.p ti).2) rfl).mono (fun e W' h => ⟨_, h.1, rfl, h.2⟩))).mono ?_⟩
        rintro e W' ⟨r', rfl, rfl, h2⟩
        exact ⟨rfl, h2⟩
      · have ow : Frm.Own 0 W (.slice a (enc bs).length c) (ints (enc bs)) := by
          have o1 := hv.below lowS
          exact o1.keep fun b hb => hs.kept.block b (o1.lt hb).2 (fun hf => hf.elim (hvf b hb).1 (hvf b hb).2)
        have ow' : IsB W.drew (.slice a (enc bs).length c) (enc bs) := isB_ints (ow.below ((Below.refl _ W).drew)).isB
        refine ⟨⟨Nat.le_trans (append_acts ti (nameOf x.p pNew) (enc bs)) (by have := hc.1; omega), fun h => by omega⟩, (ws2 W w.heap.size (w.heap.size + 3) (w.heap.size + 1) lb x.sb (nameOf x.p pNew) a (enc bs).length c (fun r' W' => r' = (ti.append (nameOf x.p pNew) (enc bs)).1 ∧ ∃ g', BStep B lb W W' gi g' x x (ti.append (nameOf x.p pNew) (enc bs)).2) z0 cs z3 z1 ((append_t W.drew hdr.is (nameOf x.p pNew) (by omega) _ (enc bs) ow' (by have := hc.1; omega) (r := (ti.append (nameOf x.p pNew) (enc bs)).1) (t' := (ti.append (nameOf x.p pNew) (enc bs)).2) rfl).mono (fun e W' h => ⟨_, h.1, rfl, by obtain ⟨g', h1, h2⟩ := h.2; exact ⟨g', stdr.trans (hdr.step h1 h2)⟩⟩))).mono ?_⟩
        rintro e W' ⟨r', rfl, rfl, h2⟩
        exact ⟨rfl, h2⟩
      · refine ⟨⟨Nat.le_trans (sync_acts ti (nameOf x.p pNew)) (by have := hc.1; omega), fun h => by omega⟩, (ws3 W w.heap.size (w.heap.size + 3) lb x.sb (nameOf x.p pNew) (fun r' W' => r' = (ti.sync (nameOf x.p pNew)).1 ∧ ∃ g', BStep B lb W W' gi g' x x (ti.sync (nameOf x.p pNew)).2) z0 cs z3 ((sync_t W.drew hdr.is (nameOf x.p pNew) hml (by have := hc.1; omega) (r := (ti.sync (nameOf x.p pNew)).1) (t' := (ti.sync (nameOf x.p pNew)).2) rfl).mono (fun e W' h => ⟨_, h.1, rfl, by obtain ⟨g', h1, h2⟩ := h.2; exact ⟨g', stdr.trans (hdr.step h1 h2)⟩⟩))).mono ?_⟩
        rintro e W' ⟨r', rfl, rfl, h2⟩
        exact ⟨rfl, h2⟩
      · exact ⟨⟨Nat.le_trans (rename_acts ti (nameOf x.p pNew) (nameOf x.p (pSnap (x.n + 1)))) (by have := hc.1; omega), fun h => by omega⟩, ws4 W w.heap.size (w.heap.size + 3) (w.heap.size + 2) hs.bo hp (nameOf x.p pNew) hml (x.n + 1) (by omega) hn (by have := hc.1; omega) z0 z3 z2 (r := (ti.rename (nameOf x.p pNew) (nameOf x.p (pSnap (x.n + 1)))).1) (t' := (ti.rename (nameOf x.p pNew) (nameOf x.p (pSnap (x.n + 1)))).2) rfl n0 n3 n2⟩) hr
  have fin : Hid (∀ w' g', BStep B lb WS w' g g' x x t' → BStep B lb w w' g g' x x t') := fun w' g' hs => (h.same lowS).trans hs
  have cl : V.cell? ⟨w.heap.size, 0, none⟩ = some (.pointer (some ⟨lb, 0, none⟩)) := x0.cell
  have cp : V.cell? ⟨lb, 1, none⟩ = some (.string ⟨x.p.toArray⟩) := ((h.log.below bV).cells).2.1
  replace hin := hid hin
  clear h hS x0 x1 x2 x3 y0 y1 y2 y3 fS bV bV1 bS1 bS lowS nf hr hv hvf
  unfold ptr
  generalize (enc bs).length = ml at *
  go_enter Tryz.func40, Tryz.ntmps40
  go_wp2_with fail
  refine hin.out.mono ?_
  rintro e w1 ⟨rfl, g', hs⟩
  replace hs := hid (fin.out w1 g' hs)
  go_wp2
  go_ret
  exact ⟨rfl, g', hs.out⟩
end Go.Proofs.YtihgikekkgoddaaGreatDoor
