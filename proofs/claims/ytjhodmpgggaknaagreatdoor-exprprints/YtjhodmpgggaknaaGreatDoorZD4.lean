import Derived.Test.YtjhodmpgggaknaaGreatDoorZHC
/- Contract of the document's own longest: the longest token at a place. -/
namespace Go.Proofs.YtjhodmpgggaknaaGreatDoor
open Go.RowKit Go.Shelf

/-- a token of the document in its cells. -/
def dcells (k : Nat) (x : Tx) (p q : Nat) : Array Value := #[.int .u8 (k : Int), .string ⟨x.toArray⟩, .int .i64 (p : Int), .int .i64 (q : Int)]
def zcells : Array Value := #[.int .u8 0, .string ⟨#[]⟩, .int .i64 0, .int .i64 0]
/-- the token that has the first so many bytes of what stands at a place. -/
def ocells (c : UInt8) (r : Tx) (p o : Nat) : Array Value := if o = 0 then zcells else dcells (kd c) (r.take o) p (p + o)
theorem take_quote {r v t : Tx} (h : takeV r = some (v, t)) : r = quote v ++ t ∧ r.take (quote v).length = quote v ∧ r.length - t.length = (quote v).length := by
  have e := takeV_inv h
  refine ⟨e, ?_, ?_⟩
  · rw [e, List.take_left]
  · rw [e]; simp
theorem quote_vlc (v : Tx) : (quote v).all vlc = v.all vlc := by
  have h : ∀ v : Tx, (esc v).all vlc = v.all vlc := fun v => by
    induction v with
    | nil => rfl
    | cons c v ih =>
      rw [esc_cons, List.all_append, ih, List.all_cons]
      congr 1
      unfold esc1
      cases hc : spc c
      · simp
      · rw [if_pos rfl]
        rcases spc_or hc with rfl | rfl <;> decide
  unfold quote
  rw [List.all_cons, List.all_append, h]
  cases v.all vlc <;> rfl
theorem first_quoted {t : Tx} : first (34 :: t) = match takeV (34 :: t) with
    | none => none
    | some p => if p.1.all vlc then some (3, p.1, (quote p.1).length) else none := by
  have e : takeV (34 :: t) = unq [] t := by rw [takeV, if_pos rfl]
  rw [e]
  cases hu : unq [] t with
  | none =>
    refine first_text_none ?_
    cases hp : unqP [] t with
    | none => rfl
    | some p =>
      obtain ⟨v, r⟩ := p
      have := unq_iff.2 (unqP_iff.1 hp).1
      rw [hu] at this; cases this
  | some p =>
    obtain ⟨v, r⟩ := p
    have hv := unq_iff.1 hu
    simp only []
    cases ha : v.all vlc
    · simp only [Bool.false_eq_true, if_false]
      refine first_text_none ?_
      cases hp : unqP [] t with
      | none => rfl
      | some p =>
        obtain ⟨v', r'⟩ := p
        obtain ⟨h1, h2⟩ := unqP_iff.1 hp
        have := unq_iff.2 h1
        rw [hu] at this
        cases this
        rw [List.all_eq_true.2 h2] at ha
        cases ha
    · simp only [if_true]
      have := (Shape.text (v := v) (r := r) (fun c hc => List.all_eq_true.1 ha c hc)).first
      rw [show (34 :: t : Tx) = quote v ++ r by rw [hv]; simp [quote]]
      exact this
/-- the world with the two boxes: the answer's, the token's. -/
structure Two (w : World) (X : World) (cs : Array Value) : Prop where
  low : Below w.heap.size w X
  out : X.heap[w.heap.size + 1]? = some (.cells cs 50)
  res : X.heap[w.heap.size]? = some (.cells zcells 50)
theorem Two.below {w X Y : World} {cs : Array Value} (h : Two w X cs) (hb : Below X.heap.size X Y) : Two w Y cs :=
  ⟨low' h.low hb, (hb.block _ (lt_of_block h.out)).trans h.out, (hb.block _ (lt_of_block h.res)).trans h.res⟩
theorem set4 {X : World} {b : Nat} {c0 c1 c2 c3 v0 v1 v2 v3 : Value} {t : TypeId} (h : X.heap[b]? = some (.cells #[c0, c1, c2, c3] t)) :
    ((((X.setCell ⟨b, 0, none⟩ v0).setCell ⟨b, 1, none⟩ v1).setCell ⟨b, 2, none⟩ v2).setCell ⟨b, 3, none⟩ v3).heap[b]? = some (.cells #[v0, v1, v2, v3] t) := by
  have h0 := heap_set_at h v0 (o := 0)
  have h1 := heap_set_at h0 v1 (o := 1)
  have h2 := heap_set_at h1 v2 (o := 2)
  have h3 := heap_set_at h2 v3 (o := 3)
  simpa using h3
theorem Two.set {w X : World} {c0 c1 c2 c3 : Value} (v0 v1 v2 v3 : Value) (h : Two w X #[c0, c1, c2, c3]) :
    Two w ((((X.setCell ⟨w.heap.size + 1, 0, none⟩ v0).setCell ⟨w.heap.size + 1, 1, none⟩ v1).setCell ⟨w.heap.size + 1, 2, none⟩ v2).setCell ⟨w.heap.size + 1, 3, none⟩ v3) #[v0, v1, v2, v3] :=
  ⟨(((h.low.setCell (p := ⟨w.heap.size + 1, 0, none⟩) (by simp) _).setCell (p := ⟨w.heap.size + 1, 1, none⟩) (by simp) _).setCell (p := ⟨w.heap.size + 1, 2, none⟩) (by simp) _).setCell (p := ⟨w.heap.size + 1, 3, none⟩) (by simp) _,
   set4 h.out, (heap_set _ _ _ _ _ (by omega)).trans ((heap_set _ _ _ _ _ (by omega)).trans ((heap_set _ _ _ _ _ (by omega)).trans ((heap_set _ _ _ _ _ (by omega)).trans h.res)))⟩
/-- the answer laid. -/
theorem Two.told {w X : World} {cs : Array Value} (v0 v1 v2 v3 : Value) (h : Two w X cs) :
    ((((X.setCell ⟨w.heap.size, 0, none⟩ v0).setCell ⟨w.heap.size, 1, none⟩ v1).setCell ⟨w.heap.size, 2, none⟩ v2).setCell ⟨w.heap.size, 3, none⟩ v3).heap[w.heap.size]? = some (.cells #[v0, v1, v2, v3] 50) ∧
    Below w.heap.size w ((((X.setCell ⟨w.heap.size, 0, none⟩ v0).setCell ⟨w.heap.size, 1, none⟩ v1).setCell ⟨w.heap.size, 2, none⟩ v2).setCell ⟨w.heap.size, 3, none⟩ v3) :=
  ⟨set4 h.res, (((h.low.setCell (p := ⟨w.heap.size, 0, none⟩) (by simp) _).setCell (p := ⟨w.heap.size, 1, none⟩) (by simp) _).setCell (p := ⟨w.heap.size, 2, none⟩) (by simp) _).setCell (p := ⟨w.heap.size, 3, none⟩) (by simp) _⟩
theorem lg_le (r : Tx) : ∀ e, lg r e ≤ e
  | 0 => Nat.le_refl _
  | e + 1 => by
    have := lg_le r e
    rw [lg]
    split <;> omega
def longR : Option (Nat × Tx × Nat) → Nat → Value
  | none, _ => .agg zcells
  | some p, q => .agg (dcells p.1 p.2.1 q (q + p.2.2))
set_option maxRecDepth 100000 in
set_option maxHeartbeats 4000000 in
theorem longest_any (s : Tx) (p : Nat) (hp : p < s.length) (hs : s.length ≤ 35184372088832) (w : World) : Calls Tryz.prog 39 #[.string ⟨s.toArray⟩, .int .i64 (p : Int)] w fun e w' => e = .returned (longR (first (s.drop p)) p) ∧ Below w.heap.size w w' := by
  have hget := get_at hp
  have hdr := drop_at hp
  obtain ⟨c, hcd⟩ : ∃ c, c = s.getD p 0 := ⟨_, rfl⟩
  rw [← hcd] at hget hdr
  clear hcd
  have hp' : (p : Int) < (s.length : Int) := by omega
  obtain ⟨w1, hw1⟩ : ∃ w1, (w.alloc (.cells zcells 50)).alloc (.cells zcells 50) = w1 := ⟨_, rfl⟩
  have T0 : Two w w1 zcells := by
    rw [← hw1]
    refine ⟨((Below.refl _ w).alloc (Nat.le_refl _) _).alloc (by simp) _, ?_, (Below.heap_alloc _ _ _ (by simp)).trans (new_block w _)⟩
    have := new_block (w.alloc (.cells zcells 50)) (.cells zcells 50)
    rwa [World.size_alloc] at this
  replace hw1 : (w.alloc (.cells #[.int .u8 0, .string ⟨#[]⟩, .int .i64 0, .int .i64 0] 50)).alloc (.cells #[.int .u8 0, .string ⟨#[]⟩, .int .i64 0, .int .i64 0] 50) = w1 := hw1
  by_cases h34 : c.toNat = 34
  · have hc : c = 34 := UInt8.toNat_inj.1 h34
    have t1 : ((c.toNat : Int) == 34) = true := by simp; omega
    have hfq := first_quoted (t := s.drop (p + 1))
    have e1 := ext_from s p s.length rfl
    have hrl : (s.drop p).length = s.length - p := by simp
    rw [hc] at hdr
    rw [← hdr] at hfq
    have c3 : (0 : Int) ≤ (p : Int) := by omega
    have c4 : (p : Int) ≤ (s.length : Int) := by omega
    have hqu := hid (fun W => quoted_any (s.drop p) W (by omega))
    have hext := hid (fun n => (show (⟨s.toArray⟩ : ByteArray).extract p (p + n) = ⟨((s.drop p).take n).toArray⟩ by rw [ext_str, part_of]))
    have hT1 : Hid (Two w w1 #[.int .u8 0, .string ⟨#[]⟩, .int .i64 0, .int .i64 0]) := T0
    clear T0 hdr hc h34
    obtain ⟨r, hr⟩ : ∃ r, r = s.drop p := ⟨_, rfl⟩
    rw [← hr] at hfq e1 hrl hqu hext ⊢
    clear hr
    have x0 : w1.cell? ⟨w.heap.size + 1, 0, none⟩ = some (.int .u8 0) := cell_of hT1.out.out 0
    have f0 := frozen_of hT1.out.out 0
    have x1 : w1.cell? ⟨w.heap.size + 1, 1, none⟩ = some (.string ⟨#[]⟩) := cell_of hT1.out.out 1
    have f1 := frozen_of hT1.out.out 1
    have x2 : w1.cell? ⟨w.heap.size + 1, 2, none⟩ = some (.int .i64 0) := cell_of hT1.out.out 2
    have f2 := frozen_of hT1.out.out 2
    have x3 : w1.cell? ⟨w.heap.size + 1, 3, none⟩ = some (.int .i64 0) := cell_of hT1.out.out 3
    have f3 := frozen_of hT1.out.out 3
    have y0 := cell_of hT1.out.res 0
    have g0 := frozen_of hT1.out.res 0
    have y1 := cell_of hT1.out.res 1
    have g1 := frozen_of hT1.out.res 1
    have y2 := cell_of hT1.out.res 2
    have g2 := frozen_of hT1.out.res 2
    have y3 := cell_of hT1.out.res 3
    have g3 := frozen_of hT1.out.res 3
    simp [zcells] at y0 y1 y2 y3
    cases htv : takeV r with
    | none =>
      rw [htv] at hfq hqu
      have hans : Hid (Ending.returned (.agg #[.int .u8 0, .string ⟨#[]⟩, .int .i64 0, .int .i64 0]) = Ending.returned (longR (first r) p)) := by
        unfold Hid
        rw [hfq]
        rfl
      simp only [quotedV] at hqu
      unfold str at hqu
      clear hfq htv hext
      go_enter Tryz.func39, Tryz.ntmps39
      go_wp2_with fail
      refine (hqu.out _).mono ?_
      rintro e w' ⟨rfl, hw'⟩
      have hw2 := hw'.symm
      subst hw2
      obtain ⟨hb4, hl4⟩ := hT1.out.told (.int .u8 0) (.string ⟨#[]⟩) (.int .i64 0) (.int .i64 0)
      obtain ⟨Z, hZ⟩ : ∃ Z, (((w1.setCell ⟨w.heap.size, 0, none⟩ (.int .u8 0)).setCell ⟨w.heap.size, 1, none⟩ (.string ⟨#[]⟩)).setCell ⟨w.heap.size, 2, none⟩ (.int .i64 0)).setCell ⟨w.heap.size, 3, none⟩ (.int .i64 0) = Z := ⟨_, rfl⟩
      rw [hZ] at hb4 hl4
      have r0 := cell_of hb4 0
      have r1 := cell_of hb4 1
      have r2 := cell_of hb4 2
      have r3 := cell_of hb4 3
      simp at r0 r1 r2 r3
      replace hl4 := hid hl4
      clear hb4
      go_wp2
      try rw [hZ]
      refine bodyPost_ret (v := .agg #[.int .u8 0, .string ⟨#[]⟩, .int .i64 0, .int .i64 0]) ?_ rfl ⟨hans.out, hl4.out⟩
      simp [results, Tryz.f39, go_sem, r0, r1, r2, r3]
    | some q =>
      obtain ⟨v, rest⟩ := q
      rw [htv] at hfq hqu
      obtain ⟨hre, htk, hln⟩ := take_quote htv
      have hqp : 0 < (quote v).length := by unfold quote; simp
      have hrest : (quote v).length ≤ r.length := by rw [hre]; simp
      simp only [quotedV] at hqu
      rw [hln] at hqu
      have e2 := hext.out (quote v).length
      rw [htk] at e2
      have hpl := hid (plain_any (quote v) (by omega))
      rw [quote_vlc] at hpl
      generalize hn : (quote v).length = n at *
      replace hn := hid hn
      have t2 : (0 : Int) < (n : Int) := by omega
      have c5 : IntKind.i64.wrap ((p : Int) + (n : Int)) = (p : Int) + (n : Int) := by rw [IntKind.wrap_i64]; omega
      have c6 : (p : Int) ≤ (p : Int) + (n : Int) := by omega
      have c7 : (p : Int) + (n : Int) ≤ (s.length : Int) := by omega
      unfold str at hqu hpl
      simp only [] at hfq
      clear htv hext hre htk hln
      generalize quote v = qv at *
      cases ha : v.all vlc with
      | true =>
        rw [ha] at hfq hpl
        have hans : Hid (Ending.returned (.agg #[.int .u8 3, .string ⟨v.toArray⟩, .int .i64 (p : Int), .int .i64 ((p : Int) + (n : Int))]) = Ending.returned (longR (first r) p)) := by
          unfold Hid
          rw [hfq, if_pos rfl, hn.out]
          rfl
        obtain ⟨X, hX⟩ : ∃ X, (((w1.setCell ⟨w.heap.size + 1, 0, none⟩ (.int .u8 3)).setCell ⟨w.heap.size + 1, 1, none⟩ (.string ⟨v.toArray⟩)).setCell ⟨w.heap.size + 1, 2, none⟩ (.int .i64 (p : Int))).setCell ⟨w.heap.size + 1, 3, none⟩ (.int .i64 ((p : Int) + (n : Int))) = X := ⟨_, rfl⟩
        have T3 := hid (hT1.out.set (.int .u8 3) (.string ⟨v.toArray⟩) (.int .i64 (p : Int)) (.int .i64 ((p : Int) + (n : Int))))
        rw [hX] at T3
        clear hfq ha hn
        have x0' : X.cell? ⟨w.heap.size + 1, 0, none⟩ = some (.int .u8 3) := cell_of T3.out.out 0
        have x1' : X.cell? ⟨w.heap.size + 1, 1, none⟩ = some (.string ⟨v.toArray⟩) := cell_of T3.out.out 1
        have x2' : X.cell? ⟨w.heap.size + 1, 2, none⟩ = some (.int .i64 (p : Int)) := cell_of T3.out.out 2
        have x3' : X.cell? ⟨w.heap.size + 1, 3, none⟩ = some (.int .i64 ((p : Int) + (n : Int))) := cell_of T3.out.out 3
        have y0' := cell_of T3.out.res 0
        have g0' := frozen_of T3.out.res 0
        have y1' := cell_of T3.out.res 1
        have g1' := frozen_of T3.out.res 1
        have y2' := cell_of T3.out.res 2
        have g2' := frozen_of T3.out.res 2
        have y3' := cell_of T3.out.res 3
        have g3' := frozen_of T3.out.res 3
        simp [zcells] at y0' y1' y2' y3'
        go_enter Tryz.func39, Tryz.ntmps39
        go_wp2_with fail
        refine (hqu.out _).mono ?_
        rintro e w' ⟨rfl, hw'⟩
        have hw2 := hw'.symm
        subst hw2
        obtain ⟨hb4, hl4⟩ := T3.out.told (.int .u8 3) (.string ⟨v.toArray⟩) (.int .i64 (p : Int)) (.int .i64 ((p : Int) + (n : Int)))
        obtain ⟨Z, hZ⟩ : ∃ Z, (((X.setCell ⟨w.heap.size, 0, none⟩ (.int .u8 3)).setCell ⟨w.heap.size, 1, none⟩ (.string ⟨v.toArray⟩)).setCell ⟨w.heap.size, 2, none⟩ (.int .i64 (p : Int))).setCell ⟨w.heap.size, 3, none⟩ (.int .i64 ((p : Int) + (n : Int))) = Z := ⟨_, rfl⟩
        rw [hZ] at hb4 hl4
        have r0 := cell_of hb4 0
        have r1 := cell_of hb4 1
        have r2 := cell_of hb4 2
        have r3 := cell_of hb4 3
        simp at r0 r1 r2 r3
        replace hl4 := hid hl4
        clear hb4
        go_wp2_with (go_at_call 59; refine (hpl.out _).mono ?_; rintro e w' ⟨rfl, hw'⟩; have hw2 := hw'.symm; subst hw2)
        try rw [hX]
        try rw [hZ]
        refine bodyPost_ret (v := .agg #[.int .u8 3, .string ⟨v.toArray⟩, .int .i64 (p : Int), .int .i64 ((p : Int) + (n : Int))]) ?_ rfl ⟨hans.out, hl4.out⟩
        simp [results, Tryz.f39, go_sem, r0, r1, r2, r3]
      | false =>
        rw [ha] at hfq hpl
        have hans : Hid (Ending.returned (.agg #[.int .u8 0, .string ⟨#[]⟩, .int .i64 0, .int .i64 0]) = Ending.returned (longR (first r) p)) := by
          unfold Hid
          rw [hfq]
          rfl
        clear hfq ha hn
        go_enter Tryz.func39, Tryz.ntmps39
        go_wp2_with fail
        refine (hqu.out _).mono ?_
        rintro e w' ⟨rfl, hw'⟩
        have hw2 := hw'.symm
        subst hw2
        obtain ⟨hb4, hl4⟩ := hT1.out.told (.int .u8 0) (.string ⟨#[]⟩) (.int .i64 0) (.int .i64 0)
        obtain ⟨Z, hZ⟩ : ∃ Z, (((w1.setCell ⟨w.heap.size, 0, none⟩ (.int .u8 0)).setCell ⟨w.heap.size, 1, none⟩ (.string ⟨#[]⟩)).setCell ⟨w.heap.size, 2, none⟩ (.int .i64 0)).setCell ⟨w.heap.size, 3, none⟩ (.int .i64 0) = Z := ⟨_, rfl⟩
        rw [hZ] at hb4 hl4
        have r0 := cell_of hb4 0
        have r1 := cell_of hb4 1
        have r2 := cell_of hb4 2
        have r3 := cell_of hb4 3
        simp at r0 r1 r2 r3
        replace hl4 := hid hl4
        clear hb4
        go_wp2_with (go_at_call 59; refine (hpl.out _).mono ?_; rintro e w' ⟨rfl, hw'⟩; have hw2 := hw'.symm; subst hw2)
        try rw [hZ]
        refine bodyPost_ret (v := .agg #[.int .u8 0, .string ⟨#[]⟩, .int .i64 0, .int .i64 0]) ?_ rfl ⟨hans.out, hl4.out⟩
        simp [results, Tryz.f39, go_sem, r0, r1, r2, r3]
  · have hc : c ≠ 34 := fun e => h34 (by rw [e]; rfl)
    have t1 : ((c.toNat : Int) == 34) = false := by simp; omega
    obtain ⟨u, g, hgu, hg0, hul, hsh, hfi⟩ := shapes (c := c) (t := s.drop (p + 1)) hc
    rw [← hdr] at hul hsh hfi
    have hrl : (s.drop p).length = s.length - p := by simp
    obtain ⟨r, hr⟩ : ∃ r, r = s.drop p := ⟨_, rfl⟩
    rw [← hr] at hul hsh hfi hrl ⊢
    have hlg := hid (fun e (he : e ≤ r.length) => lg_eq (fun e h1 h2 => (hsh e h1 h2).1) hgu hg0 e he)
    have hov := hid (fun e (he : e ≤ r.length) => over_lg (fun e h1 h2 => (hsh e h1 h2).1) hgu hg0 he)
    have hki := hid (fun e (h1 : 1 ≤ e) (h2 : e ≤ r.length) => (hsh e h1 h2).2)
    have hext := hid (fun e => (show (⟨s.toArray⟩ : ByteArray).extract p (p + e) = ⟨(r.take e).toArray⟩ by rw [ext_str, part_of, hr]))
    have hlast : Hid (lg r r.length = u) := by
      unfold Hid
      have := hlg.out r.length (Nat.le_refl _)
      rw [this]
      split
      · omega
      · rfl
    replace hfi := hid hfi
    have hrl1 : 1 ≤ r.length := by omega
    clear hsh hdr hc h34 hr
    go_enter Tryz.func39, Tryz.ntmps39
    go_wp2
    clear hw1
    go_loopw [8] (fun ev wr => ∃ e : Nat, 1 ≤ e ∧ e ≤ r.length + 1 ∧ ev = .int .i64 ((p : Int) + (e : Int)) ∧ Hid (Two w wr (ocells c r p (lg r (e - 1))))) (fun ev _ => p + r.length + 2 - (intOf ev).toNat)
    case atStart => exact ⟨1, by omega, by omega, rfl, T0⟩
    case round =>
      obtain ⟨e, he1, he2, rfl, hT⟩ := hrel
      obtain ⟨V, rfl⟩ : ∃ V : World, V = wr := ⟨_, rfl⟩
      clear T0
      by_cases hlt : e ≤ r.length
      · have hlt' : (p : Int) + (e : Int) ≤ (s.length : Int) := by omega
        have c3 : (0 : Int) ≤ (p : Int) := by omega
        have c4 : (p : Int) ≤ (p : Int) + (e : Int) := by omega
        have c5 : IntKind.i64.wrap ((p : Int) + (e : Int) + 1) = (p : Int) + (e : Int) + 1 := by rw [IntKind.wrap_i64]; omega
        have e1 := hext.out e
        have hkc := hid (kind_any (r.take e) (by simp; omega) V)
        have hstep : lg r e = if good r e then e else lg r (e - 1) := by
          obtain ⟨n, rfl⟩ : ∃ n, e = n + 1 := ⟨e - 1, by omega⟩
          rfl
        have hover := hov.out e hlt
        have hkd : kd c ≠ 0 := by unfold kd; split <;> (try split) <;> omega
        generalize hkk : kd c = kc at *
        rcases hki.out e he1 hlt with hK | hK
        · have hgd : good r e = true := by unfold good; rw [hK]; simpa using hkd
          rw [hgd, if_pos rfl] at hstep
          rw [hK] at hkc
          obtain ⟨d0, d1, d2, d3, hcs⟩ : ∃ d0 d1 d2 d3, ocells c r p (lg r (e - 1)) = #[d0, d1, d2, d3] := by
            unfold ocells
            split
            · exact ⟨_, _, _, _, rfl⟩
            · exact ⟨_, _, _, _, rfl⟩
          rw [hcs] at hT
          have hnew : Hid (ocells c r p (lg r (e + 1 - 1)) = #[.int .u8 (kc : Int), .string ⟨(r.take e).toArray⟩, .int .i64 (p : Int), .int .i64 ((p : Int) + (e : Int))]) := by
            unfold Hid
            rw [Nat.add_sub_cancel, hstep]
            unfold ocells dcells
            rw [if_neg (by omega), hkk]
            congr 1
          have t2 : (0 : Int) < (kc : Int) := by omega
          have t3 : ((kc : Int) == 0) = false := by simp; omega
          unfold kindV at hkc
          generalize r.take e = xe at *
          clear hK hgd hstep hcs hover hov hlg hki hext hlast hkd hfi hkk
          go_wp2_with fail
          refine hkc.out.mono ?_
          rintro e' V2 ⟨rfl, hb2⟩
          have hT2 := hid (hT.out.below hb2)
          clear hT hb2 hkc
          have x0 : V2.cell? ⟨w.heap.size + 1, 0, none⟩ = some (d0) := cell_of hT2.out.out 0
          have f0 := frozen_of hT2.out.out 0
          have x1 : V2.cell? ⟨w.heap.size + 1, 1, none⟩ = some (d1) := cell_of hT2.out.out 1
          have f1 := frozen_of hT2.out.out 1
          have x2 : V2.cell? ⟨w.heap.size + 1, 2, none⟩ = some (d2) := cell_of hT2.out.out 2
          have f2 := frozen_of hT2.out.out 2
          have x3 : V2.cell? ⟨w.heap.size + 1, 3, none⟩ = some (d3) := cell_of hT2.out.out 3
          have f3 := frozen_of hT2.out.out 3
          have y0 := cell_of hT2.out.res 0
          have g0 := frozen_of hT2.out.res 0
          have y1 := cell_of hT2.out.res 1
          have g1 := frozen_of hT2.out.res 1
          have y2 := cell_of hT2.out.res 2
          have g2 := frozen_of hT2.out.res 2
          have y3 := cell_of hT2.out.res 3
          have g3 := frozen_of hT2.out.res 3
          simp [zcells] at y0 y1 y2 y3
          have hT3 := hid (hT2.out.set (.int .u8 (kc : Int)) (.string ⟨xe.toArray⟩) (.int .i64 (p : Int)) (.int .i64 ((p : Int) + (e : Int))))
          go_wp2
          exact ⟨⟨e + 1, by omega, by omega, by go_num, by rw [hnew.out]; exact hT3.out⟩, by simp [intOf]; omega⟩
        · have hgd : good r e = false := by unfold good; rw [hK]; simp
          rw [hgd, if_neg (by simp)] at hstep
          rw [hK] at hkc
          have hnew : Hid (lg r (e + 1 - 1) = lg r (e - 1)) := by unfold Hid; rw [Nat.add_sub_cancel, hstep]
          unfold over at hover
          rw [hstep] at hover
          have hol := lg_le r (e - 1)
          generalize lg r (e - 1) = o at *
          unfold kindV at hkc
          by_cases ho : o = 0
          · subst ho
            replace hT : Hid (Two w V #[.int .u8 0, .string ⟨#[]⟩, .int .i64 0, .int .i64 0]) := hT
            have c6 : IntKind.i64.wrap ((p : Int) + 2) = (p : Int) + 2 := by rw [IntKind.wrap_i64]; omega
            by_cases hbr : 2 < e
            · have t2 : (p : Int) + 2 < (p : Int) + (e : Int) := by omega
              have hu0 : 0 = u := hover (by simp [hbr])
              have hans : Hid (Ending.returned (.agg #[.int .u8 0, .string ⟨#[]⟩, .int .i64 0, .int .i64 0]) = Ending.returned (longR (first r) p)) := by
                unfold Hid
                rw [hfi.out, if_pos hu0.symm]
                rfl
              generalize r.take e = xe at *
              clear hK hgd hstep hover hov hlg hki hext hlast hkd hfi hkk hnew hbr hu0
              go_wp2_with fail
              refine hkc.out.mono ?_
              rintro e' V2 ⟨rfl, hb2⟩
              have hT2 := hid (hT.out.below hb2)
              clear hT hb2 hkc
              have x0 : V2.cell? ⟨w.heap.size + 1, 0, none⟩ = some (.int .u8 0) := cell_of hT2.out.out 0
              have f0 := frozen_of hT2.out.out 0
              have x1 : V2.cell? ⟨w.heap.size + 1, 1, none⟩ = some (.string ⟨#[]⟩) := cell_of hT2.out.out 1
              have f1 := frozen_of hT2.out.out 1
              have x2 : V2.cell? ⟨w.heap.size + 1, 2, none⟩ = some (.int .i64 0) := cell_of hT2.out.out 2
              have f2 := frozen_of hT2.out.out 2
              have x3 : V2.cell? ⟨w.heap.size + 1, 3, none⟩ = some (.int .i64 0) := cell_of hT2.out.out 3
              have f3 := frozen_of hT2.out.out 3
              have y0 := cell_of hT2.out.res 0
              have g0 := frozen_of hT2.out.res 0
              have y1 := cell_of hT2.out.res 1
              have g1 := frozen_of hT2.out.res 1
              have y2 := cell_of hT2.out.res 2
              have g2 := frozen_of hT2.out.res 2
              have y3 := cell_of hT2.out.res 3
              have g3 := frozen_of hT2.out.res 3
              simp [zcells] at y0 y1 y2 y3
              obtain ⟨hb4, hl4⟩ := hT2.out.told (.int .u8 0) (.string ⟨#[]⟩) (.int .i64 0) (.int .i64 0)
              obtain ⟨Z, hZ⟩ : ∃ Z, (((V2.setCell ⟨w.heap.size, 0, none⟩ (.int .u8 0)).setCell ⟨w.heap.size, 1, none⟩ (.string ⟨#[]⟩)).setCell ⟨w.heap.size, 2, none⟩ (.int .i64 0)).setCell ⟨w.heap.size, 3, none⟩ (.int .i64 0) = Z := ⟨_, rfl⟩
              rw [hZ] at hb4 hl4
              have r0 := cell_of hb4 0
              have r1 := cell_of hb4 1
              have r2 := cell_of hb4 2
              have r3 := cell_of hb4 3
              simp at r0 r1 r2 r3
              replace hl4 := hid hl4
              clear hb4
              go_wp2
              try rw [hZ]
              refine bodyPost_ret (v := .agg #[.int .u8 0, .string ⟨#[]⟩, .int .i64 0, .int .i64 0]) ?_ rfl ⟨hans.out, hl4.out⟩
              simp [results, Tryz.f39, go_sem, r0, r1, r2, r3]
            · have t2 : ¬ (p : Int) + 2 < (p : Int) + (e : Int) := by omega
              generalize r.take e = xe at *
              clear hK hgd hstep hover hov hlg hki hext hlast hkd hfi hkk hbr
              go_wp2_with fail
              refine hkc.out.mono ?_
              rintro e' V2 ⟨rfl, hb2⟩
              have hT2 := hid (hT.out.below hb2)
              clear hT hb2 hkc
              have x0 : V2.cell? ⟨w.heap.size + 1, 0, none⟩ = some (.int .u8 0) := cell_of hT2.out.out 0
              have f0 := frozen_of hT2.out.out 0
              have x1 : V2.cell? ⟨w.heap.size + 1, 1, none⟩ = some (.string ⟨#[]⟩) := cell_of hT2.out.out 1
              have f1 := frozen_of hT2.out.out 1
              have x2 : V2.cell? ⟨w.heap.size + 1, 2, none⟩ = some (.int .i64 0) := cell_of hT2.out.out 2
              have f2 := frozen_of hT2.out.out 2
              have x3 : V2.cell? ⟨w.heap.size + 1, 3, none⟩ = some (.int .i64 0) := cell_of hT2.out.out 3
              have f3 := frozen_of hT2.out.out 3
              have y0 := cell_of hT2.out.res 0
              have g0 := frozen_of hT2.out.res 0
              have y1 := cell_of hT2.out.res 1
              have g1 := frozen_of hT2.out.res 1
              have y2 := cell_of hT2.out.res 2
              have g2 := frozen_of hT2.out.res 2
              have y3 := cell_of hT2.out.res 3
              have g3 := frozen_of hT2.out.res 3
              simp [zcells] at y0 y1 y2 y3
              go_wp2
              exact ⟨⟨e + 1, by omega, by omega, by go_num, by rw [hnew.out]; exact hT2.out⟩, by simp [intOf]; omega⟩
          · obtain ⟨xo, hxo⟩ : ∃ xo, xo = r.take o := ⟨_, rfl⟩
            replace hT : Hid (Two w V #[.int .u8 (kc : Int), .string ⟨xo.toArray⟩, .int .i64 (p : Int), .int .i64 ((p : Int) + (o : Int))]) := by
              have h := hT.out
              unfold ocells dcells at h
              rw [if_neg ho, hkk, ← hxo] at h
              exact h
            have t3 : (0 : Int) < (kc : Int) := by omega
            have t4 : ((kc : Int) == 0) = false := by simp; omega
            have c7 : IntKind.i64.wrap ((p : Int) + (o : Int) + 1) = (p : Int) + (o : Int) + 1 := by rw [IntKind.wrap_i64]; omega
            by_cases hbr : o + 1 < e
            · have t2 : (p : Int) + (o : Int) + 1 < (p : Int) + (e : Int) := by omega
              have hu0 : o = u := hover (by simp [hbr]; omega)
              have hans : Hid (Ending.returned (.agg #[.int .u8 (kc : Int), .string ⟨xo.toArray⟩, .int .i64 (p : Int), .int .i64 ((p : Int) + (o : Int))]) = Ending.returned (longR (first r) p)) := by
                unfold Hid
                rw [hfi.out, if_neg (by omega), ← hu0, ← hxo]
                rfl
              generalize r.take e = xe at *
              clear hK hgd hstep hover hov hlg hki hext hlast hkd hfi hkk hnew hbr hu0 hxo ho
              go_wp2_with fail
              refine hkc.out.mono ?_
              rintro e' V2 ⟨rfl, hb2⟩
              have hT2 := hid (hT.out.below hb2)
              clear hT hb2 hkc
              have x0 : V2.cell? ⟨w.heap.size + 1, 0, none⟩ = some (.int .u8 (kc : Int)) := cell_of hT2.out.out 0
              have f0 := frozen_of hT2.out.out 0
              have x1 : V2.cell? ⟨w.heap.size + 1, 1, none⟩ = some (.string ⟨xo.toArray⟩) := cell_of hT2.out.out 1
              have f1 := frozen_of hT2.out.out 1
              have x2 : V2.cell? ⟨w.heap.size + 1, 2, none⟩ = some (.int .i64 (p : Int)) := cell_of hT2.out.out 2
              have f2 := frozen_of hT2.out.out 2
              have x3 : V2.cell? ⟨w.heap.size + 1, 3, none⟩ = some (.int .i64 ((p : Int) + (o : Int))) := cell_of hT2.out.out 3
              have f3 := frozen_of hT2.out.out 3
              have y0 := cell_of hT2.out.res 0
              have g0 := frozen_of hT2.out.res 0
              have y1 := cell_of hT2.out.res 1
              have g1 := frozen_of hT2.out.res 1
              have y2 := cell_of hT2.out.res 2
              have g2 := frozen_of hT2.out.res 2
              have y3 := cell_of hT2.out.res 3
              have g3 := frozen_of hT2.out.res 3
              simp [zcells] at y0 y1 y2 y3
              obtain ⟨hb4, hl4⟩ := hT2.out.told (.int .u8 (kc : Int)) (.string ⟨xo.toArray⟩) (.int .i64 (p : Int)) (.int .i64 ((p : Int) + (o : Int)))
              obtain ⟨Z, hZ⟩ : ∃ Z, (((V2.setCell ⟨w.heap.size, 0, none⟩ (.int .u8 (kc : Int))).setCell ⟨w.heap.size, 1, none⟩ (.string ⟨xo.toArray⟩)).setCell ⟨w.heap.size, 2, none⟩ (.int .i64 (p : Int))).setCell ⟨w.heap.size, 3, none⟩ (.int .i64 ((p : Int) + (o : Int))) = Z := ⟨_, rfl⟩
              rw [hZ] at hb4 hl4
              have r0 := cell_of hb4 0
              have r1 := cell_of hb4 1
              have r2 := cell_of hb4 2
              have r3 := cell_of hb4 3
              simp at r0 r1 r2 r3
              replace hl4 := hid hl4
              clear hb4
              go_wp2
              try rw [hZ]
              refine bodyPost_ret (v := .agg #[.int .u8 (kc : Int), .string ⟨xo.toArray⟩, .int .i64 (p : Int), .int .i64 ((p : Int) + (o : Int))]) ?_ rfl ⟨hans.out, hl4.out⟩
              simp [results, Tryz.f39, go_sem, r0, r1, r2, r3]
            · have t2 : ¬ (p : Int) + (o : Int) + 1 < (p : Int) + (e : Int) := by omega
              have hnew2 : Hid (ocells c r p (lg r (e + 1 - 1)) = #[.int .u8 (kc : Int), .string ⟨xo.toArray⟩, .int .i64 (p : Int), .int .i64 ((p : Int) + (o : Int))]) := by
                unfold Hid
                rw [hnew.out]
                unfold ocells dcells
                rw [if_neg ho, hkk, ← hxo]
                rfl
              generalize r.take e = xe at *
              clear hK hgd hstep hover hov hlg hki hext hlast hkd hfi hkk hbr hxo ho hnew
              go_wp2_with fail
              refine hkc.out.mono ?_
              rintro e' V2 ⟨rfl, hb2⟩
              have hT2 := hid (hT.out.below hb2)
              clear hT hb2 hkc
              have x0 : V2.cell? ⟨w.heap.size + 1, 0, none⟩ = some (.int .u8 (kc : Int)) := cell_of hT2.out.out 0
              have f0 := frozen_of hT2.out.out 0
              have x1 : V2.cell? ⟨w.heap.size + 1, 1, none⟩ = some (.string ⟨xo.toArray⟩) := cell_of hT2.out.out 1
              have f1 := frozen_of hT2.out.out 1
              have x2 : V2.cell? ⟨w.heap.size + 1, 2, none⟩ = some (.int .i64 (p : Int)) := cell_of hT2.out.out 2
              have f2 := frozen_of hT2.out.out 2
              have x3 : V2.cell? ⟨w.heap.size + 1, 3, none⟩ = some (.int .i64 ((p : Int) + (o : Int))) := cell_of hT2.out.out 3
              have f3 := frozen_of hT2.out.out 3
              have y0 := cell_of hT2.out.res 0
              have g0 := frozen_of hT2.out.res 0
              have y1 := cell_of hT2.out.res 1
              have g1 := frozen_of hT2.out.res 1
              have y2 := cell_of hT2.out.res 2
              have g2 := frozen_of hT2.out.res 2
              have y3 := cell_of hT2.out.res 3
              have g3 := frozen_of hT2.out.res 3
              simp [zcells] at y0 y1 y2 y3
              go_wp2
              exact ⟨⟨e + 1, by omega, by omega, by go_num, by rw [hnew2.out]; exact hT2.out⟩, by simp [intOf]; omega⟩
      · have hlt' : ¬ (p : Int) + (e : Int) ≤ (s.length : Int) := by omega
        obtain rfl : e = r.length + 1 := by omega
        rw [Nat.add_sub_cancel, hlast.out] at hT
        by_cases hu : u = 0
        · subst hu
          have hT2 : Hid (Two w V #[.int .u8 0, .string ⟨#[]⟩, .int .i64 0, .int .i64 0]) := hT
          obtain ⟨V2, rfl⟩ : ∃ V2 : World, V2 = V := ⟨_, rfl⟩
          have hans : Hid (Ending.returned (.agg #[.int .u8 0, .string ⟨#[]⟩, .int .i64 0, .int .i64 0]) = Ending.returned (longR (first r) p)) := by
            unfold Hid
            rw [hfi.out, if_pos rfl]
            rfl
          clear hov hlg hki hext hlast hfi hT
          have x0 : V2.cell? ⟨w.heap.size + 1, 0, none⟩ = some (.int .u8 0) := cell_of hT2.out.out 0
          have f0 := frozen_of hT2.out.out 0
          have x1 : V2.cell? ⟨w.heap.size + 1, 1, none⟩ = some (.string ⟨#[]⟩) := cell_of hT2.out.out 1
          have f1 := frozen_of hT2.out.out 1
          have x2 : V2.cell? ⟨w.heap.size + 1, 2, none⟩ = some (.int .i64 0) := cell_of hT2.out.out 2
          have f2 := frozen_of hT2.out.out 2
          have x3 : V2.cell? ⟨w.heap.size + 1, 3, none⟩ = some (.int .i64 0) := cell_of hT2.out.out 3
          have f3 := frozen_of hT2.out.out 3
          have y0 := cell_of hT2.out.res 0
          have g0 := frozen_of hT2.out.res 0
          have y1 := cell_of hT2.out.res 1
          have g1 := frozen_of hT2.out.res 1
          have y2 := cell_of hT2.out.res 2
          have g2 := frozen_of hT2.out.res 2
          have y3 := cell_of hT2.out.res 3
          have g3 := frozen_of hT2.out.res 3
          simp [zcells] at y0 y1 y2 y3
          obtain ⟨hb4, hl4⟩ := hT2.out.told (.int .u8 0) (.string ⟨#[]⟩) (.int .i64 0) (.int .i64 0)
          obtain ⟨Z, hZ⟩ : ∃ Z, (((V2.setCell ⟨w.heap.size, 0, none⟩ (.int .u8 0)).setCell ⟨w.heap.size, 1, none⟩ (.string ⟨#[]⟩)).setCell ⟨w.heap.size, 2, none⟩ (.int .i64 0)).setCell ⟨w.heap.size, 3, none⟩ (.int .i64 0) = Z := ⟨_, rfl⟩
          rw [hZ] at hb4 hl4
          have r0 := cell_of hb4 0
          have r1 := cell_of hb4 1
          have r2 := cell_of hb4 2
          have r3 := cell_of hb4 3
          simp at r0 r1 r2 r3
          replace hl4 := hid hl4
          clear hb4
          go_wp2
          try rw [hZ]
          refine bodyPost_ret (v := .agg #[.int .u8 0, .string ⟨#[]⟩, .int .i64 0, .int .i64 0]) ?_ rfl ⟨hans.out, hl4.out⟩
          simp [results, Tryz.f39, go_sem, r0, r1, r2, r3]
        · obtain ⟨xo, hxo⟩ : ∃ xo, xo = r.take u := ⟨_, rfl⟩
          obtain ⟨kc, hkk⟩ : ∃ kc, kc = kd c := ⟨_, rfl⟩
          obtain ⟨o, ho⟩ : ∃ o, o = u := ⟨_, rfl⟩
          have hT2 : Hid (Two w V #[.int .u8 (kc : Int), .string ⟨xo.toArray⟩, .int .i64 (p : Int), .int .i64 ((p : Int) + (o : Int))]) := by
            have h := hT.out
            unfold ocells dcells at h
            rw [if_neg hu, ← hkk, ← hxo, ← ho] at h
            exact h
          obtain ⟨V2, rfl⟩ : ∃ V2 : World, V2 = V := ⟨_, rfl⟩
          have hans : Hid (Ending.returned (.agg #[.int .u8 (kc : Int), .string ⟨xo.toArray⟩, .int .i64 (p : Int), .int .i64 ((p : Int) + (o : Int))]) = Ending.returned (longR (first r) p)) := by
            unfold Hid
            rw [hfi.out, if_neg hu, hkk, hxo, ho]
            rfl
          clear hov hlg hki hext hlast hfi hT hxo hkk ho
          have x0 : V2.cell? ⟨w.heap.size + 1, 0, none⟩ = some (.int .u8 (kc : Int)) := cell_of hT2.out.out 0
          have f0 := frozen_of hT2.out.out 0
          have x1 : V2.cell? ⟨w.heap.size + 1, 1, none⟩ = some (.string ⟨xo.toArray⟩) := cell_of hT2.out.out 1
          have f1 := frozen_of hT2.out.out 1
          have x2 : V2.cell? ⟨w.heap.size + 1, 2, none⟩ = some (.int .i64 (p : Int)) := cell_of hT2.out.out 2
          have f2 := frozen_of hT2.out.out 2
          have x3 : V2.cell? ⟨w.heap.size + 1, 3, none⟩ = some (.int .i64 ((p : Int) + (o : Int))) := cell_of hT2.out.out 3
          have f3 := frozen_of hT2.out.out 3
          have y0 := cell_of hT2.out.res 0
          have g0 := frozen_of hT2.out.res 0
          have y1 := cell_of hT2.out.res 1
          have g1 := frozen_of hT2.out.res 1
          have y2 := cell_of hT2.out.res 2
          have g2 := frozen_of hT2.out.res 2
          have y3 := cell_of hT2.out.res 3
          have g3 := frozen_of hT2.out.res 3
          simp [zcells] at y0 y1 y2 y3
          obtain ⟨hb4, hl4⟩ := hT2.out.told (.int .u8 (kc : Int)) (.string ⟨xo.toArray⟩) (.int .i64 (p : Int)) (.int .i64 ((p : Int) + (o : Int)))
          obtain ⟨Z, hZ⟩ : ∃ Z, (((V2.setCell ⟨w.heap.size, 0, none⟩ (.int .u8 (kc : Int))).setCell ⟨w.heap.size, 1, none⟩ (.string ⟨xo.toArray⟩)).setCell ⟨w.heap.size, 2, none⟩ (.int .i64 (p : Int))).setCell ⟨w.heap.size, 3, none⟩ (.int .i64 ((p : Int) + (o : Int))) = Z := ⟨_, rfl⟩
          rw [hZ] at hb4 hl4
          have r0 := cell_of hb4 0
          have r1 := cell_of hb4 1
          have r2 := cell_of hb4 2
          have r3 := cell_of hb4 3
          simp at r0 r1 r2 r3
          replace hl4 := hid hl4
          clear hb4
          go_wp2
          try rw [hZ]
          refine bodyPost_ret (v := .agg #[.int .u8 (kc : Int), .string ⟨xo.toArray⟩, .int .i64 (p : Int), .int .i64 ((p : Int) + (o : Int))]) ?_ rfl ⟨hans.out, hl4.out⟩
          simp [results, Tryz.f39, go_sem, r0, r1, r2, r3]
end Go.Proofs.YtjhodmpgggaknaaGreatDoor
