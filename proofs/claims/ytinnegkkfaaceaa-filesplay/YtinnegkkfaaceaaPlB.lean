/- Contract of Alike. -/
import Derived.Test.YtinnegkkfaaceaaPlA
import Derived.Deep.QuietTactic
import Derived.BigQuiet
namespace Go.Proofs.Ytinnegkkfaaceaa
open Go.RowKit Go.Maps Go.MapKept Go.Shelf

section
variable {B sb rb : Nat} {w wr : World} {g : Gs} {R : Rs} {t : St}
/-- what both stores tell of a file's name. -/
structure Told (B sb rb : Nat) (g : Gs) (R : Rs) (t : St) (wr : World) (n : List UInt8) (nm bs : List UInt8) (s : Nat) (err : Int) : Prop where
  get : ∀ W, Below wr.heap.size wr W → Calls Try.prog 14 #[ptr rb, str n] W fun e W' => ∃ ga gc, e = .returned (.tuple #[.agg #[str nm, .slice ga bs.length gc, .int .i64 (s : Int)], .int .i64 err]) ∧ Below W.heap.size W W' ∧ IsB W' (.slice ga bs.length gc) bs
  read : t.read n = (bs, err)
  size : t.get n (fun f => f.b.length) = ((bs.length : Int), err)
  syn : t.get n (fun f => f.s) = ((s : Int), err)
theorem Two.told (h : Two B w wr sb g rb R t) (ha : t.acts < 4611686018427387903) (n : List UInt8) : ∃ nm bs s err, Told B sb rb g R t wr n nm bs s err ∧ bs.length ≤ 1048576 := by
  have hw : R.abs.why n = t.why n := by
    rw [h.abs]
    unfold St.why
    by_cases h0 : t.left = 0
    · rw [if_pos (show t.norm.left = 0 from (nrm_zero _).2 h0), if_pos h0]
    · rw [if_neg (show ¬ t.norm.left = 0 from fun e => h0 ((nrm_zero _).1 e)), if_neg h0]; rfl
  have hok := h.ok ha
  by_cases h0 : t.why n = 0
  · obtain ⟨hd, f, hf⟩ := why_zero h0
    have hm : f ∈ t.l := List.mem_of_find?_eq_some hf
    have hl : lookE n R.abs.l = some f := by rw [h.abs]; exact hf
    refine ⟨f.name, f.b, f.s, 0, ⟨fun W hb => ?_, ?_, ?_, ?_⟩, (Is.file h.is hm).2.1⟩
    · obtain ⟨f', a, c, k1, k2, k3, k4, k5⟩ := rgot W (h.ref.below hb) hok n (by rw [hw]; exact h0)
      rw [hl] at k1
      cases k1
      refine k5.mono ?_
      rintro e W' ⟨rfl, hb'⟩
      refine ⟨a, c, rfl, hb', ?_⟩
      have hrow := (h.ref.below hb).els _ k3
      exact (isB_row hrow).below hb'
    · unfold St.read; rw [if_neg hd, hf]
    · unfold St.get; rw [if_neg hd, hf]
    · unfold St.get; rw [if_neg hd, hf]
  · refine ⟨[], [], 0, t.why n, ⟨fun W hb => ?_, ?_, ?_, ?_⟩, by simp⟩
    · have := rget_no W (h.ref.below hb) n (by have := hok.few; omega) (by rw [hw]; exact h0)
      rw [hw] at this
      refine this.mono ?_
      rintro e W' ⟨rfl, hb'⟩
      exact ⟨none, 0, rfl, hb', by simp, none, 0, rfl, .inl rfl⟩
    all_goals
      unfold St.why at h0 ⊢
      first
        | unfold St.read
        | unfold St.get
      split
      · rfl
      · rename_i hd
        rw [if_neg hd] at h0
        cases hk : lookE n t.l with
        | none => rfl
        | some f => rw [hk] at h0; exact absurd rfl h0
end
set_option maxRecDepth 100000 in
set_option maxHeartbeats 4000000 in
theorem alike_any {B sb rb : Nat} {w : World} {g : Gs} {R : Rs} {t : St} (wo : World) (h : Two B w wo sb g rb R t) (ha : t.acts < 4611686018427387903) :
    Calls Try.prog 12 #[ptr sb, ptr rb] wo fun e w' => e = .returned (.bool true) ∧ Below wo.heap.size wo w' := by
  have hnm := names_any wo h.is.1
  rw [Is.names h.is] at hnm
  have hln : R.ps.map Prod.fst = t.l := congrArg St.l h.abs
  have hll : R.ps.length = t.l.length := by rw [← hln]; simp
  have hact : R.acts = t.acts := congrArg St.acts h.abs
  have hleft : (R.left == 0) = (t.left == 0) := by
    have e : R.left = nrm t.left := congrArg St.left h.abs
    rw [e]
    by_cases h0 : t.left = 0
    · rw [h0]; decide
    · have : ¬ nrm t.left = 0 := fun e => h0 ((nrm_zero _).1 e)
      rw [beq_eq_false_iff_ne.2 this, beq_eq_false_iff_ne.2 h0]
  have hfew := Is.few h.is
  obtain ⟨la, lc, hlv⟩ := h.ref.slice
  rw [hll] at hlv
  have elen : (t.l.map Ent.name).length = t.l.length := by simp
  have QX : Hid (∀ W, Below wo.heap.size wo W → W.cell? ⟨rb, 0, none⟩ = some (.slice la t.l.length lc) ∧ W.cell? ⟨rb, 2, none⟩ = some (.int .i64 (t.acts : Int)) ∧ (∀ q, Calls Try.prog 24 #[ptr sb] (W.drewN q) fun e w' => e = .returned (.bool (t.left == 0)) ∧ w' = W.drewN q) ∧ (∀ q, Calls Try.prog 30 #[ptr rb] (W.drewN q) fun e w' => e = .returned (.bool (t.left == 0)) ∧ w' = W.drewN q) ∧ (∀ q, Calls Try.prog 23 #[ptr sb] (W.drewN q) fun e w' => e = .returned (.int .i64 (t.acts : Int)) ∧ w' = W.drewN q)) := by
    intro W hb
    have hT := h.below hb
    refine ⟨by rw [cell_of hT.ref.cell, hlv]; rfl, by rw [cell_of hT.ref.cell, hact]; rfl, fun q => dead_t _ (hT.is.below (drawn_below W q)), fun q => ?_, fun q => acts_t _ (hT.is.below (drawn_below W q))⟩
    rw [← hleft]
    exact rdead _ (hT.ref.below (drawn_below W q))
  have HT := hid h
  rw [elen] at hnm
  replace hnm := hid hnm
  replace hln := hid hln
  clear h hact hleft hlv hll elen
  unfold ptr at *
  go_enter Try.func12, Try.ntmps12
  go_wp2_with fail
  refine hnm.out.mono ?_
  rintro e w5 ⟨na, nc, rfl, hrow, hb5⟩
  obtain ⟨q1, q2, q3, q4, q5⟩ := QX.out w5 hb5
  replace q3 := hid q3
  replace q4 := hid q4
  replace q5 := hid q5
  have hT5 := hid (HT.out.below hb5)
  replace hrow := hid hrow
  replace hb5 := hid hb5
  clear hnm QX HT
  generalize hdd : (t.left == 0) = dd at *
  replace hdd := hid hdd
  go_wp2_with fail
  go_quiet (first | (go_at_call 24; exact Calls.quiet_of_same (q3.out _)) | (go_at_call 30; exact Calls.quiet_of_same (q4.out _)) | (go_at_call 23; exact Calls.quiet_of_same (q5.out _)))
  clear q3 q4 q5 q1 q2
  have hst := hid (drawn_below w5 nq)
  go_wp2_with fail
  go_loopw [6] (fun iv W => ∃ j : Nat, j ≤ t.l.length ∧ iv = .int .i64 j ∧ Below w5.heap.size w5 W) (fun iv _ => t.l.length - (intOf iv).toNat)
  case atStart => exact ⟨0, by omega, rfl, hst.out⟩
  case round =>
    obtain ⟨W, rfl⟩ : ∃ W : World, W = wr := ⟨_, rfl⟩
    obtain ⟨j, hj, rfl, hbW⟩ := hrel
    replace hbW := hid hbW
    clear hst
    by_cases hlt : j < t.l.length
    · have hlt' : (j : Int) < (t.l.length : Int) := by omega
      obtain ⟨f, hf⟩ : ∃ f, t.l[j]? = some f := ⟨_, List.getElem?_eq_getElem hlt⟩
      have hTW := hid (hT5.out.below hbW.out)
      obtain ⟨nm, bs, s, err, hto, hbl⟩ := hTW.out.told ha f.name
      replace hto := hid hto
      have hfn := (Is.file hTW.out.is (List.mem_of_getElem? hf)).2.2.2
      obtain ⟨nb, nc', en, k1, hz1, hz2, hz3⟩ := filesCrash.row_at hrow.out (j := j) (u := str f.name) (by rw [List.getElem?_map, List.getElem?_map, hf]; rfl)
      injection en with en1 en2 en3
      subst en1 en3
      clear hz1 hz2 hz3 en2
      obtain ⟨p, hp, hpf⟩ : ∃ p, R.ps[j]? = some p ∧ p.1 = f := by
        have h1 : (R.ps.map Prod.fst)[j]? = some f := by rw [hln.out]; exact hf
        rw [List.getElem?_map] at h1
        cases hx : R.ps[j]? with
        | none => rw [hx] at h1; cases h1
        | some p => rw [hx] at h1; exact ⟨p, rfl, by simpa using h1⟩
      obtain ⟨lb, lc', el, k2, _, _, _, _⟩ := hTW.out.ref.at hp
      rw [hpf] at k2
      have hcr : W.cell? ⟨rb, 0, none⟩ = some (.slice (some ⟨lb, 0, none⟩) t.l.length lc') := by
        rw [cell_of hTW.out.ref.cell, el]
        have : R.ps.length = t.l.length := by rw [← hln.out]; simp
        rw [this]; rfl
      have NX : Hid (∀ W', Below W.heap.size W W' → W'.cell? ⟨nb, j, none⟩ = some (str f.name) ∧ Is B W' sb g t) := fun W' hb => ⟨(hb.cell (p := ⟨nb, j, none⟩) (by show nb < _; exact Nat.lt_of_lt_of_le (World.block_lt_of_cell? w5 ⟨nb, j, none⟩ k1) hbW.out.size)).trans ((hbW.out.cell (p := ⟨nb, j, none⟩) (World.block_lt_of_cell? w5 ⟨nb, j, none⟩ k1)).trans k1), hTW.out.is.below hb⟩
      have k1W := (NX.out W (Below.refl _ _)).1
      clear k1 hp hpf el hf
      unfold str at k1W k2
      go_wp2_with fail
      go_quiet (fail)
      have g6 := hid (hto.out.get (W.drewN nq) (drawn_below W nq))
      have c6 := (NX.out (W.drewN nq) (drawn_below W nq)).1
      unfold ptr str at g6
      unfold str at c6
      clear k1W k2 hcr
      go_wp2_with fail
      refine g6.out.mono ?_
      rintro e w6 ⟨ga, gc, rfl, hb6, hB6⟩
      have L6 : Below W.heap.size W w6 := (drawn_below W nq).trans hb6
      have L7 := L6.trans ((alloc_below w6 (.cells #[str nm, .slice ga bs.length gc, .int .i64 (s : Int)] 35)).mono L6.size)
      obtain ⟨c7, i7⟩ := NX.out _ L7
      have rd := hid (read_t _ i7 f.name (by unfold maxLen; omega) hto.out.read)
      have bx7 : (w6.alloc (.cells #[str nm, .slice ga bs.length gc, .int .i64 (s : Int)] 35)).heap[w6.heap.size]? = some (.cells #[str nm, .slice ga bs.length gc, .int .i64 (s : Int)] 35) := (MapKept.heap_alloc w6 _).1
      have hB7 := hB6.below (alloc_below w6 (.cells #[str nm, .slice ga bs.length gc, .int .i64 (s : Int)] 35))
      -- what every later world has
      have MX : Hid (∀ W8, Below (w6.alloc (.cells #[str nm, .slice ga bs.length gc, .int .i64 (s : Int)] 35)).heap.size (w6.alloc (.cells #[str nm, .slice ga bs.length gc, .int .i64 (s : Int)] 35)) W8 → W8.cell? ⟨nb, j, none⟩ = some (str f.name) ∧ Is B W8 sb g t ∧ W8.cell? ⟨w6.heap.size, 1, none⟩ = some (.slice ga bs.length gc) ∧ W8.cell? ⟨w6.heap.size, 2, none⟩ = some (.int .i64 (s : Int)) ∧ IsB W8 (.slice ga bs.length gc) bs ∧ Below w5.heap.size w5 W8) := by
        intro W8 hb8
        have L8 := L7.trans (hb8.mono L7.size)
        obtain ⟨x1, x2⟩ := NX.out _ L8
        have bx8 := (hb8.block w6.heap.size (by simp)).trans bx7
        exact ⟨x1, x2, by rw [cell_of bx8]; rfl, by rw [cell_of bx8]; rfl, hB7.below hb8, filesCrash.low' hbW.out hbW.out.size L8⟩
      clear hB6 hb6 L6 NX g6 c6
      have L7size := hid (Nat.le_trans hbW.out.size L7.size)
      clear L7 bx7 hB7
      unfold ptr str at rd
      unfold str at c7 L7size MX
      generalize hW7 : w6.alloc (.cells #[.string ⟨nm.toArray⟩, .slice ga bs.length gc, .int .i64 (s : Int)] 35) = W7 at *
      have sz := hid (fun W8 hi => size_t (B := B) (sb := sb) (g := g) W8 hi f.name (by unfold maxLen; omega) hto.out.size)
      have sn := hid (fun W8 hi => synced_t (B := B) (sb := sb) (g := g) W8 hi f.name (by unfold maxLen; omega) hto.out.syn)
      unfold ptr str at sz sn
      clear hto i7
      go_wp2_with fail
      refine rd.out.mono ?_
      rintro e w8 ⟨ra, rc, rfl, hr8, hb8⟩
      replace hW7 := hid hW7
      obtain ⟨x1, x2, x3, x4, x5, x6⟩ := MX.out w8 hb8
      replace x2 := hid x2
      have s8 := hid (sz.out w8 x2.out)
      replace hr8 := hid (And.intro hr8 hb8)
      clear hb8 x3 x4 x5 x6 rd c7
      go_wp2_with fail
      refine s8.out.mono ?_
      rintro e w9 ⟨rfl, hb9⟩
      have L9 := hr8.out.2.trans (hb9.mono hr8.out.2.size)
      obtain ⟨y1, y2, y3, y4, y5, y6⟩ := MX.out w9 L9
      have s9 := hid (sn.out w9 y2)
      have r9 := ownsRow_block hr8.out.1 fun k hk => hb9.block k (hr8.out.1.lt k hk).2
      replace r9 := hid (And.intro r9 L9)
      clear y2 y3 y4 y5 y6 hb9 L9 x1 x2 hr8 s8 sz
      go_wp2_with fail
      refine s9.out.mono ?_
      rintro e w10 ⟨rfl, hb10⟩
      have L10 := r9.out.2.trans (hb10.mono r9.out.2.size)
      obtain ⟨z1, z2, z3, z4, z5, z6⟩ := MX.out w10 L10
      have r10 := ownsRow_block r9.out.1 fun k hk => hb10.block k (r9.out.1.lt k hk).2
      have cv1 := conv_str (isB_row r10)
      have cv2 := conv_str z5
      unfold str at cv1 cv2
      have hbase : ∀ k, (Value.slice ra bs.length rc).ownBlock = some k → w5.heap.size ≤ k := fun k hk => Nat.le_trans L7size.out (r10.lt k hk).1
      have rst : Hid (∃ xs, w10.ownsRow w5.heap.size 5 1 (.slice ra bs.length rc) bs.length xs ∧ Below w5.heap.size w5 w10) := ⟨_, ownsRow_base r10 hbase, z6⟩
      clear MX r9 hb10 L10 z1 z2 z5 z6 r10 hbase y1 s9 sn
      go_wp2_with fail
      go_loopw [15] (fun kv wq => ∃ (k : Nat) (xs : List Value), k ≤ bs.length ∧ kv = .int .i64 k ∧ wq.ownsRow w5.heap.size 5 1 (.slice ra bs.length rc) bs.length xs ∧ Below w5.heap.size w5 wq) (fun kv _ => bs.length - (intOf kv).toNat)
      case atStart =>
        obtain ⟨xs, e1, e2⟩ := rst.out
        exact ⟨0, xs, by omega, rfl, e1, e2⟩
      case round =>
        obtain ⟨V, rfl⟩ : ∃ V : World, V = wr := ⟨_, rfl⟩
        obtain ⟨k, xs, hk, rfl, hown, hbV⟩ := hrel
        clear rst cv1 cv2 z3 z4
        by_cases hkl : k < bs.length
        · have hkl' : (k : Int) < (bs.length : Int) := by omega
          have hxl := hown.1
          obtain ⟨u, hu⟩ : ∃ u, xs[k]? = some u := ⟨_, List.getElem?_eq_getElem (by omega)⟩
          obtain ⟨vb, vc, ev, m1, m2, m3, m4⟩ := filesCrash.row_at hown hu
          injection ev with ev1 ev2 ev3
          subst ev1 ev3
          have n1 := hid (filesCrash.row_set hown k (.int .u8 7))
          have n2 : Hid (Below w5.heap.size w5 (V.setCell ⟨vb, k, none⟩ (.int .u8 7))) := hbV.trans ⟨rfl, rfl, rfl, by rw [size_set]; exact Nat.le_refl _, fun i hi => heap_set _ _ _ _ _ (by have := (hown.lt vb rfl).1; omega)⟩
          clear hown hbV hu hxl m3 m4 ev2
          go_wp2_with fail
          exact ⟨⟨k + 1, _, by omega, by go_num, n1.out, n2.out⟩, by simp [intOf]; omega⟩
        · have hkl' : ¬ (k : Int) < (bs.length : Int) := by omega
          replace hbV := hid hbV
          clear hown
          go_wp2_with fail
          exact ⟨⟨j + 1, by omega, by go_num, hbV.out⟩, by simp [intOf]; omega⟩
    · have hge : ¬ (j : Int) < (t.l.length : Int) := by omega
      have fin := hid (filesCrash.low' hb5.out hb5.out.size hbW.out)
      go_wp2
      go_ret
      exact ⟨rfl, fin.out⟩
end Go.Proofs.Ytinnegkkfaaceaa
