/- Joined: B9 B10 B11 B12 B13. -/
import Derived.Test.YtjhodmpgggaknaaGreatDoorZB7
import Derived.Test.YtjhodmpgggaknaaGreatDoorZNParse
import Derived.Shelf.Strings.SlTrimAscii
import Derived.Test.YtjhodmpgggaknaaGreatDoorZB8
/- Contracts of mayWindow, window, value. -/
namespace Go.Proofs.YtjhodmpgggaknaaGreatDoor
open Go.RowKit Go.Shelf Go.Maps

/-- the library's two errors lie where they are laid. -/
structure EnvE (w : World) : Prop where
  er : ∃ tp p, w.cell? ⟨4, 0, none⟩ = some (.iface tp p)
  es : ∃ tp p, w.cell? ⟨3, 0, none⟩ = some (.iface tp p)
theorem EnvE.below {w w' : World} (h : EnvE w) (hb : Below w.heap.size w w') : EnvE w' := by
  obtain ⟨⟨t, p, h1⟩, ⟨t2, p2, h2⟩⟩ := h
  exact ⟨⟨t, p, (hb.cell (p := ⟨_, 0, none⟩) (World.block_lt_of_cell? w _ h1)).trans h1⟩, ⟨t2, p2, (hb.cell (p := ⟨_, 0, none⟩) (World.block_lt_of_cell? w _ h2)).trans h2⟩⟩
/-- the operators' table. -/
structure EnvO (w : World) : Prop where
  c0 : w.cell? ⟨0, 0, none⟩ = some (.string ⟨#[111, 114]⟩)
  c1 : w.cell? ⟨0, 1, none⟩ = some (.int .u8 2)
  c2 : w.cell? ⟨0, 2, none⟩ = some (.string ⟨#[97, 110, 100]⟩)
  c3 : w.cell? ⟨0, 3, none⟩ = some (.int .u8 1)
theorem EnvO.below {w w' : World} (h : EnvO w) (hb : Below w.heap.size w w') : EnvO w' := by
  have hlt := World.block_lt_of_cell? w _ h.c0
  exact ⟨(hb.cell (p := ⟨_, 0, none⟩) hlt).trans h.c0, (hb.cell (p := ⟨_, 1, none⟩) hlt).trans h.c1, (hb.cell (p := ⟨_, 2, none⟩) hlt).trans h.c2, (hb.cell (p := ⟨_, 3, none⟩) hlt).trans h.c3⟩

theorem dropWhile_nil {f : UInt8 → Bool} : ∀ {l : List UInt8}, l.dropWhile f = [] ↔ ∀ c ∈ l, f c = true
  | [] => by simp
  | c :: l => by
    rw [List.dropWhile_cons]
    cases h : f c
    · simp [h]
    · simp [h, dropWhile_nil (l := l)]
theorem dropWhile_head {f : UInt8 → Bool} : ∀ {l : List UInt8} {c : UInt8} {t : List UInt8}, l.dropWhile f = c :: t → f c = false
  | [], c, t, h => by simp at h
  | d :: l, c, t, h => by
    rw [List.dropWhile_cons] at h
    cases hd : f d
    · rw [hd] at h
      simp at h
      rw [← h.1]; exact hd
    · rw [hd] at h
      exact dropWhile_head (l := l) (by simpa using h)
def digits10 : List UInt8 := [48, 49, 50, 51, 52, 53, 54, 55, 56, 57]
theorem in_digits (c : UInt8) : digits10.contains c = dig c := by
  have h : ∀ n : Fin 256, digits10.contains (UInt8.ofNat n.val) = dig (UInt8.ofNat n.val) := by decide +kernel
  have := h ⟨c.toNat, UInt8.toNat_lt c⟩
  simpa using this
theorem trim_digits (s : Tx) : (Lib.trimS s digits10 == []) = digsB s := by
  have e : Lib.trimS s digits10 = [] ↔ digsB s = true := by
    unfold Lib.trimS Lib.trimLeftS Lib.trimRightS digsB
    have hf : (fun c : UInt8 => digits10.contains c) = dig := funext in_digits
    rw [hf, dropWhile_nil, List.all_eq_true]
    constructor
    · intro h
      have h2 : s.reverse.dropWhile dig = [] := by
        cases hd : s.reverse.dropWhile dig with
        | nil => rfl
        | cons c t =>
          have hc := h c (by rw [hd]; simp)
          have := dropWhile_head hd
          rw [hc] at this; cases this
      intro c hc
      exact dropWhile_nil.1 h2 c (by simpa using hc)
    · intro h c hc
      have := List.dropWhile_sublist (p := dig) (l := s.reverse)
      exact h c (by simpa using this.mem (by simpa using hc))
  cases hd : digsB s
  · rw [beq_eq_false_iff_ne]
    intro h
    rw [e.1 h] at hd; cases hd
  · rw [beq_iff_eq]
    exact e.2 hd
theorem foldl_mono : ∀ (l : Tx) (a : Nat), a ≤ l.foldl (fun n c => n * 10 + (c.toNat - 48)) a
  | [], a => Nat.le_refl _
  | c :: l, a => by
    rw [List.foldl_cons]
    have := foldl_mono l (a * 10 + (c.toNat - 48))
    omega
theorem parse10 : ∀ (l : Tx) (a : Nat), digsB l = true → Lib.parseUint10 a l = .ok (l.foldl (fun n c => n * 10 + (c.toNat - 48)) a) ∨ (Lib.parseUint10 a l = .range ∧ 1000 < l.foldl (fun n c => n * 10 + (c.toNat - 48)) a)
  | [], a, _ => .inl rfl
  | c :: l, a, h => by
    unfold digsB at h
    rw [List.all_cons, Bool.and_eq_true] at h
    have hc := dig_iff.1 h.1
    have hm := foldl_mono l (a * 10 + (c.toNat - 48))
    rw [Lib.parseUint10, if_pos hc, List.foldl_cons]
    split
    · exact .inr ⟨rfl, by omega⟩
    · split
      · exact .inr ⟨rfl, by omega⟩
      · exact parse10 l _ h.2
/-- a window's text, as the library reads it. -/
theorem atoi_win (s : Tx) (h : digsB s = true) : (∃ v : Nat, Lib.atoiAll s = .ok (v : Int) ∧ winOf s = if 1 ≤ v ∧ v ≤ 1000 then some v else none) ∨ (Lib.atoiAll s = .range ∧ winOf s = none) ∨ (Lib.atoiAll s = .syntax ∧ winOf s = none) := by
  cases s with
  | nil => exact .inr (.inr ⟨rfl, by decide⟩)
  | cons c l =>
    have hd := h
    unfold digsB at hd
    rw [List.all_cons, Bool.and_eq_true] at hd
    have hc := dig_iff.1 hd.1
    have hw : ∀ n, numOf (c :: l) = n → winOf (c :: l) = if 1 ≤ n ∧ n ≤ 1000 then some n else none := by
      rintro n rfl
      unfold winOf
      rw [h]
      by_cases h1 : 1 ≤ numOf (c :: l) ∧ numOf (c :: l) ≤ 1000
      · rw [if_pos h1]; simp [h1]
      · rw [if_neg h1]
        rw [if_neg]
        simpa using h1
    have hm : Lib.parseMag (c :: l) = Lib.parseUint10 0 (c :: l) := by simp [Lib.parseMag]
    have ha : Lib.atoiAll (c :: l) = match Lib.parseUint10 0 (c :: l) with
        | .syntax => .syntax
        | .range => .range
        | .ok u => if 9223372036854775808 ≤ u then .range else .ok (u : Int) := by
      unfold Lib.atoiAll
      simp only
      rw [if_neg (by omega), hm]
      have n45 : ¬ c.toNat = 45 := by omega
      simp only [n45, not_false_eq_true, true_and, false_and, if_false]
      cases Lib.parseUint10 0 (c :: l) <;> rfl
    rcases parse10 (c :: l) 0 h with e | ⟨e, hgt⟩
    · rw [ha, e]
      simp only
      split
      · rename_i hbig
        refine .inr (.inl ⟨rfl, ?_⟩)
        rw [hw _ rfl, if_neg]
        show ¬ (1 ≤ numOf (c :: l) ∧ numOf (c :: l) ≤ 1000)
        unfold numOf
        omega
      · exact .inl ⟨_, rfl, hw _ rfl⟩
    · rw [ha, e]
      refine .inr (.inl ⟨rfl, ?_⟩)
      rw [hw _ rfl, if_neg]
      show ¬ (1 ≤ numOf (c :: l) ∧ numOf (c :: l) ≤ 1000)
      unfold numOf
      omega
theorem trim_any (s : Tx) (w : World) (hs : s.length ≤ 9223372036854775807) : Calls Tryz.prog 114 #[.string ⟨s.toArray⟩, .string ⟨#[48, 49, 50, 51, 52, 53, 54, 55, 56, 57]⟩] w fun e w' => e = .returned (.string ⟨(Lib.trimS s digits10).toArray⟩) ∧ Below w.heap.size w w' := by
  have h : Calls Tryz.prog 114 #[.string ⟨s.toArray⟩, .string ⟨#[48, 49, 50, 51, 52, 53, 54, 55, 56, 57]⟩] w fun e w' => e = .returned (.string ⟨(Lib.trimS s digits10).toArray⟩) ∧ Below w.heap.size w w' := Any.strings_Trim_laid Tryz.lays160 (by kernel_rfl) ⟨s.toArray⟩ ⟨#[48, 49, 50, 51, 52, 53, 54, 55, 56, 57]⟩ w (by simpa [ByteArray.size] using hs) (by decide) (ascii_of_all (by decide))
  exact h
def winB (n : Int) : Bool := decide (1 ≤ n) && decide (n ≤ 1000)
theorem mayWindow_any (n : Int) (w : World) : Calls Tryz.prog 51 #[.int .i64 n] w fun e w' => e = .returned (.bool (winB n)) ∧ w' = w := by
  by_cases h1 : 1 ≤ n
  · by_cases h2 : n ≤ 1000
    · have e : Hid (true = winB n) := by show _ = _; simp [winB, h1, h2]
      go_enter Tryz.func51, Tryz.ntmps51
      go_wp2
      go_ret
      exact ⟨ret_bool e.out, rfl⟩
    · have e : Hid (false = winB n) := by show _ = _; simp [winB, h2]
      go_enter Tryz.func51, Tryz.ntmps51
      go_wp2
      go_ret
      exact ⟨ret_bool e.out, rfl⟩
  · have e : Hid (false = winB n) := by show _ = _; simp [winB, h1]
    go_enter Tryz.func51, Tryz.ntmps51
    go_wp2
    go_ret
    exact ⟨ret_bool e.out, rfl⟩
end Go.Proofs.YtjhodmpgggaknaaGreatDoor
/- Contract of window. -/
namespace Go.Proofs.YtjhodmpgggaknaaGreatDoor
open Go.RowKit Go.Shelf Go.Maps

/-- what a call makes that tells a number into a cell. -/
def NumPost (F G : Nat → Prop) (w0 w : World) (b pb po : Nat) (cs : Array Value) (T : TypeId) (ns : List Nd) (fl : Bool) (ts : List Tk) (q : Option (Int × List Tk)) (e : Ending) (w' : World) : Prop :=
  ∃ ok ts', e = .returned (.bool ok) ∧ RdTo F G w0 w w' b ts' ns fl ∧ (ok = false → q = none) ∧ (ok = true → Suf ts' ts ∧ ∃ x, q = some (x, ts') ∧ w'.heap[pb]? = some (.cells (cs.setIfInBounds po (.int .i64 x)) T))
def winT (ts : List Tk) : Option (Int × List Tk) := if hdk 2 ts then (winOf (headT ts)).map (fun n => ((n : Int), ts.tail)) else none
/-- a call of take into a box of one's own: what stays. -/
theorem take_box {F : Nat → Prop} {w0 w : World} {b : Nat} {ts : List Tk} {ns : List Nd} {fl : Bool} (h : RdAt F w0 w b ts ns fl) (k : Nat) :
    Calls Tryz.prog 112 #[ptr b, .int .u8 (k : Int), .pointer (some ⟨w.heap.size, 0, none⟩)] (w.alloc (.cells #[.string ⟨#[]⟩] 9)) fun e w1 => e = .returned (.bool (hdk k ts)) ∧ RdTo F no w0 w w1 b (rst (hdk k ts) ts) ns fl ∧ w1.cell? ⟨w.heap.size, 0, none⟩ = some (.string ⟨(if hdk k ts then headT ts else []).toArray⟩) ∧ w.heap.size < w1.heap.size := by
  have hb0 := alloc_below w (.cells #[.string ⟨#[]⟩] 9)
  have hnb := new_block w (.cells #[.string ⟨#[]⟩] 9)
  have ht := take_any (fun k => k = w.heap.size) (h.below hb0) k w.heap.size 0 (h.old (Nat.le_refl _)) rfl h.low.size hnb (by simp)
  refine ht.mono ?_
  rintro e w1 ⟨rfl, r1, x1⟩
  refine ⟨rfl, r1.fresh hb0 (fun k hk => .inr (by omega)), ?_, lt_of_block x1⟩
  rw [cell_of x1]
  split <;> rfl
set_option maxRecDepth 100000 in
set_option maxHeartbeats 4000000 in
theorem window_any {F : Nat → Prop} {w0 w : World} {b : Nat} {ts : List Tk} {ns : List Nd} {fl : Bool} (G : Nat → Prop) (h : RdAt F w0 w b ts ns fl) (hE : EnvE w0) (pb po : Nat) (hp : ¬ F pb) (hg : G pb) (hl : w0.heap.size ≤ pb) {cs : Array Value} {T : TypeId} (hc : w.heap[pb]? = some (.cells cs T)) (hpo : po < cs.size) (hsm : ∀ t ∈ ts, t.text.length ≤ 4096) :
    Calls Tryz.prog 88 #[ptr b, .pointer (some ⟨pb, po, none⟩)] w (NumPost F G w0 w b pb po cs T ns fl ts (winT ts)) := by
  have htb := hid (take_box h 2)
  have hpw := lt_of_block hc
  have hE2 : Hid (∀ W, RdTo F no w0 w W b (rst (hdk 2 ts) ts) ns fl → EnvE W) := fun W ⟨F1, r, _⟩ => hE.below r.low
  have hfin : Hid (∀ W W2, RdTo F no w0 w W b (rst (hdk 2 ts) ts) ns fl → Below W.heap.size W W2 → RdTo F G w0 w W2 b (rst (hdk 2 ts) ts) ns fl ∧ W2.cell? ⟨pb, po, none⟩ = some cs[po] ∧ W2.frozen? ⟨pb, po, none⟩ = false ∧ ∀ v, RdTo F G w0 w (W2.setCell ⟨pb, po, none⟩ v) b (rst (hdk 2 ts) ts) ns fl ∧ (W2.setCell ⟨pb, po, none⟩ v).heap[pb]? = some (.cells (cs.setIfInBounds po v) T)) := by
    rintro W W2 ⟨F1, r1, k1, i1, f1⟩ hb
    have hpF : ¬ F1 pb := fun hf => by
      rcases f1 pb hf with e | e
      · exact hp e
      · omega
    have hx : W2.heap[pb]? = some (.cells cs T) := by
      rw [hb.block pb (by have := k1.size; omega), k1.block pb hpw (by rintro (e | e); exact hp e; exact e)]
      exact hc
    have kk : Kept (fun k => F k ∨ G k) w W2 := (k1.mono fun k _ hk => hk.elim .inl False.elim).trans (F' := fun _ => False) (kept_below hb) fun _ hk => hk.elim
    exact ⟨⟨F1, r1.below hb, kk, i1, f1⟩, by rw [cell_of hx]; simp [hpo], frozen_of hx po, fun v => ⟨⟨F1, (r1.below hb).turned hpF hl, kk.trans (kept_set (F := G) _ _ _ _ hg) fun k hk => .inl (.inr hk), i1, f1⟩, heap_set_at hx _⟩⟩
  have hlen := hid (head_len hsm)
  clear h hc hsm hE
  cases e1 : hdk 2 ts
  · have hno : Hid (winT ts = none) := by show _ = _; unfold winT; rw [e1]; rfl
    rw [e1] at htb hfin
    unfold ptr at *
    go_enter Tryz.func88, Tryz.ntmps88
    go_wp2_with fail
    refine htb.out.mono ?_
    rintro e w1 ⟨rfl, r1, x1, -⟩
    have r2 := hid (hfin.out w1 w1 r1 (Below.refl _ _)).1
    clear r1 x1
    go_wp2
    go_ret
    exact ⟨false, _, rfl, r2.out, (fun _ => hno.out), fun e => by cases e⟩
  · have hq : Hid (winT ts = (winOf (headT ts)).map (fun n => ((n : Int), ts.tail))) := by show _ = _; unfold winT; rw [e1]; rfl
    rw [e1] at htb hfin hE2
    simp only [if_true] at htb
    have htrim := hid (fun W => trim_any (headT ts) W (by have := hlen.out; omega))
    have htd := hid (trim_digits (headT ts))
    cases e2 : digsB (headT ts)
    · have hno : Hid (winOf (headT ts) = none) := by show _ = _; unfold winOf; rw [e2]; rfl
      rw [e2] at htd
      have q0 := htd.out
      generalize Lib.trimS (headT ts) digits10 = tr at *
      unfold ptr at *
      go_enter Tryz.func88, Tryz.ntmps88
      go_wp2_with fail
      refine htb.out.mono ?_
      rintro e w1 ⟨rfl, r1, x1, -⟩
      replace r1 := hid r1
      go_wp2_with (go_at_call 114; refine (htrim.out _).mono ?_; rintro e w2 ⟨rfl, b2⟩; have r2 := hid (hfin.out w1 w2 r1.out b2).1; clear b2)
      go_ret
      exact ⟨false, _, rfl, r2.out, (fun _ => by rw [hq.out, hno.out]; rfl), fun e => by cases e⟩
    · rw [e2] at htd
      have q0 := htd.out
      have hs6 : (⟨(headT ts).toArray⟩ : ByteArray).size ≤ 4096 := by have := hlen.out; simpa [ByteArray.size] using this
      replace hs6 := hid hs6
      clear e1
      rcases atoi_win (headT ts) e2 with ⟨v, ha, hw⟩ | ⟨ha, hw⟩ | ⟨ha, hw⟩
      · replace hw := hid hw
        have hat := hid (fun W => Tryz.strconv_Atoi_ok ⟨(headT ts).toArray⟩ (by have := hs6.out; omega) (v : Int) ha W)
        clear e2 ha hs6
        generalize Lib.trimS (headT ts) digits10 = tr at *
        have hmw := hid (fun W => mayWindow_any (v : Int) W)
        cases e3 : winB (v : Int)
        · have hn : Hid (winOf (headT ts) = none) := by
            show _ = _
            rw [hw.out, if_neg]
            intro h
            unfold winB at e3
            simp at e3
            omega
          rw [e3] at hmw
          unfold ptr at *
          go_enter Tryz.func88, Tryz.ntmps88
          go_wp2_with fail
          refine htb.out.mono ?_
          rintro e w1 ⟨rfl, r1, x1, hlt1⟩
          replace r1 := hid r1
          have hEw := hid (hE2.out w1 r1.out)
          clear htb hE2
          go_wp2_with fail
          refine (htrim.out _).mono ?_
          rintro e w2 ⟨rfl, b2⟩
          have x2 : w2.cell? ⟨w.heap.size, 0, none⟩ = some (.string ⟨(headT ts).toArray⟩) := (b2.cell (p := ⟨w.heap.size, 0, none⟩) hlt1).trans x1
          replace hEw := hid (hEw.out.below b2)
          replace b2 := hid b2
          clear x1 hlt1 htrim
          go_wp2_with fail
          refine (hat.out _).mono ?_
          rintro e w3 ⟨rfl, h3⟩
          have b3 : Below w2.heap.size w2 w3 := by
            rcases h3 with rfl | ⟨t, rfl⟩
            · exact Below.refl _ _
            · exact Go.Joins.below_bytesWorld _ _ _ _ (Nat.le_refl _)
          obtain ⟨r3, y3, z3, g3⟩ := hfin.out w1 w3 r1.out (b2.out.trans (b3.mono b2.out.size))
          replace g3 := hid g3
          clear r3 b3 x2 hEw h3
          go_wp2_with (go_at_call 51; refine (hmw.out _).mono ?_; rintro e w4 ⟨rfl, hw4⟩; have hw5 := hw4.symm; subst hw5)
          go_ret
          exact ⟨false, _, rfl, (g3.out _).1, (fun _ => by rw [hq.out, hn.out]; rfl), fun e => by cases e⟩
        · have hn : Hid (winOf (headT ts) = some v) := by
            show _ = _
            rw [hw.out, if_pos]
            unfold winB at e3
            simp at e3
            omega
          rw [e3] at hmw
          unfold ptr at *
          go_enter Tryz.func88, Tryz.ntmps88
          go_wp2_with fail
          refine htb.out.mono ?_
          rintro e w1 ⟨rfl, r1, x1, hlt1⟩
          replace r1 := hid r1
          have hEw := hid (hE2.out w1 r1.out)
          clear htb hE2
          go_wp2_with fail
          refine (htrim.out _).mono ?_
          rintro e w2 ⟨rfl, b2⟩
          have x2 : w2.cell? ⟨w.heap.size, 0, none⟩ = some (.string ⟨(headT ts).toArray⟩) := (b2.cell (p := ⟨w.heap.size, 0, none⟩) hlt1).trans x1
          replace hEw := hid (hEw.out.below b2)
          replace b2 := hid b2
          clear x1 hlt1 htrim
          go_wp2_with fail
          refine (hat.out _).mono ?_
          rintro e w3 ⟨rfl, h3⟩
          have b3 : Below w2.heap.size w2 w3 := by
            rcases h3 with rfl | ⟨t, rfl⟩
            · exact Below.refl _ _
            · exact Go.Joins.below_bytesWorld _ _ _ _ (Nat.le_refl _)
          obtain ⟨r3, y3, z3, g3⟩ := hfin.out w1 w3 r1.out (b2.out.trans (b3.mono b2.out.size))
          replace g3 := hid g3
          clear r3 b3 x2 hEw h3
          go_wp2_with (go_at_call 51; refine (hmw.out _).mono ?_; rintro e w4 ⟨rfl, hw4⟩; have hw5 := hw4.symm; subst hw5)
          go_ret
          exact ⟨true, _, rfl, (g3.out _).1, (fun e => by cases e), fun _ => ⟨Suf.rst _ _, (v : Int), by rw [hq.out, hn.out]; rfl, (g3.out _).2⟩⟩
      · replace hw := hid hw
        have hat := hid (fun W tp p hv => Tryz.strconv_Atoi_range ⟨(headT ts).toArray⟩ (by have := hs6.out; omega) ha (.iface tp p) W hv (.inr ⟨tp, p, rfl⟩))
        clear e2 ha hs6
        generalize Lib.trimS (headT ts) digits10 = tr at *
        unfold ptr at *
        go_enter Tryz.func88, Tryz.ntmps88
        go_wp2_with fail
        refine htb.out.mono ?_
        rintro e w1 ⟨rfl, r1, x1, hlt1⟩
        replace r1 := hid r1
        have hEw := hid (hE2.out w1 r1.out)
        clear htb hE2
        go_wp2_with fail
        refine (htrim.out _).mono ?_
        rintro e w2 ⟨rfl, b2⟩
        have x2 : w2.cell? ⟨w.heap.size, 0, none⟩ = some (.string ⟨(headT ts).toArray⟩) := (b2.cell (p := ⟨w.heap.size, 0, none⟩) hlt1).trans x1
        replace hEw := hid (hEw.out.below b2)
        replace b2 := hid b2
        clear x1 hlt1 htrim
        go_wp2_with fail
        obtain ⟨tp, p, hev⟩ := hEw.out.er
        refine (hat.out _ tp p hev).mono ?_
        rintro e w3 ⟨N, rfl, -, -, b3⟩
        obtain ⟨r3, y3, z3, g3⟩ := hfin.out w1 w3 r1.out (b2.out.trans (b3.mono b2.out.size))
        replace g3 := hid g3
        clear r3 b3 x2 hEw
        go_wp2
        go_ret
        exact ⟨false, _, rfl, (g3.out _).1, (fun _ => by rw [hq.out, hw.out]; rfl), fun e => by cases e⟩
      · replace hw := hid hw
        have hat := hid (fun W tp p hv => Tryz.strconv_Atoi_syntax ⟨(headT ts).toArray⟩ (by have := hs6.out; omega) ha (.iface tp p) W hv (.inr ⟨tp, p, rfl⟩))
        clear e2 ha hs6
        generalize Lib.trimS (headT ts) digits10 = tr at *
        unfold ptr at *
        go_enter Tryz.func88, Tryz.ntmps88
        go_wp2_with fail
        refine htb.out.mono ?_
        rintro e w1 ⟨rfl, r1, x1, hlt1⟩
        replace r1 := hid r1
        have hEw := hid (hE2.out w1 r1.out)
        clear htb hE2
        go_wp2_with fail
        refine (htrim.out _).mono ?_
        rintro e w2 ⟨rfl, b2⟩
        have x2 : w2.cell? ⟨w.heap.size, 0, none⟩ = some (.string ⟨(headT ts).toArray⟩) := (b2.cell (p := ⟨w.heap.size, 0, none⟩) hlt1).trans x1
        replace hEw := hid (hEw.out.below b2)
        replace b2 := hid b2
        clear x1 hlt1 htrim
        go_wp2_with fail
        obtain ⟨tp, p, hev⟩ := hEw.out.es
        refine (hat.out _ tp p hev).mono ?_
        rintro e w3 ⟨N, rfl, -, -, b3⟩
        obtain ⟨r3, y3, z3, g3⟩ := hfin.out w1 w3 r1.out (b2.out.trans (b3.mono b2.out.size))
        replace g3 := hid g3
        clear r3 b3 x2 hEw
        go_wp2
        go_ret
        exact ⟨false, _, rfl, (g3.out _).1, (fun _ => by rw [hq.out, hw.out]; rfl), fun e => by cases e⟩
end Go.Proofs.YtjhodmpgggaknaaGreatDoor
/- Contract of value. -/
namespace Go.Proofs.YtjhodmpgggaknaaGreatDoor
open Go.RowKit Go.Shelf Go.Maps

def valG (sg : Tx) (ts : List Tk) : Option (Int × List Tk) := if hdk 2 ts then (valOf (sg ++ headT ts)).map (fun v => (v, ts.tail)) else none
def sgOf (o : Bool) : Tx := if o then [45] else []
def valT (ts : List Tk) : Option (Int × List Tk) := valG (sgOf (hd kMinus ts)) (rst (hd kMinus ts) ts)
theorem num_fin {F G : Nat → Prop} {w0 w : World} {b pb po : Nat} (hp : ¬ F pb) (hg : G pb) (hl : w0.heap.size ≤ pb) {cs : Array Value} {T : TypeId} (hc : w.heap[pb]? = some (.cells cs T)) (hpo : po < cs.size) {ts' : List Tk} {ns : List Nd} {fl : Bool} {W W2 : World} (h : RdTo F no w0 w W b ts' ns fl) (hb : Below W.heap.size W W2) : RdTo F G w0 w W2 b ts' ns fl ∧ W2.cell? ⟨pb, po, none⟩ = some cs[po] ∧ W2.frozen? ⟨pb, po, none⟩ = false ∧ ∀ v, RdTo F G w0 w (W2.setCell ⟨pb, po, none⟩ v) b ts' ns fl ∧ (W2.setCell ⟨pb, po, none⟩ v).heap[pb]? = some (.cells (cs.setIfInBounds po v) T) := by
  have hpw := lt_of_block hc
  obtain ⟨F1, r1, k1, i1, f1⟩ := h
  have hpF : ¬ F1 pb := fun hf => by
    rcases f1 pb hf with e | e
    · exact hp e
    · omega
  have hx : W2.heap[pb]? = some (.cells cs T) := by
    rw [hb.block pb (by have := k1.size; omega), k1.block pb hpw (by rintro (e | e); exact hp e; exact e)]
    exact hc
  have kk : Kept (fun k => F k ∨ G k) w W2 := (k1.mono fun k _ hk => hk.elim .inl False.elim).trans (F' := fun _ => False) (kept_below hb) fun _ hk => hk.elim
  exact ⟨⟨F1, r1.below hb, kk, i1, f1⟩, by rw [cell_of hx]; simp [hpo], frozen_of hx po, fun v => ⟨⟨F1, (r1.below hb).turned hpF hl, kk.trans (kept_set (F := G) _ _ _ _ hg) fun k hk => .inl (.inr hk), i1, f1⟩, heap_set_at hx _⟩⟩
theorem RdTo.next {F : Nat → Prop} {w0 w w1 : World} {b : Nat} {ts : List Tk} {ns : List Nd} {fl : Bool} (h : RdTo F no w0 w w1 b ts ns fl) : ∃ F1, RdAt F1 w0 w1 b ts ns fl ∧ ∀ {w2 : World} {ts' : List Tk}, RdTo F1 no w0 w1 w2 b ts' ns fl → RdTo F no w0 w w2 b ts' ns fl := by
  obtain ⟨F1, r1, k1, i1, f1⟩ := h
  exact ⟨F1, r1, fun h2 => h2.comp k1 i1 f1⟩
theorem cat_list (l m : Tx) : ((⟨l.toArray⟩ : ByteArray) ++ ⟨m.toArray⟩).data.toList = l ++ m := by
  simp [ByteArray.data_append]
set_option maxRecDepth 100000 in
set_option maxHeartbeats 4000000 in
theorem value_any {F : Nat → Prop} {w0 w : World} {b : Nat} {ts : List Tk} {ns : List Nd} {fl : Bool} (G : Nat → Prop) (h : RdAt F w0 w b ts ns fl) (pb po : Nat) (hp : ¬ F pb) (hg : G pb) (hl : w0.heap.size ≤ pb) {cs : Array Value} {T : TypeId} (hc : w.heap[pb]? = some (.cells cs T)) (hpo : po < cs.size) (hsm : ∀ t ∈ ts, t.text.length ≤ 4096) :
    Calls Tryz.prog 89 #[ptr b, .pointer (some ⟨pb, po, none⟩)] w (NumPost F G w0 w b pb po cs T ns fl ts (valT ts)) := by
  have ht1 : Hid (Calls Tryz.prog 43 #[.pointer (some ⟨b, 0, none⟩), .int .u8 4, .string ⟨#[45]⟩] w fun e w' => e = .returned (.bool (hd kMinus ts)) ∧ RdTo F no w0 w w' b (rst (hd kMinus ts) ts) ns fl) := takes_any no h 4 [45]
  have hfin : Hid (∀ {ts' : List Tk} {W W2 : World}, RdTo F no w0 w W b ts' ns fl → Below W.heap.size W W2 → RdTo F G w0 w W2 b ts' ns fl ∧ W2.cell? ⟨pb, po, none⟩ = some cs[po] ∧ W2.frozen? ⟨pb, po, none⟩ = false ∧ ∀ v, RdTo F G w0 w (W2.setCell ⟨pb, po, none⟩ v) b ts' ns fl ∧ (W2.setCell ⟨pb, po, none⟩ v).heap[pb]? = some (.cells (cs.setIfInBounds po v) T)) := fun r hb => num_fin hp hg hl hc hpo r hb
  have hlen : Hid ((headT (rst (hd kMinus ts) ts)).length ≤ 4096) := head_len ((Suf.rst _ ts).all (p := fun t => t.text.length ≤ 4096) hsm)
  have hsuf := hid (Suf.rst (hd kMinus ts) ts)
  clear h hc hsm hp hg hl
  obtain ⟨sg, hsg⟩ : ∃ sg, sgOf (hd kMinus ts) = sg := ⟨_, rfl⟩
  have hq : Hid (valT ts = valG sg (rst (hd kMinus ts) ts)) := by show _ = _; rw [← hsg]; rfl
  have hpar : Hid (∀ W : World, Calls Tryz.prog 116 #[.string (⟨(sgOf (hd kMinus ts)).toArray⟩ ++ ⟨(headT (rst (hd kMinus ts) ts)).toArray⟩)] W fun e w' => e = .returned (.tuple #[.int .i64 (Num.parseN (sg ++ headT (rst (hd kMinus ts) ts))), .int .i64 (Num.parseE (sg ++ headT (rst (hd kMinus ts) ts)))]) ∧ w' = W) := fun W => by
    have := Num.parse_any (⟨(sgOf (hd kMinus ts)).toArray⟩ ++ ⟨(headT (rst (hd kMinus ts) ts)).toArray⟩) W (by
      rw [Lib.size_eq, cat_list, List.length_append]
      have h1 := hlen.out
      have h2 : (sgOf (hd kMinus ts)).length ≤ 1 := by cases hd kMinus ts <;> decide
      unfold maxLen; omega)
    rw [cat_list] at this
    rw [hsg] at this ⊢
    exact this
  generalize hts1 : rst (hd kMinus ts) ts = ts1 at *
  clear hts1
  cases e1 : hd kMinus ts
  all_goals
    rw [e1] at ht1 hpar
    clear hsg
    unfold sgOf at hpar
    simp only [if_true, Bool.false_eq_true, if_false] at hpar
    unfold ptr
    go_enter Tryz.func89, Tryz.ntmps89
    go_wp2_with fail
    refine ht1.out.mono ?_
    rintro e w1 ⟨rfl, r1⟩
    obtain ⟨F1, a1, n1⟩ := r1.next
    have htb := hid (take_box a1 2)
    have hcomp := hid (fun W (r : RdTo F1 no w0 w1 W b (rst (hdk 2 ts1) ts1) ns fl) => n1 r)
    clear r1 n1 a1 ht1 e1
    unfold ptr at htb
    cases e2 : hdk 2 ts1
    · have hno : Hid (valT ts = none) := by show _ = _; rw [hq.out]; unfold valG; rw [e2]; rfl
      rw [e2] at htb hcomp
      clear e2
      go_wp2_with fail
      refine htb.out.mono ?_
      rintro e w2 ⟨rfl, r2, x2, -⟩
      have r3 := hid (hfin.out (hcomp.out _ r2) (Below.refl _ _)).1
      clear r2 x2
      go_wp2
      go_ret
      exact ⟨false, _, rfl, r3.out, (fun _ => hno.out), fun e => by cases e⟩
    · have hq2 : Hid (valT ts = (valOf (sg ++ headT ts1)).map (fun v => (v, ts1.tail))) := by show _ = _; rw [hq.out]; unfold valG; rw [e2]; rfl
      rw [e2] at htb hcomp
      simp only [if_true] at htb
      clear e2 hq
      go_wp2_with fail
      refine htb.out.mono ?_
      rintro e w2 ⟨rfl, r2, x2, -⟩
      obtain ⟨r3, y3, z3, g3⟩ := hfin.out (hcomp.out _ r2) (Below.refl _ w2)
      replace g3 := hid g3
      have hl2 := hlen.out
      have e8 : (⟨(headT ts1).toArray⟩ : ByteArray).size = (headT ts1).length := by simp [ByteArray.size]
      clear r2 r3 hlen hcomp htb hfin
      go_wp2_with fail
      refine (hpar.out _).mono ?_
      rintro e w3 ⟨rfl, rfl⟩
      clear hpar
      by_cases e9 : Num.parseE (sg ++ headT ts1) = 0
      · have hv : Hid (valT ts = some (Num.parseN (sg ++ headT ts1), ts1.tail)) := by
          show _ = _
          rw [hq2.out]; unfold valOf; rw [if_pos e9]; rfl
        have q : ((Num.parseE (sg ++ headT ts1) : Int) == 0) = true := by simp [e9]
        generalize Num.parseE (sg ++ headT ts1) = pe at *
        generalize Num.parseN (sg ++ headT ts1) = pn at *
        clear e9 hq2
        go_wp2
        go_ret
        exact ⟨true, _, rfl, (g3.out _).1, (fun e => by cases e), fun _ => ⟨(Suf.tail _).trans hsuf.out, pn, hv.out, (g3.out _).2⟩⟩
      · have hv : Hid (valT ts = none) := by
          show _ = _
          rw [hq2.out]; unfold valOf; rw [if_neg e9]; rfl
        have q : ((Num.parseE (sg ++ headT ts1) : Int) == 0) = false := by rw [beq_eq_false_iff_ne]; exact e9
        generalize Num.parseE (sg ++ headT ts1) = pe at *
        generalize Num.parseN (sg ++ headT ts1) = pn at *
        clear e9 hq2
        go_wp2
        go_ret
        exact ⟨false, _, rfl, (g3.out _).1, (fun _ => hv.out), fun e => by cases e⟩
end Go.Proofs.YtjhodmpgggaknaaGreatDoor
/- Contract of comparison: plain part, and what stays between its calls. -/
namespace Go.Proofs.YtjhodmpgggaknaaGreatDoor
open Go.RowKit Go.Shelf Go.Maps

theorem keysT_tail (ts : List Tk) : keysT ts.tail = (keysT ts).tail := by
  cases ts <;> rfl
theorem hd_keys {k : Key} {ts : List Tk} (h : hd k ts = true) : keysT ts = k :: keysT ts.tail := by
  obtain ⟨r, h1, h2⟩ := (hd_key k ts).1 h
  rw [h1, h2]
theorem keys_hd {k : Key} {ts : List Tk} {r : List Key} (h : keysT ts = k :: r) : hd k ts = true ∧ r = keysT ts.tail := by
  have e : r = keysT ts.tail := by rw [keysT_tail, h]; rfl
  exact ⟨(hd_key k ts).2 ⟨r, h, e⟩, e⟩
theorem hdk_keys {k : Nat} {ts : List Tk} (h : hdk k ts = true) : keysT ts = (k, headT ts) :: keysT ts.tail := by
  cases ts with
  | nil => cases h
  | cons t ts =>
    simp [hdk] at h
    simp [keysT, Tk.key, h, headT]
theorem keys_hdk {k : Nat} {s : Tx} {ts : List Tk} {r : List Key} (h : keysT ts = (k, s) :: r) : hdk k ts = true ∧ s = headT ts ∧ r = keysT ts.tail := by
  cases ts with
  | nil => cases h
  | cons t ts =>
    simp [keysT, Tk.key] at h
    obtain ⟨⟨h1, h2⟩, h3⟩ := h
    exact ⟨by simp [hdk, h1], by rw [← h2]; rfl, by rw [← h3]; rfl⟩
theorem agg_some {s : Tx} {a : UInt8} (h : aggOf s = some a) : (findR aggMap s).isSome = true := by rw [agg_find, h]; rfl
theorem cmp_no1 {ts : List Tk} (h : (hdk 1 ts && (findR aggMap (headT ts)).isSome) = false) : cmpP (keysT ts) = none := by
  cases hc : cmpP (keysT ts) with
  | none => rfl
  | some p =>
    obtain ⟨s, r0, a, sel, r2, e, ha, hs, hm, ht⟩ := cmpP_inv (c := p.1) (r := p.2) hc
    obtain ⟨h1, rfl, -⟩ := keys_hdk e
    rw [h1, agg_some ha] at h; cases h
theorem cmp_no2 {ts : List Tk} (h : hd kOpen ts.tail = false) : cmpP (keysT ts) = none := by
  cases hc : cmpP (keysT ts) with
  | none => rfl
  | some p =>
    obtain ⟨s, r0, a, sel, r2, e, ha, hs, hm, ht⟩ := cmpP_inv (c := p.1) (r := p.2) hc
    obtain ⟨-, -, h2⟩ := keys_hdk e
    rw [(keys_hd h2.symm).1] at h; cases h
theorem cmp_no3 {ts : List Tk} (h : ∀ r, keysT ts.tail.tail = kBrace :: r → selQ r = none) : cmpP (keysT ts) = none := by
  cases hc : cmpP (keysT ts) with
  | none => rfl
  | some p =>
    obtain ⟨s, r0, a, sel, r2, e, ha, hs, hm, ht⟩ := cmpP_inv (c := p.1) (r := p.2) hc
    obtain ⟨-, -, h2⟩ := keys_hdk e
    have h3 := (keys_hd h2.symm).2
    have h4 := h r0 h3.symm
    unfold selQ at h4
    rw [hs] at h4
    simp [hm] at h4
theorem cmp_yes {ts ts4 : List Tk} (h1 : (hdk 1 ts && (findR aggMap (headT ts)).isSome) = true) (h2 : hd kOpen ts.tail = true) {r : List Key} (h3 : keysT ts.tail.tail = kBrace :: r) {sel : List Mat.Mt} (h4 : selQ r = some (sel, keysT ts4)) : ∃ a, findR aggMap (headT ts) = some a.toNat ∧ cmpP (keysT ts) = tailP a sel (keysT ts4) := by
  simp only [Bool.and_eq_true] at h1
  obtain ⟨h1, h5⟩ := h1
  rw [agg_find] at h5
  cases ha : aggOf (headT ts) with
  | none => rw [ha] at h5; cases h5
  | some a =>
    refine ⟨a, by rw [agg_find, ha]; rfl, ?_⟩
    rw [hdk_keys h1, hd_keys h2, h3, cmpP, if_pos ⟨rfl, rfl, rfl⟩, ha]
    simp only
    unfold selQ at h4
    cases hs : selP r with
    | none => rw [hs] at h4; cases h4
    | some p =>
      rw [hs] at h4
      simp only at h4
      split at h4
      · rename_i hm
        cases h4
        simp only
        rw [if_pos hm]
      · cases h4
def tailT (a : UInt8) (sel : List Mat.Mt) (ts : List Tk) : Option (Cm × List Tk) :=
  if hd kSq ts then (match winT ts.tail with
    | none => none
    | some (n, t2) => if hd kSqE t2 then (if hd kEnd t2.tail then (if hdk 4 t2.tail.tail && (findR cmpMap (headT t2.tail.tail)).isSome then (valT t2.tail.tail.tail).map (fun p => (⟨a, sel, n, UInt8.ofNat ((findR cmpMap (headT t2.tail.tail)).getD 0), p.1⟩, p.2)) else none) else none) else none) else none
theorem valG_keys (sg : Tx) (ts : List Tk) : numM sg (keysT ts) = (valG sg ts).map (fun p => (p.1, keysT p.2)) := by
  cases ts with
  | nil => rfl
  | cons t ts =>
    show numM sg (t.key :: keysT ts) = _
    rw [numM]
    unfold valG
    by_cases h : t.kind = 2
    · have h2 : hdk 2 (t :: ts) = true := by simp [hdk, h]
      rw [if_pos h2, if_pos (show t.key.1 = 2 from h), Option.map_map]
      rfl
    · have h2 : hdk 2 (t :: ts) = false := by simp [hdk, h]
      have h3 : ¬ (hdk 2 (t :: ts) = true) := by rw [h2]; decide
      rw [if_neg (show ¬ t.key.1 = 2 from h), if_neg h3]
      rfl
theorem val_keys (ts : List Tk) : numP (keysT ts) = (valT ts).map (fun p => (p.1, keysT p.2)) := by
  unfold valT
  cases h : hd kMinus ts
  · show _ = Option.map _ (valG [] ts)
    rw [← valG_keys]
    cases hk : keysT ts with
    | nil => rfl
    | cons x r => rw [numP, if_neg (fun e => hd_not h r (by rw [hk, e]))]
  · show _ = Option.map _ (valG [45] ts.tail)
    rw [← valG_keys, hd_keys h, numP, if_pos rfl]
theorem tail_no1 {a : UInt8} {sel : List Mat.Mt} {ts : List Tk} (h : hd kSq ts = false) : tailP a sel (keysT ts) = none := by
  cases hc : tailP a sel (keysT ts) with
  | none => rfl
  | some q =>
    obtain ⟨d, s, r0, n, p, v, e, -⟩ := tailP_inv (c := q.1) (r := q.2) hc
    rw [(keys_hd e).1] at h; cases h
theorem win_of {ts : List Tk} {d : Tx} {r : List Key} (e : keysT ts = (2, d) :: r) : winT ts = (winOf d).map (fun n => ((n : Int), ts.tail)) := by
  obtain ⟨h1, h2, h3⟩ := keys_hdk e
  unfold winT
  rw [if_pos h1, h2]
theorem tail_no2 {a : UInt8} {sel : List Mat.Mt} {ts : List Tk} (h : winT ts.tail = none) : tailP a sel (keysT ts) = none := by
  cases hc : tailP a sel (keysT ts) with
  | none => rfl
  | some q =>
    obtain ⟨d, s, r0, n, p, v, e, h1, -⟩ := tailP_inv (c := q.1) (r := q.2) hc
    have e2 := (keys_hd e).2
    rw [win_of e2.symm, h1] at h; cases h
theorem win_tail {ts t2 : List Tk} {n : Int} (h : winT ts = some (n, t2)) : hdk 2 ts = true ∧ t2 = ts.tail ∧ ∃ m : Nat, winOf (headT ts) = some m ∧ n = m := by
  unfold winT at h
  split at h
  · rename_i h1
    cases hw : winOf (headT ts) with
    | none => rw [hw] at h; cases h
    | some m => rw [hw] at h; cases h; exact ⟨h1, rfl, m, rfl, rfl⟩
  · cases h
theorem tail_no3 {a : UInt8} {sel : List Mat.Mt} {ts t2 : List Tk} {n : Int} (hw : winT ts.tail = some (n, t2)) (h : hd kSqE t2 = false) : tailP a sel (keysT ts) = none := by
  cases hc : tailP a sel (keysT ts) with
  | none => rfl
  | some q =>
    obtain ⟨d, s, r0, n, p, v, e, -⟩ := tailP_inv (c := q.1) (r := q.2) hc
    obtain ⟨-, rfl, -⟩ := win_tail hw
    have e2 := (keys_hd e).2
    have e3 := (keys_hdk e2.symm).2.2
    rw [(keys_hd e3.symm).1] at h; cases h
theorem tail_no4 {a : UInt8} {sel : List Mat.Mt} {ts t2 : List Tk} {n : Int} (hw : winT ts.tail = some (n, t2)) (h : hd kEnd t2.tail = false) : tailP a sel (keysT ts) = none := by
  cases hc : tailP a sel (keysT ts) with
  | none => rfl
  | some q =>
    obtain ⟨d, s, r0, n, p, v, e, -⟩ := tailP_inv (c := q.1) (r := q.2) hc
    obtain ⟨-, rfl, -⟩ := win_tail hw
    have e2 := (keys_hd e).2
    have e3 := (keys_hdk e2.symm).2.2
    have e4 := (keys_hd e3.symm).2
    rw [(keys_hd e4.symm).1] at h; cases h
theorem tail_no5 {a : UInt8} {sel : List Mat.Mt} {ts t2 : List Tk} {n : Int} (hw : winT ts.tail = some (n, t2)) (h : (hdk 4 t2.tail.tail && (findR cmpMap (headT t2.tail.tail)).isSome) = false) : tailP a sel (keysT ts) = none := by
  cases hc : tailP a sel (keysT ts) with
  | none => rfl
  | some q =>
    obtain ⟨d, s, r0, n, p, v, e, h1, h2, -⟩ := tailP_inv (c := q.1) (r := q.2) hc
    obtain ⟨-, rfl, -⟩ := win_tail hw
    have e2 := (keys_hd e).2
    have e3 := (keys_hdk e2.symm).2.2
    have e4 := (keys_hd e3.symm).2
    have e5 := (keys_hd e4.symm).2
    obtain ⟨e6, rfl, -⟩ := keys_hdk e5.symm
    rw [e6, cmp_find, h2] at h; cases h
theorem tail_yes {a : UInt8} {sel : List Mat.Mt} {ts t2 : List Tk} {n : Int} (h1 : hd kSq ts = true) (hw : winT ts.tail = some (n, t2)) (h2 : hd kSqE t2 = true) (h3 : hd kEnd t2.tail = true) (h4 : (hdk 4 t2.tail.tail && (findR cmpMap (headT t2.tail.tail)).isSome) = true) : ∃ c, findR cmpMap (headT t2.tail.tail) = some c.toNat ∧ tailP a sel (keysT ts) = (valT t2.tail.tail.tail).map (fun q => (⟨a, sel, n, c, q.1⟩, keysT q.2)) := by
  obtain ⟨h5, rfl, m, h6, rfl⟩ := win_tail hw
  simp only [Bool.and_eq_true] at h4
  obtain ⟨h4, h7⟩ := h4
  rw [cmp_find] at h7 ⊢
  cases hc : cmpOf (headT ts.tail.tail.tail.tail) with
  | none => rw [hc] at h7; cases h7
  | some c =>
    refine ⟨c, rfl, ?_⟩
    rw [hd_keys h1, hdk_keys h5, hd_keys h2, hd_keys h3, hdk_keys h4, tailP, if_pos ⟨rfl, rfl, rfl, rfl, rfl⟩, h6, val_keys, hc]
    simp only [Option.map_map]
    rfl
/-- between comparison's calls. -/
structure CI (F F1 : Nat → Prop) (w0 w : World) (b pb : Nat) (cs : Array Value) (ns : List Nd) (fl : Bool) (ts1 : List Tk) (sel : List Mat.Mt) (sv : Value) (W : World) : Prop where
  rd : RdAt F1 w0 W b ts1 ns fl
  kept : Kept F w W
  inc : ∀ k, F k → F1 k
  new : ∀ k, F1 k → F k ∨ w.heap.size ≤ k
  box : W.heap[pb]? = some (.cells cs 31)
  far : w.heap.size ≤ pb
  out : ¬ F1 pb
  own : Mat.OwnM w0.heap.size W sv sel
  sep : ∀ k, sv.ownBlock = some k → w.heap.size ≤ k ∧ ¬ F1 k
theorem CI.to {F F1 : Nat → Prop} {w0 w : World} {b pb : Nat} {cs : Array Value} {ns : List Nd} {fl : Bool} {ts1 : List Tk} {sel : List Mat.Mt} {sv : Value} {W : World} (h : CI F F1 w0 w b pb cs ns fl ts1 sel sv W) : RdTo F no w0 w W b ts1 ns fl := ⟨F1, h.rd, h.kept.mono fun _ _ hk => .inl hk, h.inc, h.new⟩
theorem CI.below {F F1 : Nat → Prop} {w0 w : World} {b pb : Nat} {cs : Array Value} {ns : List Nd} {fl : Bool} {ts1 : List Tk} {sel : List Mat.Mt} {sv : Value} {W W2 : World} (h : CI F F1 w0 w b pb cs ns fl ts1 sel sv W) (hb : Below W.heap.size W W2) : CI F F1 w0 w b pb cs ns fl ts1 sel sv W2 :=
  ⟨h.rd.below hb, h.kept.trans (F' := fun _ => False) (kept_below hb) fun _ hk => hk.elim, h.inc, h.new, (hb.block pb (lt_of_block h.box)).trans h.box, h.far, h.out, h.own.below hb, h.sep⟩
/-- a call that turns the reader and the box alone. -/
theorem CI.call {F F1 : Nat → Prop} {w0 w : World} {b pb : Nat} {cs cs2 : Array Value} {ns : List Nd} {fl : Bool} {ts1 ts2 : List Tk} {sel : List Mat.Mt} {sv : Value} {W W2 : World} {G' : Nat → Prop} (h : CI F F1 w0 w b pb cs ns fl ts1 sel sv W) (hr : RdTo F1 G' w0 W W2 b ts2 ns fl) (hG : ∀ k, G' k → k = pb) (hx : W2.heap[pb]? = some (.cells cs2 31)) : ∃ F2, CI F F2 w0 w b pb cs2 ns fl ts2 sel sv W2 := by
  obtain ⟨F2, r2, k2, i2, f2⟩ := hr
  have hpb := lt_of_block h.box
  have hsv : ∀ k, sv.ownBlock = some k → k ≠ pb := fun k hk e => by
    obtain ⟨c, hc⟩ := ownM_block h.own hk
    rw [e, h.box] at hc
    simp at hc
  refine ⟨F2, r2, h.kept.trans k2 fun k hk => ?_, fun k hk => i2 k (h.inc k hk), fun k hk => ?_, hx, h.far, fun hf => ?_, h.own.keep fun k hk => ?_, fun k hk => ⟨(h.sep k hk).1, fun hf => ?_⟩⟩
  · rcases hk with hk | hk
    · exact h.new k hk
    · rw [hG k hk]; exact .inr h.far
  · rcases f2 k hk with e | e
    · exact h.new k e
    · exact .inr (Nat.le_trans h.kept.size e)
  · rcases f2 pb hf with e | e
    · exact h.out e
    · omega
  · exact k2.block k (h.own.lt hk).2 (by rintro (e | e); exact (h.sep k hk).2 e; exact hsv k hk (hG k e))
  · rcases f2 k hf with e | e
    · exact (h.sep k hk).2 e
    · have := (h.own.lt hk).2; omega
theorem CI.same {F F1 : Nat → Prop} {w0 w : World} {b pb : Nat} {cs : Array Value} {ns : List Nd} {fl : Bool} {ts1 ts2 : List Tk} {sel : List Mat.Mt} {sv : Value} {W W2 : World} (h : CI F F1 w0 w b pb cs ns fl ts1 sel sv W) (hr : RdTo F1 no w0 W W2 b ts2 ns fl) : ∃ F2, CI F F2 w0 w b pb cs ns fl ts2 sel sv W2 := by
  refine h.call hr (fun k hk => hk.elim) ?_
  obtain ⟨F2, r2, k2, i2, f2⟩ := hr
  rw [k2.block pb (lt_of_block h.box) (by rintro (e | e); exact h.out e; exact e)]
  exact h.box
/-- matchers' call. -/
theorem CI.sel {F F1 F2 : Nat → Prop} {w0 w : World} {b pb : Nat} {cs : Array Value} {ns : List Nd} {fl : Bool} {ts1 ts2 : List Tk} {sel sel0 : List Mat.Mt} {sv sv0 : Value} {W W2 : World} {G' : Nat → Prop} (h : CI F F1 w0 w b pb cs ns fl ts1 sel0 sv0 W) (hG : ∀ k, G' k → k = pb) (hm : MsI F1 G' F2 w0 W b pb cs 31 ns fl ts2 sel sv W2) : CI F F2 w0 w b pb (cs.setIfInBounds 2 sv) ns fl ts2 sel sv W2 := by
  refine ⟨hm.rd, h.kept.trans hm.kept fun k hk => ?_, fun k hk => hm.inc k (h.inc k hk), fun k hk => ?_, hm.box, h.far, fun hf => ?_, hm.own, fun k hk => ⟨Nat.le_trans h.kept.size (hm.sep k hk).1, (hm.sep k hk).2⟩⟩
  · rcases hk with hk | hk
    · exact h.new k hk
    · rw [hG k hk]; exact .inr h.far
  · rcases hm.new k hk with e | e
    · exact h.new k e
    · exact .inr (Nat.le_trans h.kept.size e)
  · rcases hm.new pb hf with e | e
    · exact h.out e
    · have := lt_of_block h.box; omega
/-- the end of it: add. -/
theorem CI.add {F F1 S : Nat → Prop} {w0 w : World} {b pb : Nat} {cs : Array Value} {ns ns2 : List Nd} {fl fl2 : Bool} {ts1 ts2 : List Tk} {sel : List Mat.Mt} {sv : Value} {W W2 : World} (h : CI F F1 w0 w b pb cs ns fl ts1 sel sv W) (hr : RdAdd F1 S w0 W W2 b ts2 ns2 fl2) (hS : ∀ k, S k → sv.ownBlock = some k) : RdTo F no w0 w W2 b ts2 ns2 fl2 := by
  obtain ⟨F2, r2, k2, i2, f2⟩ := hr
  refine ⟨F2, r2, (h.kept.trans k2 fun k hk => h.new k hk).mono fun k _ hk => .inl hk, fun k hk => i2 k (h.inc k hk), fun k hk => ?_⟩
  rcases f2 k hk with e | e | e
  · exact h.new k e
  · exact .inr (h.sep k (hS k e)).1
  · exact .inr (Nat.le_trans h.kept.size e)
end Go.Proofs.YtjhodmpgggaknaaGreatDoor
/- Contract of comparison: its walk. -/
namespace Go.Proofs.YtjhodmpgggaknaaGreatDoor
open Go.RowKit Go.Shelf Go.Maps

theorem set_same {w : World} {b o : Nat} {c : Array Value} {t : TypeId} {fz : Nat × Nat} {v : Value} (h : w.heap[b]? = some (.cells c t fz)) (hv : c[o]? = some v) : w.setCell ⟨b, o, none⟩ v = w := by
  have e : (w.setCell ⟨b, o, none⟩ v).heap = w.heap := by
    apply Array.ext_getElem?
    intro i
    by_cases hi : i = b
    · subst hi
      obtain ⟨h1, h2⟩ := Array.getElem?_eq_some_iff.1 hv
      have h3 : c.setIfInBounds o v = c := by
        apply Array.ext'
        simp [Array.setIfInBounds, h1, ← h2]
      rw [heap_set_at h, h3, h]
    · exact heap_set w b o v i hi
  show { w with heap := (w.setCell ⟨b, o, none⟩ v).heap } = w
  rw [e]
theorem agg_of {ts : List Tk} (h : (hdk 1 ts && (findR aggMap (headT ts)).isSome) = true) : hdk 1 ts = true ∧ ∃ a : UInt8, findR aggMap (headT ts) = some a.toNat := by
  simp only [Bool.and_eq_true] at h
  refine ⟨h.1, ?_⟩
  have h2 := h.2
  rw [agg_find] at h2 ⊢
  cases ha : aggOf (headT ts) with
  | none => rw [ha] at h2; cases h2
  | some a => exact ⟨a, rfl⟩
theorem CI.into {F F1 G' : Nat → Prop} {w0 w : World} {b pb : Nat} {cs : Array Value} {ns : List Nd} {fl : Bool} {ts1 ts2 : List Tk} {sel : List Mat.Mt} {sv : Value} {W W2 : World} (h : CI F F1 w0 w b pb cs ns fl ts1 sel sv W) (hr : RdTo F1 G' w0 W W2 b ts2 ns fl) (hG : ∀ k, G' k → k = pb) : RdTo F no w0 w W2 b ts2 ns fl := by
  obtain ⟨F2, r2, k2, i2, f2⟩ := hr
  refine ⟨F2, r2, (h.kept.trans k2 fun k hk => ?_).mono fun _ _ hk => .inl hk, fun k hk => i2 k (h.inc k hk), fun k hk => ?_⟩
  · rcases hk with hk | hk
    · exact h.new k hk
    · rw [hG k hk]; exact .inr h.far
  · rcases f2 k hk with e | e
    · exact h.new k e
    · exact .inr (Nat.le_trans h.kept.size e)
def CmpPost (F : Nat → Prop) (w0 w : World) (b : Nat) (ts : List Tk) (ns : List Nd) (fl : Bool) (e : Ending) (w' : World) : Prop :=
  ∃ ts', (e = .returned (.tuple #[.int .i64 0, .bool false]) ∧ RdTo F no w0 w w' b ts' ns fl ∧ cmpP (keysT ts) = none) ∨ (∃ c, e = .returned (.tuple #[.int .i64 (addR ns), .bool true]) ∧ cmpP (keysT ts) = some (c, keysT ts') ∧ Suf ts' ts ∧ RdTo F no w0 w w' b ts' (addN ns (cmpNd c)) (addF ns fl))
set_option maxRecDepth 100000 in
set_option maxHeartbeats 4000000 in
theorem comparison_any {F : Nat → Prop} {w0 w : World} {b : Nat} {ts : List Tk} {ns : List Nd} {fl : Bool} (h : RdAt F w0 w b ts ns fl) (hE : EnvE w0) (hsm : ∀ t ∈ ts, t.text.length ≤ 4096) :
    Calls Tryz.prog 63 #[ptr b] w (CmpPost F w0 w b ts ns fl) := by
  have hCI : Hid (CI F F w0 w b w.heap.size #[.int .u8 0, .int .u8 0, .slice none 0 0, .int .i64 0, .int .u8 0, .int .i64 0, .int .i64 0, .int .i64 0] ns fl ts [] (.slice none 0 0) (w.alloc (.cells #[.int .u8 0, .int .u8 0, .slice none 0 0, .int .i64 0, .int .u8 0, .int .i64 0, .int .i64 0, .int .i64 0] 31))) :=
    ⟨h.below (alloc_below _ _), kept_below (alloc_below _ _), fun _ h => h, fun _ h => .inl h, new_block _ _, Nat.le_refl _, h.old (Nat.le_refl _), Mat.ownM_nil _ _, fun k hk => by cases hk⟩
  obtain ⟨W0, hW⟩ : ∃ W0, w.alloc (.cells #[.int .u8 0, .int .u8 0, .slice none 0 0, .int .i64 0, .int .u8 0, .int .i64 0, .int .i64 0, .int .i64 0] 31) = W0 := ⟨_, rfl⟩
  rw [hW] at hCI
  have bx := hCI.out.box
  have s0 : W0.setCell ⟨w.heap.size, 0, none⟩ (.int .u8 0) = W0 := set_same bx rfl
  have s1 : W0.setCell ⟨w.heap.size, 1, none⟩ (.int .u8 0) = W0 := set_same bx rfl
  have s2 : W0.setCell ⟨w.heap.size, 2, none⟩ (.slice none 0 0) = W0 := set_same bx rfl
  have s3 : W0.setCell ⟨w.heap.size, 3, none⟩ (.int .i64 0) = W0 := set_same bx rfl
  have s4 : W0.setCell ⟨w.heap.size, 4, none⟩ (.int .u8 0) = W0 := set_same bx rfl
  have s5 : W0.setCell ⟨w.heap.size, 5, none⟩ (.int .i64 0) = W0 := set_same bx rfl
  have s6 : W0.setCell ⟨w.heap.size, 6, none⟩ (.int .i64 0) = W0 := set_same bx rfl
  have s7 : W0.setCell ⟨w.heap.size, 7, none⟩ (.int .i64 0) = W0 := set_same bx rfl
  have x0 := cell_of bx 0
  have x1 := cell_of bx 1
  have x2 := cell_of bx 2
  have x3 := cell_of bx 3
  have x4 := cell_of bx 4
  have x5 := cell_of bx 5
  have x6 := cell_of bx 6
  have x7 := cell_of bx 7
  simp at x0 x1 x2 x3 x4 x5 x6 x7
  have f0 := frozen_of bx 0
  have f1 := frozen_of bx 1
  have f2 := frozen_of bx 2
  have f3 := frozen_of bx 3
  have f4 := frozen_of bx 4
  have f5 := frozen_of bx 5
  have f6 := frozen_of bx 6
  have f7 := frozen_of bx 7
  have hlow : Hid (w0.heap.size ≤ w.heap.size) := h.low.size
  replace hE := hid hE
  replace hsm := hid hsm
  clear bx h
  unfold ptr
  go_enter Tryz.func63, Tryz.ntmps63
  go_wp2_with (rw [hW])
  clear s0 s1 s2 s3 s4 s5 s6 s7 x0 x1 x2 x3 x4 x5 x6 x7 f0 f1 f2 f3 f4 f5 f6 f7 hW
  refine (aggregates_any W0).mono ?_
  rintro e W1 ⟨bm, rfl, hbm, hma, hb1⟩
  have hst := hid (stands_any (fun k => k = w.heap.size) (hCI.out.below hb1).rd 1 w.heap.size 1 bm (hCI.out.below hb1).out rfl hlow.out (hCI.out.below hb1).box (by decide) hma (hCI.out.rd.old hbm) (fun t ht => by have := hsm.out t ht; unfold maxLen; omega))
  have hC := hid (hCI.out.below hb1)
  clear hCI hb1 hma hbm
  unfold ptr at hst
  cases e1 : (hdk 1 ts && (findR aggMap (headT ts)).isSome)
  · have hno : Hid (cmpP (keysT ts) = none) := cmp_no1 e1
    rw [e1] at hst
    go_wp2_with fail
    refine hst.out.mono ?_
    rintro e W2 ⟨rfl, r2, x2⟩
    obtain ⟨F2, hD⟩ := hC.out.call r2 (fun k h => h) x2
    replace hD := hid hD
    clear hC r2 x2 hst
    go_wp2
    go_ret2
    exact ⟨_, .inl ⟨rfl, hD.out.to, hno.out⟩⟩
  · obtain ⟨e1a, a, e1b⟩ := agg_of e1
    rw [e1, e1a, e1b] at hst
    go_wp2_with fail
    refine hst.out.mono ?_
    rintro e W2 ⟨rfl, r2, x2⟩
    obtain ⟨F2, hD⟩ := hC.out.call (cs2 := #[.int .u8 0, .int .u8 (a.toNat : Int), .slice none 0 0, .int .i64 0, .int .u8 0, .int .i64 0, .int .i64 0, .int .i64 0]) (ts2 := ts.tail) r2 (fun k h => h) x2
    replace hC := hid hD
    clear hD r2 x2 hst e1a
    have htk : Hid (Calls Tryz.prog 43 #[.pointer (some ⟨b, 0, none⟩), .int .u8 4, .string ⟨#[40]⟩] W2 fun e w' => e = .returned (.bool (hd kOpen (ts.tail))) ∧ RdTo _ no w0 W2 w' b (rst (hd kOpen (ts.tail)) (ts.tail)) ns fl) := takes_any no hC.out.rd 4 [40]
    cases e2 : hd kOpen (ts.tail)
    · have hno : Hid (cmpP (keysT ts) = none) := cmp_no2 e2
      rw [e2] at htk
      go_wp2_with fail
      refine htk.out.mono ?_
      rintro e W3 ⟨rfl, r2⟩
      obtain ⟨_, hD⟩ := hC.out.same r2
      replace hD := hid hD
      clear hC r2 htk
      go_wp2
      go_ret2
      exact ⟨_, .inl ⟨rfl, hD.out.to, hno.out⟩⟩
    · rw [e2] at htk
      go_wp2_with fail
      refine htk.out.mono ?_
      rintro e W3 ⟨rfl, r2⟩
      obtain ⟨_, hD⟩ := hC.out.same (ts2 := (ts.tail).tail) r2
      replace hC := hid hD
      clear hD r2 htk
      have hms := hid (matchers_any (fun k => k = w.heap.size) hC.out.rd w.heap.size hC.out.out rfl hlow.out hC.out.box rfl (by decide) (tail_mem (tail_mem hsm.out)))
      unfold ptr at hms
      go_wp2_with fail
      refine hms.out.mono ?_
      rintro e W4 ⟨ok, ts4, rfl, r4, hno4, hyes4⟩
      cases ok
      · have hno : Hid (cmpP (keysT ts) = none) := cmp_no3 (hno4 rfl)
        clear hno4 hyes4 hms
        replace r4 : RdTo F no w0 w W4 b ts4 ns fl := hC.out.into r4 (fun k h => h)
        have hD := hid r4
        clear hC r4
        go_wp2
        go_ret2
        exact ⟨_, .inl ⟨rfl, hD.out, hno.out⟩⟩
      · obtain ⟨hsuf4, q4, sel, sv, F4, e4, e5, hM⟩ := hyes4 rfl
        obtain ⟨a', e6, e7⟩ := cmp_yes e1 e2 e4 e5
        have e8 : a' = a := by
          rw [e1b] at e6
          exact (UInt8.toNat_inj.1 (by injection e6 with e6; exact e6.symm))
        subst e8
        have hD := hC.out.sel (fun k h => h) hM
        have hcp := hid e7
        replace hD : CI F _ w0 w b w.heap.size #[.int .u8 0, .int .u8 (a'.toNat : Int), sv, .int .i64 0, .int .u8 0, .int .i64 0, .int .i64 0, .int .i64 0] ns fl ts4 sel sv W4 := hD
        replace hC := hid hD
        have hs4 := hid (hsuf4.trans ((Suf.tail ts.tail).trans (Suf.tail ts)))
        replace hsm := hid (hs4.out.all (p := fun t => t.text.length ≤ 4096) hsm.out)
        clear hD hM hno4 hyes4 hms r4 e4 e5 e6 e7 e1 e1b e2 hsuf4
        have htk : Hid (Calls Tryz.prog 43 #[.pointer (some ⟨b, 0, none⟩), .int .u8 4, .string ⟨#[91]⟩] W4 fun e w' => e = .returned (.bool (hd kSq (ts4))) ∧ RdTo _ no w0 W4 w' b (rst (hd kSq (ts4)) (ts4)) ns fl) := takes_any no hC.out.rd 4 [91]
        cases e9 : hd kSq (ts4)
        · have hno : Hid (cmpP (keysT ts) = none) := by show _ = _; rw [hcp.out]; exact tail_no1 e9
          rw [e9] at htk
          go_wp2_with fail
          refine htk.out.mono ?_
          rintro e W5 ⟨rfl, r2⟩
          obtain ⟨_, hD⟩ := hC.out.same r2
          replace hD := hid hD
          clear hC r2 htk
          go_wp2
          go_ret2
          exact ⟨_, .inl ⟨rfl, hD.out.to, hno.out⟩⟩
        · rw [e9] at htk
          go_wp2_with fail
          refine htk.out.mono ?_
          rintro e W5 ⟨rfl, r2⟩
          obtain ⟨_, hD⟩ := hC.out.same (ts2 := (ts4).tail) r2
          replace hC := hid hD
          clear hD r2 htk
          have hwn := hid (window_any (fun k => k = w.heap.size) hC.out.rd hE.out w.heap.size 3 hC.out.out rfl hlow.out hC.out.box (by simp) (tail_mem hsm.out))
          unfold ptr at hwn
          go_wp2_with fail
          refine hwn.out.mono ?_
          rintro e W6 ⟨ok, ts6, rfl, r6, hno6, hyes6⟩
          cases ok
          · have hno : Hid (cmpP (keysT ts) = none) := by show _ = _; rw [hcp.out]; exact tail_no2 (hno6 rfl)
            clear hno6 hyes6 hwn
            replace r6 : RdTo F no w0 w W6 b ts6 ns fl := hC.out.into r6 (fun k h => h)
            have hD := hid r6
            clear hC r6
            go_wp2
            go_ret2
            exact ⟨_, .inl ⟨rfl, hD.out, hno.out⟩⟩
          · obtain ⟨hsuf6, n, e10, x6⟩ := hyes6 rfl
            obtain ⟨_, hD⟩ := hC.out.call (cs2 := #[.int .u8 0, .int .u8 (a'.toNat : Int), sv, .int .i64 n, .int .u8 0, .int .i64 0, .int .i64 0, .int .i64 0]) r6 (fun k h => h) x6
            replace hC := hid hD
            have hs6 := hid (hsuf6.trans (Suf.tail ts4))
            replace hsm := hid (hs6.out.all (p := fun t => t.text.length ≤ 4096) hsm.out)
            clear hD hno6 hyes6 hwn r6 x6 hsuf6
            have htk : Hid (Calls Tryz.prog 43 #[.pointer (some ⟨b, 0, none⟩), .int .u8 4, .string ⟨#[93]⟩] W6 fun e w' => e = .returned (.bool (hd kSqE (ts6))) ∧ RdTo _ no w0 W6 w' b (rst (hd kSqE (ts6)) (ts6)) ns fl) := takes_any no hC.out.rd 4 [93]
            cases e11 : hd kSqE (ts6)
            · have hno : Hid (cmpP (keysT ts) = none) := by show _ = _; rw [hcp.out]; exact tail_no3 e10 e11
              rw [e11] at htk
              go_wp2_with fail
              refine htk.out.mono ?_
              rintro e W7 ⟨rfl, r2⟩
              obtain ⟨_, hD⟩ := hC.out.same r2
              replace hD := hid hD
              clear hC r2 htk
              go_wp2
              go_ret2
              exact ⟨_, .inl ⟨rfl, hD.out.to, hno.out⟩⟩
            · rw [e11] at htk
              go_wp2_with fail
              refine htk.out.mono ?_
              rintro e W7 ⟨rfl, r2⟩
              obtain ⟨_, hD⟩ := hC.out.same (ts2 := (ts6).tail) r2
              replace hC := hid hD
              clear hD r2 htk
              have htk : Hid (Calls Tryz.prog 43 #[.pointer (some ⟨b, 0, none⟩), .int .u8 4, .string ⟨#[41]⟩] W7 fun e w' => e = .returned (.bool (hd kEnd (ts6.tail))) ∧ RdTo _ no w0 W7 w' b (rst (hd kEnd (ts6.tail)) (ts6.tail)) ns fl) := takes_any no hC.out.rd 4 [41]
              cases e12 : hd kEnd (ts6.tail)
              · have hno : Hid (cmpP (keysT ts) = none) := by show _ = _; rw [hcp.out]; exact tail_no4 e10 e12
                rw [e12] at htk
                go_wp2_with fail
                refine htk.out.mono ?_
                rintro e W8 ⟨rfl, r2⟩
                obtain ⟨_, hD⟩ := hC.out.same r2
                replace hD := hid hD
                clear hC r2 htk
                go_wp2
                go_ret2
                exact ⟨_, .inl ⟨rfl, hD.out.to, hno.out⟩⟩
              · rw [e12] at htk
                go_wp2_with fail
                refine htk.out.mono ?_
                rintro e W8 ⟨rfl, r2⟩
                obtain ⟨_, hD⟩ := hC.out.same (ts2 := (ts6.tail).tail) r2
                replace hC := hid hD
                clear hD r2 htk
                go_wp2_with fail
                refine (compares_any W8).mono ?_
                rintro e W9 ⟨bm2, rfl, hbm, hma, hb1⟩
                have hst := hid (stands_any (fun k => k = w.heap.size) (hC.out.below hb1).rd 4 w.heap.size 4 bm2 (hC.out.below hb1).out rfl hlow.out (hC.out.below hb1).box (by simp) hma (hC.out.rd.old hbm) (fun t ht => by have := (tail_mem (tail_mem hsm.out)) t ht; unfold maxLen; omega))
                replace hC := hid (hC.out.below hb1)
                clear hb1 hma hbm
                unfold ptr at hst
                cases e13 : (hdk 4 ts6.tail.tail && (findR cmpMap (headT ts6.tail.tail)).isSome)
                · have hno : Hid (cmpP (keysT ts) = none) := by show _ = _; rw [hcp.out]; exact tail_no5 e10 e13
                  rw [e13] at hst
                  go_wp2_with fail
                  refine hst.out.mono ?_
                  rintro e W10 ⟨rfl, r2, x2⟩
                  obtain ⟨F2, hD⟩ := hC.out.call r2 (fun k h => h) x2
                  replace hD := hid hD
                  clear hC r2 x2 hst
                  go_wp2
                  go_ret2
                  exact ⟨_, .inl ⟨rfl, hD.out.to, hno.out⟩⟩
                · obtain ⟨c, e14, e15⟩ := tail_yes (a := a') (sel := sel) e9 e10 e11 e12 e13
                  have e13a : hdk 4 ts6.tail.tail = true := by simp only [Bool.and_eq_true] at e13; exact e13.1
                  rw [e13, e13a, e14] at hst
                  replace hcp := hid (hcp.out.trans e15)
                  go_wp2_with fail
                  refine hst.out.mono ?_
                  rintro e W10 ⟨rfl, r2, x2⟩
                  obtain ⟨_, hD⟩ := hC.out.call (cs2 := #[.int .u8 0, .int .u8 (a'.toNat : Int), sv, .int .i64 n, .int .u8 (c.toNat : Int), .int .i64 0, .int .i64 0, .int .i64 0]) (ts2 := ts6.tail.tail.tail) r2 (fun k h => h) x2
                  replace hC := hid hD
                  clear hD r2 x2 hst e9 e10 e11 e12 e13 e13a e14 e15
                  have hva := hid (value_any (fun k => k = w.heap.size) hC.out.rd w.heap.size 5 hC.out.out rfl hlow.out hC.out.box (by simp) (tail_mem (tail_mem (tail_mem hsm.out))))
                  unfold ptr at hva
                  go_wp2_with fail
                  refine hva.out.mono ?_
                  rintro e W11 ⟨ok, ts11, rfl, r6, hno6, hyes6⟩
                  cases ok
                  · have hno : Hid (cmpP (keysT ts) = none) := by show _ = _; rw [hcp.out, hno6 rfl]; rfl
                    clear hno6 hyes6 hva
                    replace r6 : RdTo F no w0 w W11 b ts11 ns fl := hC.out.into r6 (fun k h => h)
                    have hD := hid r6
                    clear hC r6
                    go_wp2
                    go_ret2
                    exact ⟨_, .inl ⟨rfl, hD.out, hno.out⟩⟩
                  · obtain ⟨hsuf6, v, e10, x6⟩ := hyes6 rfl
                    obtain ⟨_, hD⟩ := hC.out.call (cs2 := #[.int .u8 0, .int .u8 (a'.toNat : Int), sv, .int .i64 n, .int .u8 (c.toNat : Int), .int .i64 v, .int .i64 0, .int .i64 0]) r6 (fun k h => h) x6
                    replace hC := hid hD
                    replace hcp : Hid (cmpP (keysT ts) = some (⟨a', sel, n, c, v⟩, keysT ts11)) := by show _ = _; rw [hcp.out, e10]; rfl
                    have hs11 := hid (hsuf6.trans ((Suf.tail _).trans ((Suf.tail _).trans ((Suf.tail _).trans (hs6.out.trans hs4.out)))))
                    clear hD hno6 hyes6 hva r6 x6 hsuf6 e10
                    have bx := hC.out.box
                    have x0 := cell_of bx 0
                    have x1 := cell_of bx 1
                    have x2 := cell_of bx 2
                    have x3 := cell_of bx 3
                    have x4 := cell_of bx 4
                    have x5 := cell_of bx 5
                    have x6 := cell_of bx 6
                    have x7 := cell_of bx 7
                    simp at x0 x1 x2 x3 x4 x5 x6 x7
                    clear bx
                    have had := hid (add_any (S := fun k => sv.ownBlock = some k) hC.out.rd (cmpNd ⟨a', sel, n, c, v⟩) sv hC.out.own (fun k h => h))
                    unfold ptr ndAgg at had
                    go_wp2_with fail
                    refine had.out.mono ?_
                    rintro e W12 ⟨rfl, r12⟩
                    replace hC := hid (hC.out.add r12 (fun k h => h))
                    clear r12 had
                    go_wp2
                    go_ret2
                    exact ⟨ts11, .inr ⟨⟨a', sel, n, c, v⟩, rfl, hcp.out, hs11.out, hC.out⟩⟩
end Go.Proofs.YtjhodmpgggaknaaGreatDoor
