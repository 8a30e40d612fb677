/- Joined: F1 F2 F3. -/
import Derived.Test.YtjhodmpgggaknaaGreatDoorZGM
import Derived.Test.YtjhodmpgggaknaaGreatDoorZGE
import Derived.Test.YtjhodmpgggaknaaGreatDoorZTD
import Derived.Test.YtjhodmpgggaknaaGreatDoorZGG
/- The document's small functions of expr: its tables, is, window. -/
namespace Go.Proofs.YtjhodmpgggaknaaGreatDoor
open Go.RowKit Go.Shelf Go.Maps

/-- does a token stand there? -/
def isK (k : Nat) (t : Tx) : List Key → Bool
  | [] => false
  | x :: _ => x.1 == k && (x.2 == t || t == [42])
def kat (l : List Tk) (i : Nat) : List Key := keysT (l.drop i)
theorem kat_cons {l : List Tk} {i : Nat} {x : Tk} (hx : l[i]? = some x) : kat l i = x.key :: kat l (i + 1) := by
  obtain ⟨hi, e⟩ := List.getElem?_eq_some_iff.1 hx
  unfold kat keysT
  rw [List.drop_eq_getElem_cons hi, e]
  rfl
theorem kat_end {l : List Tk} {i : Nat} (hi : l.length ≤ i) : kat l i = [] := by
  unfold kat keysT
  rw [List.drop_eq_nil_of_le hi]
  rfl
theorem kat_len (l : List Tk) (i : Nat) : (kat l i).length = l.length - i := by simp [kat, keysT]
theorem isK_yes {l : List Tk} {i k : Nat} {t : Tx} (h : isK k t (kat l i) = true) : ∃ x, l[i]? = some x ∧ i < l.length ∧ x.kind = k ∧ (x.text = t ∨ t = [42]) ∧ kat l i = (k, x.text) :: kat l (i + 1) := by
  by_cases hi : i < l.length
  · have hx := List.getElem?_eq_getElem hi
    have e := kat_cons hx
    rw [e] at h
    simp [isK, Tk.key] at h
    refine ⟨_, hx, hi, h.1, h.2, ?_⟩
    rw [e, ← h.1]
    rfl
  · rw [kat_end (by omega)] at h
    cases h
theorem isK_sign {l : List Tk} {i k : Nat} {t : Tx} (h : isK k t (kat l i) = true) (ht : t ≠ [42]) : i < l.length ∧ kat l i = (k, t) :: kat l (i + 1) := by
  obtain ⟨x, _, h2, _, h4, h5⟩ := isK_yes h
  rcases h4 with e | e
  · rw [h5, e]; exact ⟨h2, rfl⟩
  · exact absurd e ht
theorem isK_no {k : Nat} {t : Tx} {ks : List Key} (h : isK k t ks = false) : ∀ r, ks ≠ (k, t) :: r := fun r e => by
  rw [e] at h
  simp [isK] at h
theorem isK_star {k : Nat} {ks : List Key} (h : isK k [42] ks = false) : ∀ y r, ks ≠ (k, y) :: r := fun y r e => by
  rw [e] at h
  simp [isK] at h
set_option maxRecDepth 100000 in
set_option maxHeartbeats 1000000 in
theorem is_any {w : World} {v : Value} {l : List Tk} (h : IsDs w v l) (i k : Nat) (t : Tx) : Calls Tryz.prog 62 #[v, .int .i64 (i : Int), .int .u8 (k : Int), str t] w fun e w' => e = .returned (.bool (isK k t (kat l i))) ∧ ∃ n, w' = w.drewN n := by
  obtain ⟨a, c, rfl⟩ := h.slice
  by_cases hi : i < l.length
  · obtain ⟨b, off, rfl, hc⟩ := h.at hi
    obtain ⟨x, hx⟩ : ∃ x, l[i]? = some x := ⟨_, List.getElem?_eq_getElem hi⟩
    obtain ⟨c0, c1, -, -⟩ := hc i x hx
    have hk := kat_cons hx
    have hi' : (i : Int) < (l.length : Int) := by omega
    have hi0 : (0 : Int) ≤ (i : Int) := by omega
    unfold kv str at *
    clear hc hx h
    by_cases e1 : x.kind = k
    · have q1 : ((x.kind : Int) == (k : Int)) = true := by simp [e1]
      by_cases e2 : x.text = t
      · have q2 : (x.text == t) = true := by simp [e2]
        have hr : Hid (isK k t (kat l i) = true) := by show _ = _; rw [hk]; simp [isK, Tk.key, e1, e2]
        generalize isK k t (kat l i) = r at *
        obtain rfl := hr.out
        clear hr e1 e2 hk
        go_enter Tryz.func62, Tryz.ntmps62
        go_wp2
        go_ret
        exact ⟨rfl, 0, rfl⟩
      · have q2 : (x.text == t) = false := by simp [e2]
        have hr : Hid (isK k t (kat l i) = (t == [42])) := by show _ = _; rw [hk]; simp [isK, Tk.key, e1, e2]
        generalize isK k t (kat l i) = r at *
        obtain rfl := hr.out
        clear hr e1 e2 hk
        go_enter Tryz.func62, Tryz.ntmps62
        go_wp2
        go_ret
        exact ⟨rfl, 0, rfl⟩
    · have q1 : ((x.kind : Int) == (k : Int)) = false := by simp; omega
      have hr : Hid (isK k t (kat l i) = false) := by show _ = _; rw [hk]; simp [isK, Tk.key, e1]
      generalize isK k t (kat l i) = r at *
      obtain rfl := hr.out
      clear hr e1 hk
      go_enter Tryz.func62, Tryz.ntmps62
      go_wp2
      go_ret
      exact ⟨rfl, 0, rfl⟩
  · have hi' : decide ((i : Int) < (l.length : Int)) = false := decide_eq_false (by omega)
    have hr : Hid (isK k t (kat l i) = false) := by show _ = _; rw [kat_end (by omega)]; rfl
    generalize isK k t (kat l i) = r at *
    obtain rfl := hr.out
    clear hr h
    unfold str
    go_enter Tryz.func62, Tryz.ntmps62
    go_wp2
    go_ret
    exact ⟨rfl, 0, rfl⟩
theorem is_low {w : World} {v : Value} {l : List Tk} (h : IsDs w v l) (i k : Nat) (t : Tx) : Calls Tryz.prog 62 #[v, .int .i64 (i : Int), .int .u8 (k : Int), .string ⟨t.toArray⟩] w fun e w' => e = .returned (.bool (isK k t (kat l i))) ∧ Below w.heap.size w w' := (is_any h i k t).mono (by
  rintro e w' ⟨rfl, n, rfl⟩
  exact ⟨rfl, below_drewN (Below.refl _ _)⟩)
/-- the tables. -/
def opS3 (n : Nat) : Tx := match n with
  | 0 => [61]
  | 1 => [33, 61]
  | 2 => [94, 61]
  | _ => []
set_option maxRecDepth 100000 in
set_option maxHeartbeats 1000000 in
theorem op_any (n : Nat) (hn : n < 3) (w : World) : Calls Tryz.prog 130 #[.int .i64 (n : Int)] w fun e w' => e = .returned (str (opS3 n)) ∧ Below w.heap.size w w' := by
  match n, hn with
  | 0, _ | 1, _ | 2, _ =>
    unfold str opS3
    go_enter Tryz.func130, Tryz.ntmps130
    go_wp2
    go_ret
    exact ⟨rfl, alloc_below _ _⟩
set_option maxRecDepth 100000 in
set_option maxHeartbeats 1000000 in
theorem agg_any (n : Nat) (hn : n < 6) (w : World) : Calls Tryz.prog 27 #[.int .i64 (n : Int)] w fun e w' => e = .returned (str (aggS n)) ∧ Below w.heap.size w w' := by
  match n, hn with
  | 0, _ | 1, _ | 2, _ | 3, _ | 4, _ | 5, _ =>
    unfold str aggS
    go_enter Tryz.func27, Tryz.ntmps27
    go_wp2
    go_ret
    exact ⟨rfl, alloc_below _ _⟩
set_option maxRecDepth 100000 in
set_option maxHeartbeats 1000000 in
theorem rcmp_any (n : Nat) (hn : n < 6) (w : World) : Calls Tryz.prog 30 #[.int .i64 (n : Int)] w fun e w' => e = .returned (str (cmpS n)) ∧ Below w.heap.size w w' := by
  match n, hn with
  | 0, _ | 1, _ | 2, _ | 3, _ | 4, _ | 5, _ =>
    unfold str cmpS
    go_enter Tryz.func30, Tryz.ntmps30
    go_wp2
    go_ret
    exact ⟨rfl, alloc_below _ _⟩
end Go.Proofs.YtjhodmpgggaknaaGreatDoor
/- The document's window. -/
namespace Go.Proofs.YtjhodmpgggaknaaGreatDoor
open Go.RowKit Go.Shelf Go.Maps

def winD (s : Tx) : Int := match winOf s with
  | some n => (n : Int)
  | none => 0
theorem numOf_take (s : Tx) (k : Nat) (hk : k < s.length) : numOf (s.take (k + 1)) = numOf (s.take k) * 10 + (s[k].toNat - 48) := by
  unfold numOf
  rw [List.take_succ_eq_append_getElem hk, List.foldl_append]
  rfl
theorem digsW_take (s : Tx) (k : Nat) (hk : k < s.length) : digsB (s.take (k + 1)) = (digsB (s.take k) && dig s[k]) := by
  unfold digsB
  rw [List.take_succ_eq_append_getElem hk, List.all_append]
  simp
theorem numOf_le (s : Tx) (k : Nat) : numOf (s.take k) ≤ numOf s := by
  have e : numOf s = (s.drop k).foldl (fun n c => n * 10 + (c.toNat - 48)) (numOf (s.take k)) := by
    unfold numOf
    rw [← List.foldl_append, List.take_append_drop]
  rw [e]
  exact foldl_mono _ _
theorem winD_bad {s : Tx} {k : Nat} (hk : k < s.length) (h : dig s[k] = false) : winD s = 0 := by
  have hd : digsB s = false := by
    cases hh : digsB s
    · rfl
    · unfold digsB at hh
      rw [List.all_eq_true] at hh
      rw [hh _ (List.getElem_mem hk)] at h
      cases h
  unfold winD winOf
  rw [hd]
  rfl
theorem winD_big {s : Tx} (k : Nat) (h : 1000 < numOf (s.take k)) : winD s = 0 := by
  have := numOf_le s k
  unfold winD winOf
  rw [show decide (numOf s ≤ 1000) = false from decide_eq_false (by omega), Bool.and_false]
  rfl
theorem winD_all {s : Tx} (h : digsB s = true) (h2 : numOf s ≤ 1000) : winD s = (numOf s : Int) := by
  unfold winD winOf
  rw [h, decide_eq_true h2]
  by_cases h1 : 1 ≤ numOf s
  · rw [decide_eq_true h1]; rfl
  · have e : numOf s = 0 := by omega
    rw [e]; rfl
set_option maxRecDepth 100000 in
set_option maxHeartbeats 1000000 in
theorem rwindow_any (s : Tx) (w : World) (hs : s.length ≤ 35184372088832) : Calls Tryz.prog 110 #[str s] w fun e w' => e = .returned (.int .i64 (winD s)) ∧ w' = w := by
  have hbad := hid (fun k hk h => winD_bad (s := s) (k := k) hk h)
  have hbig := hid (fun k h => winD_big (s := s) k h)
  have hall := hid (fun h h2 => winD_all (s := s) h h2)
  have hnt := hid (fun k hk => numOf_take s k hk)
  have hdt := hid (fun k hk => digsW_take s k hk)
  have hdg := hid (fun k (hk : k < s.length) => dig_iff (c := s[k]))
  have h00 : Hid (numOf (s.take 0) = 0) := rfl
  have hwh : Hid (s.take s.length = s) := List.take_length
  generalize winD s = r at *
  unfold str
  go_enter Tryz.func110, Tryz.ntmps110
  go_wp2
  go_loop [3, 4] (fun nv iv => ∃ k m : Nat, k ≤ s.length ∧ iv = .int .i64 (k : Int) ∧ nv = .int .i64 (m : Int) ∧ m ≤ 20000 ∧ Hid (m = numOf (s.take k) ∧ digsB (s.take k) = true)) (fun _ iv => s.length - (intOf iv).toNat)
  case atStart => exact ⟨0, 0, by omega, rfl, rfl, by omega, ⟨rfl, rfl⟩⟩
  case round =>
    obtain ⟨k, m, hk, rfl, rfl, hm, hI⟩ := hrel
    by_cases hlt : k < s.length
    · have hlt' : (k : Int) < (s.length : Int) := by omega
      have hget := get_at hlt
      rw [show s.getD k 0 = s[k] by simp [List.getD, List.getElem?_eq_getElem hlt]] at hget
      have b1 := hid (hbad.out k hlt)
      have b3 := hnt.out k hlt
      have b4 := hdt.out k hlt
      have b5 := hdg.out k hlt
      obtain ⟨z, hz⟩ : ∃ z, s[k] = z := ⟨_, rfl⟩
      rw [hz] at hget b1 b3 b4 b5
      replace b3 := hid b3
      replace b4 := hid b4
      replace b5 := hid b5
      clear hz hbad hnt hdt hdg
      cases hd : dig z
      · have e := b1.out hd
        subst e
        have hd2 : Hid (¬ (48 ≤ z.toNat ∧ z.toNat ≤ 57)) := fun h => by rw [b5.out.2 h] at hd; cases hd
        clear hd hbig hall b1 b3 b4 b5
        by_cases q1 : ((z.toNat : Int)) < 48
        · have q1' : decide (((z.toNat : Int)) < 48) = true := decide_eq_true q1
          go_wp2
          go_ret
          exact ⟨rfl, rfl⟩
        · have q1' : decide (((z.toNat : Int)) < 48) = false := decide_eq_false q1
          have q2 : (57 : Int) < (z.toNat : Int) := by have := hd2.out; omega
          have q2' : decide ((57 : Int) < (z.toNat : Int)) = true := decide_eq_true q2
          go_wp2
          go_ret
          exact ⟨rfl, rfl⟩
      · have hd2 := b5.out.1 hd
        have hc1 := hd2.1
        have hc2 := hd2.2
        clear hd2 b1 b5
        have q1 : decide (((z.toNat : Int)) < 48) = false := decide_eq_false (by omega)
        have q2 : decide ((57 : Int) < (z.toNat : Int)) = false := decide_eq_false (by omega)
        by_cases hbg : 1000 < m
        · have q3 : decide ((1000 : Int) < (m : Int)) = true := decide_eq_true (by omega)
          have e := hbig.out k (by rw [← hI.out.1]; exact hbg)
          subst e
          clear hd hall b3 b4
          go_wp2
          go_ret
          exact ⟨rfl, rfl⟩
        · have q3 : decide ((1000 : Int) < (m : Int)) = false := decide_eq_false (by omega)
          have hn : Hid (m * 10 + (z.toNat - 48) = numOf (s.take (k + 1)) ∧ digsB (s.take (k + 1)) = true) := by
            show _ ∧ _
            rw [b3.out, b4.out, hd, hI.out.2, hI.out.1]
            exact ⟨rfl, rfl⟩
          have wz : IntKind.u8.wrap ((z.toNat : Int) - 48) = (z.toNat : Int) - 48 := by rw [IntKind.wrap_u8]; omega
          have hle : m ≤ 1000 := by omega
          clear hd hbig hall b3 b4 hbg
          go_wp2
          exact ⟨⟨k + 1, m * 10 + (z.toNat - 48), by omega, by go_num, by first | go_num | (congr 1; omega), by omega, hn.out⟩, by simp [intOf]; omega⟩
    · obtain rfl : k = s.length := by omega
      have e1 := hI.out
      rw [hwh.out] at e1
      by_cases hbg : 1000 < m
      · have q3 : decide ((1000 : Int) < (m : Int)) = true := decide_eq_true (by omega)
        have e := hbig.out s.length (by rw [hwh.out, ← e1.1]; exact hbg)
        subst e
        clear e1 hbad hall hnt hdt hdg hwh hI
        go_wp2
        go_ret
        exact ⟨rfl, rfl⟩
      · have q3 : decide ((1000 : Int) < (m : Int)) = false := decide_eq_false (by omega)
        have e := hall.out e1.2 (by rw [← e1.1]; omega)
        rw [← e1.1] at e
        subst e
        clear e1 hbad hall hnt hdt hdg hwh hI
        go_wp2
        go_ret
        exact ⟨rfl, rfl⟩
end Go.Proofs.YtjhodmpgggaknaaGreatDoor
/- The document's matcher. -/
namespace Go.Proofs.YtjhodmpgggaknaaGreatDoor
open Go.RowKit Go.Shelf Go.Maps

/-- a matcher's three tokens. -/
def matK : List Key → Option Mat.Mt
  | (k1, n) :: (k2, o) :: (k3, v) :: _ => if k1 = 1 ∧ k2 = 4 ∧ k3 = 3 then (opOf o).map (fun p => (n, p, v)) else none
  | _ => none
theorem matK_no1 {ks : List Key} (h : isK 1 [42] ks = false) : matK ks = none := by
  match ks with
  | [] => rfl
  | [_] => rfl
  | [_, _] => rfl
  | (k1, n) :: (k2, o) :: (k3, v) :: r =>
    rw [matK, if_neg]
    rintro ⟨rfl, _⟩
    exact isK_star h _ _ rfl
theorem matK_no3 {x y : Key} {ks : List Key} (h : isK 3 [42] ks = false) : matK (x :: y :: ks) = none := by
  obtain ⟨k1, n⟩ := x
  obtain ⟨k2, o⟩ := y
  match ks with
  | [] => rfl
  | (k3, v) :: r =>
    rw [matK, if_neg]
    rintro ⟨_, _, rfl⟩
    exact isK_star h _ _ rfl
theorem opOf_none {o : Tx} (h0 : o ≠ opS3 0) (h1 : o ≠ opS3 1) (h2 : o ≠ opS3 2) : opOf o = none := by
  unfold opOf
  rw [if_neg (show o ≠ [61] from h0), if_neg (show o ≠ [33, 61] from h1), if_neg (show o ≠ [94, 61] from h2)]
theorem matK_no2 {x : Key} {ks : List Key} (h0 : isK 4 (opS3 0) ks = false) (h1 : isK 4 (opS3 1) ks = false) (h2 : isK 4 (opS3 2) ks = false) : matK (x :: ks) = none := by
  obtain ⟨k1, n⟩ := x
  match ks with
  | [] => rfl
  | [_] => rfl
  | (k2, o) :: (k3, v) :: r =>
    rw [matK]
    split
    · rename_i hc
      obtain ⟨_, rfl, _⟩ := hc
      rw [opOf_none (fun e => isK_no h0 _ (by rw [e])) (fun e => isK_no h1 _ (by rw [e])) (fun e => isK_no h2 _ (by rw [e]))]
      rfl
    · rfl
theorem opS3_of (k : Nat) (hk : k < 3) : opOf (opS3 k) = some (UInt8.ofNat k) ∧ opS3 k ≠ [42] ∧ (UInt8.ofNat k).toNat = k := by
  match k, hk with
  | 0, _ | 1, _ | 2, _ => decide
theorem matK_yes {l : List Tk} {i k : Nat} (hk : k < 3) (h1 : isK 1 [42] (kat l i) = true) (h2 : isK 4 (opS3 k) (kat l (i + 1)) = true) (h3 : isK 3 [42] (kat l (i + 2)) = true) : ∃ x y z, l[i]? = some x ∧ l[i + 2]? = some z ∧ i + 2 < l.length ∧ kat l i = x.key :: y :: z.key :: kat l (i + 3) ∧ matK (kat l i) = some (x.text, UInt8.ofNat k, z.text) := by
  obtain ⟨x, a1, _, a3, _, a5⟩ := isK_yes h1
  obtain ⟨e1, e2, _⟩ := opS3_of k hk
  obtain ⟨_, b2⟩ := isK_sign h2 e2
  obtain ⟨z, c1, c2, c3, _, c5⟩ := isK_yes h3
  refine ⟨x, (4, opS3 k), z, a1, c1, c2, ?_, ?_⟩
  · rw [a5, b2, show i + 1 + 1 = i + 2 from rfl, c5, show x.key = (1, x.text) by rw [Tk.key, a3], show z.key = (3, z.text) by rw [Tk.key, c3]]
  · rw [a5, b2, show i + 1 + 1 = i + 2 from rfl, c5, matK, if_pos ⟨rfl, rfl, rfl⟩, e1]
    rfl
theorem below_set3 {B b i j k : Nat} {w W : World} {u v x : Value} (h : Below B w W) (hb : B ≤ b) : Below B w (((W.setCell ⟨b, i, none⟩ u).setCell ⟨b, j, none⟩ v).setCell ⟨b, k, none⟩ x) :=
  h.trans ⟨rfl, rfl, rfl, by rw [size_set, size_set, size_set]; exact Nat.le_refl _, fun y hy => by rw [heap_set _ _ _ _ _ (by omega), heap_set _ _ _ _ _ (by omega), heap_set _ _ _ _ _ (by omega)]⟩
/-- a new matcher in a block of its own, whatever came behind. -/
theorem boxM_new (w : World) : ∀ W, Below (w.alloc (.cells #[.string ⟨#[]⟩, .int .u8 0, .string ⟨#[]⟩] 33)).heap.size (w.alloc (.cells #[.string ⟨#[]⟩, .int .u8 0, .string ⟨#[]⟩] 33)) W →
    W.cell? ⟨w.heap.size, 0, none⟩ = some (.string ⟨#[]⟩) ∧ W.cell? ⟨w.heap.size, 1, none⟩ = some (.int .u8 0) ∧ W.cell? ⟨w.heap.size, 2, none⟩ = some (.string ⟨#[]⟩) ∧ W.frozen? ⟨w.heap.size, 0, none⟩ = false ∧ W.frozen? ⟨w.heap.size, 1, none⟩ = false ∧ W.frozen? ⟨w.heap.size, 2, none⟩ = false := fun W hW => by
  have hnb := (hW.block w.heap.size (by simp)).trans (new_block w (.cells #[.string ⟨#[]⟩, .int .u8 0, .string ⟨#[]⟩] 33))
  exact ⟨by rw [cell_of hnb]; rfl, by rw [cell_of hnb]; rfl, by rw [cell_of hnb]; rfl, frozen_of hnb 0, frozen_of hnb 1, frozen_of hnb 2⟩
def NoM (l : List Tk) (i k : Nat) : Prop := ∀ j, j < k → isK 1 [42] (kat l i) = true → isK 4 (opS3 j) (kat l (i + 1)) = true → isK 3 [42] (kat l (i + 2)) = true → False
def MatDPost (l : List Tk) (i : Nat) (w : World) (e : Ending) (w' : World) : Prop := Below w.heap.size w w' ∧ ((matK (kat l i) = none ∧ e = .returned (.tuple #[.agg #[.string ⟨#[]⟩, .int .u8 0, .string ⟨#[]⟩], .int .i64 (-1)])) ∨ ∃ m, matK (kat l i) = some m ∧ m.1.length ≤ 9223372036854775807 ∧ m.2.2.length ≤ 9223372036854775807 ∧ i + 2 < l.length ∧ (∃ x y z, kat l i = x :: y :: z :: kat l (i + 3)) ∧ e = .returned (.tuple #[.agg #[str m.1, Mat.opv m.2.1, str m.2.2], .int .i64 ((i + 3 : Nat) : Int)]))
set_option maxRecDepth 100000 in
set_option maxHeartbeats 2000000 in
theorem rmatcher_any {w : World} {v : Value} {l : List Tk} (h : IsDs w v l) (i : Nat) (hi : i ≤ 90000000) : Calls Tryz.prog 108 #[v, .int .i64 (i : Int)] w (MatDPost l i w) := by
  have i1 := hid (fun W (hb : Below w.heap.size w W) => is_low (h.below hb) i 1 [42])
  have i2 := hid (fun W (hb : Below w.heap.size w W) k => is_low (h.below hb) (i + 1) 4 (opS3 k))
  have i3 := hid (fun W (hb : Below w.heap.size w W) => is_low (h.below hb) (i + 2) 3 [42])
  have hyes := hid (fun k hk => matK_yes (l := l) (i := i) (k := k) hk)
  have hs := hid h
  obtain ⟨j1, e1⟩ : ∃ n : Nat, n = i + 1 := ⟨_, rfl⟩
  obtain ⟨j2, e2⟩ : ∃ n : Nat, n = i + 2 := ⟨_, rfl⟩
  obtain ⟨j3, e3⟩ : ∃ n : Nat, n = i + 3 := ⟨_, rfl⟩
  have w1 : IntKind.i64.wrap ((i : Int) + 1) = (j1 : Int) := by rw [IntKind.wrap_i64]; omega
  have w2 : IntKind.i64.wrap ((i : Int) + 2) = (j2 : Int) := by rw [IntKind.wrap_i64]; omega
  have w3 : IntKind.i64.wrap ((i : Int) + 3) = (j3 : Int) := by rw [IntKind.wrap_i64]; omega
  rw [← e1] at i2
  rw [← e2] at i3
  replace e1 := hid e1
  replace e2 := hid e2
  replace e3 := hid e3
  obtain ⟨a, c, rfl⟩ := h.slice
  clear h hi
  go_enter Tryz.func108, Tryz.ntmps108
  have hbox := hid (boxM_new w)
  have hb0 := hid (alloc_below w (.cells #[.string ⟨#[]⟩, .int .u8 0, .string ⟨#[]⟩] 33))
  go_wp2_with fail
  obtain ⟨W0, hW0⟩ : ∃ W0, w.alloc (.cells #[.string ⟨#[]⟩, .int .u8 0, .string ⟨#[]⟩] 33) = W0 := ⟨_, rfl⟩
  rw [hW0] at hbox hb0 ⊢
  clear hW0
  have hlow := hid (fun W (hb : Below W0.heap.size W0 W) => low' hb0.out hb)
  go_loopw [6] (fun kv wr => ∃ k : Nat, kv = .int .i64 (k : Int) ∧ k ≤ 3 ∧ Below W0.heap.size W0 wr ∧ Hid (NoM l i k)) (fun kv _ => 3 - (intOf kv).toNat)
  case atStart => exact ⟨0, rfl, by omega, Below.refl _ _, fun j hj => by omega⟩
  case round =>
    obtain ⟨k, rfl, hk, hb, hno⟩ := hrel
    replace hb := hid hb
    by_cases hk3 : (k : Int) < 3
    · have hop := hid (op_any k (by omega) wr)
      unfold str at hop
      have r1 := hid (i1.out wr (hlow.out _ hb.out))
      cases q1 : isK 1 [42] (kat l i)
      · rw [q1] at r1
        have hno' : Hid (NoM l i (k + 1)) := fun j hj h1 => by rw [q1] at h1; cases h1
        replace q1 := hid q1
        go_wp2_with fail
        refine r1.out.mono ?_
        rintro e wA ⟨rfl, vb⟩
        have hbA := hid (low' hb.out vb)
        clear vb
        go_wp2
        exact ⟨⟨k + 1, by simp, by omega, hbA.out, hno'⟩, by simp [intOf]; omega⟩
      · rw [q1] at r1
        replace q1 := hid q1
        go_wp2_with fail
        refine r1.out.mono ?_
        rintro e wA ⟨rfl, vb⟩
        have hbA := hid (low' hb.out vb)
        clear vb
        have hop := hid (op_any k (by omega) wA)
        unfold str at hop
        clear r1
        go_wp2_with fail
        refine hop.out.mono ?_
        rintro e wB ⟨rfl, hbB⟩
        have hbB := hid (low' hbA.out hbB)
        have r2 := hid (i2.out wB (hlow.out _ hbB.out) k)
        cases q2 : isK 4 (opS3 k) (kat l j1)
        · rw [q2] at r2
          have hno' : Hid (NoM l i (k + 1)) := fun j hj h1 h2 h3 => by
            by_cases hjk : j = k
            · rw [hjk, ← e1.out, q2] at h2; cases h2
            · exact hno.out j (by omega) h1 h2 h3
          replace q2 := hid q2
          go_wp2_with fail
          refine r2.out.mono ?_
          rintro e wC ⟨rfl, vb⟩
          have hbC := hid (low' hbB.out vb)
          clear vb
          go_wp2
          exact ⟨⟨k + 1, by simp, by omega, hbC.out, hno'⟩, by simp [intOf]; omega⟩
        · rw [q2] at r2
          replace q2 := hid q2
          go_wp2_with fail
          refine r2.out.mono ?_
          rintro e wC ⟨rfl, vb⟩
          have hbC := hid (low' hbB.out vb)
          clear vb
          have r3 := hid (i3.out wC (hlow.out _ hbC.out))
          cases q3 : isK 3 [42] (kat l j2)
          · rw [q3] at r3
            have hno' : Hid (NoM l i (k + 1)) := fun j hj h1 h2 h3 => by rw [← e2.out, q3] at h3; cases h3
            replace q3 := hid q3
            go_wp2_with fail
            refine r3.out.mono ?_
            rintro e wD ⟨rfl, vb⟩
            have hbD := hid (low' hbC.out vb)
            clear vb
            go_wp2
            exact ⟨⟨k + 1, by simp, by omega, hbD.out, hno'⟩, by simp [intOf]; omega⟩
          · rw [q3] at r3
            obtain ⟨x, y, z, hx, hz, hlt, hkat, hm⟩ := hyes.out k (by omega) q1.out (by rw [← e1.out]; exact q2.out) (by rw [← e2.out]; exact q3)
            rw [← e2.out] at hz hlt
            have hE := (opS3_of k (by omega)).2.2
            go_wp2_with fail
            refine r3.out.mono ?_
            rintro e wD ⟨rfl, vb⟩
            have hbD := hid (low' hbC.out vb)
            clear vb
            have hD := hs.out.below (hlow.out _ hbD.out)
            have mx := hD.mid hx
            have mz := hD.mid hz
            obtain ⟨b, off, rfl, hc⟩ := hs.out.at (k := i) (by have := e2.out; omega)
            obtain ⟨-, x1', -, -⟩ := hc i x hx
            obtain ⟨-, z1', -, -⟩ := hc j2 z hz
            have hblt := World.block_lt_of_cell? w _ x1'
            have hne : b ≠ w.heap.size := by simp only at hblt; omega
            have hne2 : w.heap.size ≠ b := fun e => hne e.symm
            have hDb := hlow.out _ hbD.out
            have x1 := (hDb.cell (p := ⟨b, off + i * 4 + 1, none⟩) hblt).trans x1'
            have z1 := (hDb.cell (p := ⟨b, off + j2 * 4 + 1, none⟩) hblt).trans z1'
            have hfin : Hid (∀ nq u v z', MatDPost l i w (.returned (.tuple #[.agg #[str x.text, Mat.opv (UInt8.ofNat k), str z.text], .int .i64 (j3 : Int)])) ((((wD.drewN nq).setCell ⟨w.heap.size, 0, none⟩ u).setCell ⟨w.heap.size, 1, none⟩ v).setCell ⟨w.heap.size, 2, none⟩ z')) := fun nq u v z' => ⟨below_set3 (below_drewN (n := nq) (hlow.out _ hbD.out)) (Nat.le_refl _), .inr ⟨_, hm, mx, mz, by have := e2.out; omega, ⟨_, _, _, hkat⟩, by rw [e3.out]⟩⟩
            obtain ⟨q0, q1, q2, q3, q4, q5⟩ := hbox.out _ hbD.out
            have g1 : (i : Int) < (l.length : Int) := by have := e2.out; omega
            have g2 : (j2 : Int) < (l.length : Int) := by omega
            have g0 : (0 : Int) ≤ (j2 : Int) := by omega
            have g00 : (0 : Int) ≤ (i : Int) := by omega
            have wk : IntKind.u8.wrap (k : Int) = (k : Int) := by rw [IntKind.wrap_u8]; omega
            unfold Mat.opv str at hfin
            unfold str at x1 z1
            rw [hE] at hfin
            clear hc hx hz hkat hm hD r3 i1 i2 i3 hyes
            clear x1' z1' hblt hDb
            go_wp2_with fail
            go_region_held3 (fun w' => w'.cell? ⟨b, off + i * 4 + 1, none⟩ = some (.string ⟨x.text.toArray⟩) ∧ w'.cell? ⟨b, off + j2 * 4 + 1, none⟩ = some (.string ⟨z.text.toArray⟩)) (go_keep) (fail)
            go_wp2
            refine bodyPost_ret (v := .tuple #[.agg #[.string ⟨x.text.toArray⟩, .int .u8 (k : Int), .string ⟨z.text.toArray⟩], .int .i64 (j3 : Int)]) ?_ rfl (by first | exact hfin.out _ _ _ _ | (have := hfin.out 0; simpa using this _ _ _))
            simp [results, Tryz.results108, go_sem, q0, q1, q2]
    · obtain rfl : k = 3 := by omega
      have hfin : Hid (∀ u v z', MatDPost l i w (.returned (.tuple #[.agg #[.string ⟨#[]⟩, .int .u8 0, .string ⟨#[]⟩], .int .i64 (-1)])) (((wr.setCell ⟨w.heap.size, 0, none⟩ u).setCell ⟨w.heap.size, 1, none⟩ v).setCell ⟨w.heap.size, 2, none⟩ z')) := fun u v z' => by
        refine ⟨below_set3 (hlow.out _ hb.out) (Nat.le_refl _), .inl ⟨?_, rfl⟩⟩
        cases q1 : isK 1 [42] (kat l i)
        · exact matK_no1 q1
        · obtain ⟨x, a1, a2, a3, a4, a5⟩ := isK_yes q1
          cases q3 : isK 3 [42] (kat l (i + 2))
          · rw [a5]
            by_cases h2 : i + 1 < l.length
            · rw [kat_cons (List.getElem?_eq_getElem h2)]
              exact matK_no3 q3
            · rw [kat_end (l := l) (i := i + 1) (by omega)]; rfl
          · have hz : ∀ j, j < 3 → isK 4 (opS3 j) (kat l (i + 1)) = false := fun j hj => by
              cases q2 : isK 4 (opS3 j) (kat l (i + 1))
              · rfl
              · exact (hno.out j hj q1 q2 q3).elim
            rw [a5]
            exact matK_no2 (hz 0 (by decide)) (hz 1 (by decide)) (hz 2 (by decide))
      obtain ⟨q0, q1, q2, q3, q4, q5⟩ := hbox.out _ hb.out
      clear i1 i2 i3 hyes hs
      go_wp2
      refine bodyPost_ret (v := .tuple #[.agg #[.string ⟨#[]⟩, .int .u8 0, .string ⟨#[]⟩], .int .i64 (-1)]) ?_ rfl (hfin.out _ _ _)
      simp [results, Tryz.results108, go_sem, q0, q1, q2]
end Go.Proofs.YtjhodmpgggaknaaGreatDoor
