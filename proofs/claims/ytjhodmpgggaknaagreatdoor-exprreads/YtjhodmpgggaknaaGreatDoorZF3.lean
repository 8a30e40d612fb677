/- The document's matcher. -/
import Derived.Test.YtjhodmpgggaknaaGreatDoorZF2
namespace Go.Proofs.YtjhodmpgggaknaaGreatDoor
open Go.RowKit Go.Shelf Go.Maps

/-- a matcher's three tokens. -/
def matK : List Key → Option Mat.Mt
  | (k1, n) :: (k2, o) :: (k3, v) :: _ => if k1 = 1 ∧ k2 = 4 ∧ k3 = 3 then (opOf o).map (fun p => (n, p, v)) else none
  | _ => none
theorem matK_no1 {ks : List Key} (h : isK 1 [42] ks = false) : matK ks = none := by
  match ks with
  | [] => rfl
  | [_] => rfl
  | [_, _] => rfl
  | (k1, n) :: (k2, o) :: (k3, v) :: r =>
    rw [matK, if_neg]
    rintro ⟨rfl, _⟩
    exact isK_star h _ _ rfl
theorem matK_no3 {x y : Key} {ks : List Key} (h : isK 3 [42] ks = false) : matK (x :: y :: ks) = none := by
  obtain ⟨k1, n⟩ := x
  obtain ⟨k2, o⟩ := y
  match ks with
  | [] => rfl
  | (k3, v) :: r =>
    rw [matK, if_neg]
    rintro ⟨_, _, rfl⟩
    exact isK_star h _ _ rfl
theorem opOf_none {o : Tx} (h0 : o ≠ opS3 0) (h1 : o ≠ opS3 1) (h2 : o ≠ opS3 2) : opOf o = none := by
  unfold opOf
  rw [if_neg (show o ≠ [61] from h0), if_neg (show o ≠ [33, 61] from h1), if_neg (show o ≠ [94, 61] from h2)]
theorem matK_no2 {x : Key} {ks : List Key} (h0 : isK 4 (opS3 0) ks = false) (h1 : isK 4 (opS3 1) ks = false) (h2 : isK 4 (opS3 2) ks = false) : matK (x :: ks) = none := by
  obtain ⟨k1, n⟩ := x
  match ks with
  | [] => rfl
  | [_] => rfl
  | (k2, o) :: (k3, v) :: r =>
    rw [matK]
    split
    · rename_i hc
      obtain ⟨_, rfl, _⟩ := hc
      rw [opOf_none (fun e => isK_no h0 _ (by rw [e])) (fun e => isK_no h1 _ (by rw [e])) (fun e => isK_no h2 _ (by rw [e]))]
      rfl
    · rfl
theorem opS3_of (k : Nat) (hk : k < 3) : opOf (opS3 k) = some (UInt8.ofNat k) ∧ opS3 k ≠ [42] ∧ (UInt8.ofNat k).toNat = k := by
  match k, hk with
  | 0, _ | 1, _ | 2, _ => decide
theorem matK_yes {l : List Tk} {i k : Nat} (hk : k < 3) (h1 : isK 1 [42] (kat l i) = true) (h2 : isK 4 (opS3 k) (kat l (i + 1)) = true) (h3 : isK 3 [42] (kat l (i + 2)) = true) : ∃ x y z, l[i]? = some x ∧ l[i + 2]? = some z ∧ i + 2 < l.length ∧ kat l i = x.key :: y :: z.key :: kat l (i + 3) ∧ matK (kat l i) = some (x.text, UInt8.ofNat k, z.text) := by
  obtain ⟨x, a1, _, a3, _, a5⟩ := isK_yes h1
  obtain ⟨e1, e2, _⟩ := opS3_of k hk
  obtain ⟨_, b2⟩ := isK_sign h2 e2
  obtain ⟨z, c1, c2, c3, _, c5⟩ := isK_yes h3
  refine ⟨x, (4, opS3 k), z, a1, c1, c2, ?_, ?_⟩
  · rw [a5, b2, show i + 1 + 1 = i + 2 from rfl, c5, show x.key = (1, x.text) by rw [Tk.key, a3], show z.key = (3, z.text) by rw [Tk.key, c3]]
  · rw [a5, b2, show i + 1 + 1 = i + 2 from rfl, c5, matK, if_pos ⟨rfl, rfl, rfl⟩, e1]
    rfl
theorem below_set3 {B b i j k : Nat} {w W : World} {u v x : Value} (h : Below B w W) (hb : B ≤ b) : Below B w (((W.setCell ⟨b, i, none⟩ u).setCell ⟨b, j, none⟩ v).setCell ⟨b, k, none⟩ x) :=
  h.trans ⟨rfl, rfl, rfl, by rw [size_set, size_set, size_set]; exact Nat.le_refl _, fun y hy => by rw [heap_set _ _ _ _ _ (by omega), heap_set _ _ _ _ _ (by omega), heap_set _ _ _ _ _ (by omega)]⟩
/-- a new matcher in a block of its own, whatever came behind. -/
theorem boxM_new (w : World) : ∀ W, Below (w.alloc (.cells #[.string ⟨#[]⟩, .int .u8 0, .string ⟨#[]⟩] 33)).heap.size (w.alloc (.cells #[.string ⟨#[]⟩, .int .u8 0, .string ⟨#[]⟩] 33)) W →
    W.cell? ⟨w.heap.size, 0, none⟩ = some (.string ⟨#[]⟩) ∧ W.cell? ⟨w.heap.size, 1, none⟩ = some (.int .u8 0) ∧ W.cell? ⟨w.heap.size, 2, none⟩ = some (.string ⟨#[]⟩) ∧ W.frozen? ⟨w.heap.size, 0, none⟩ = false ∧ W.frozen? ⟨w.heap.size, 1, none⟩ = false ∧ W.frozen? ⟨w.heap.size, 2, none⟩ = false := fun W hW => by
  have hnb := (hW.block w.heap.size (by simp)).trans (new_block w (.cells #[.string ⟨#[]⟩, .int .u8 0, .string ⟨#[]⟩] 33))
  exact ⟨by rw [cell_of hnb]; rfl, by rw [cell_of hnb]; rfl, by rw [cell_of hnb]; rfl, frozen_of hnb 0, frozen_of hnb 1, frozen_of hnb 2⟩
def NoM (l : List Tk) (i k : Nat) : Prop := ∀ j, j < k → isK 1 [42] (kat l i) = true → isK 4 (opS3 j) (kat l (i + 1)) = true → isK 3 [42] (kat l (i + 2)) = true → False
def MatDPost (l : List Tk) (i : Nat) (w : World) (e : Ending) (w' : World) : Prop := Below w.heap.size w w' ∧ ((matK (kat l i) = none ∧ e = .returned (.tuple #[.agg #[.string ⟨#[]⟩, .int .u8 0, .string ⟨#[]⟩], .int .i64 (-1)])) ∨ ∃ m, matK (kat l i) = some m ∧ m.1.length ≤ 9223372036854775807 ∧ m.2.2.length ≤ 9223372036854775807 ∧ i + 2 < l.length ∧ (∃ x y z, kat l i = x :: y :: z :: kat l (i + 3)) ∧ e = .returned (.tuple #[.agg #[str m.1, Mat.opv m.2.1, str m.2.2], .int .i64 ((i + 3 : Nat) : Int)]))
set_option maxRecDepth 100000 in
set_option maxHeartbeats 2000000 in
theorem rmatcher_any {w : World} {v : Value} {l : List Tk} (h : IsDs w v l) (i : Nat) (hi : i ≤ 90000000) : Calls Tryz.prog 108 #[v, .int .i64 (i : Int)] w (MatDPost l i w) := by
  have i1 := hid (fun W (hb : Below w.heap.size w W) => is_low (h.below hb) i 1 [42])
  have i2 := hid (fun W (hb : Below w.heap.size w W) k => is_low (h.below hb) (i + 1) 4 (opS3 k))
  have i3 := hid (fun W (hb : Below w.heap.size w W) => is_low (h.below hb) (i + 2) 3 [42])
  have hyes := hid (fun k hk => matK_yes (l := l) (i := i) (k := k) hk)
  have hs := hid h
  obtain ⟨j1, e1⟩ : ∃ n : Nat, n = i + 1 := ⟨_, rfl⟩
  obtain ⟨j2, e2⟩ : ∃ n : Nat, n = i + 2 := ⟨_, rfl⟩
  obtain ⟨j3, e3⟩ : ∃ n : Nat, n = i + 3 := ⟨_, rfl⟩
  have w1 : IntKind.i64.wrap ((i : Int) + 1) = (j1 : Int) := by rw [IntKind.wrap_i64]; omega
  have w2 : IntKind.i64.wrap ((i : Int) + 2) = (j2 : Int) := by rw [IntKind.wrap_i64]; omega
  have w3 : IntKind.i64.wrap ((i : Int) + 3) = (j3 : Int) := by rw [IntKind.wrap_i64]; omega
  rw [← e1] at i2
  rw [← e2] at i3
  replace e1 := hid e1
  replace e2 := hid e2
  replace e3 := hid e3
  obtain ⟨a, c, rfl⟩ := h.slice
  clear h hi
  go_enter Tryz.func108, Tryz.ntmps108
  have hbox := hid (boxM_new w)
  have hb0 := hid (alloc_below w (.cells #[.string ⟨#[]⟩, .int .u8 0, .string ⟨#[]⟩] 33))
  go_wp2_with fail
  obtain ⟨W0, hW0⟩ : ∃ W0, w.alloc (.cells #[.string ⟨#[]⟩, .int .u8 0, .string ⟨#[]⟩] 33) = W0 := ⟨_, rfl⟩
  rw [hW0] at hbox hb0 ⊢
  clear hW0
  have hlow := hid (fun W (hb : Below W0.heap.size W0 W) => low' hb0.out hb)
  go_loopw [6] (fun kv wr => ∃ k : Nat, kv = .int .i64 (k : Int) ∧ k ≤ 3 ∧ Below W0.heap.size W0 wr ∧ Hid (NoM l i k)) (fun kv _ => 3 - (intOf kv).toNat)
  case atStart => exact ⟨0, rfl, by omega, Below.refl _ _, fun j hj => by omega⟩
  case round =>
    obtain ⟨k, rfl, hk, hb, hno⟩ := hrel
    replace hb := hid hb
    by_cases hk3 : (k : Int) < 3
    · have hop := hid (op_any k (by omega) wr)
      unfold str at hop
      have r1 := hid (i1.out wr (hlow.out _ hb.out))
      cases q1 : isK 1 [42] (kat l i)
      · rw [q1] at r1
        have hno' : Hid (NoM l i (k + 1)) := fun j hj h1 => by rw [q1] at h1; cases h1
        replace q1 := hid q1
        go_wp2_with fail
        refine r1.out.mono ?_
        rintro e wA ⟨rfl, vb⟩
        have hbA := hid (low' hb.out vb)
        clear vb
        go_wp2
        exact ⟨⟨k + 1, by simp, by omega, hbA.out, hno'⟩, by simp [intOf]; omega⟩
      · rw [q1] at r1
        replace q1 := hid q1
        go_wp2_with fail
        refine r1.out.mono ?_
        rintro e wA ⟨rfl, vb⟩
        have hbA := hid (low' hb.out vb)
        clear vb
        have hop := hid (op_any k (by omega) wA)
        unfold str at hop
        clear r1
        go_wp2_with fail
        refine hop.out.mono ?_
        rintro e wB ⟨rfl, hbB⟩
        have hbB := hid (low' hbA.out hbB)
        have r2 := hid (i2.out wB (hlow.out _ hbB.out) k)
        cases q2 : isK 4 (opS3 k) (kat l j1)
        · rw [q2] at r2
          have hno' : Hid (NoM l i (k + 1)) := fun j hj h1 h2 h3 => by
            by_cases hjk : j = k
            · rw [hjk, ← e1.out, q2] at h2; cases h2
            · exact hno.out j (by omega) h1 h2 h3
          replace q2 := hid q2
          go_wp2_with fail
          refine r2.out.mono ?_
          rintro e wC ⟨rfl, vb⟩
          have hbC := hid (low' hbB.out vb)
          clear vb
          go_wp2
          exact ⟨⟨k + 1, by simp, by omega, hbC.out, hno'⟩, by simp [intOf]; omega⟩
        · rw [q2] at r2
          replace q2 := hid q2
          go_wp2_with fail
          refine r2.out.mono ?_
          rintro e wC ⟨rfl, vb⟩
          have hbC := hid (low' hbB.out vb)
          clear vb
          have r3 := hid (i3.out wC (hlow.out _ hbC.out))
          cases q3 : isK 3 [42] (kat l j2)
          · rw [q3] at r3
            have hno' : Hid (NoM l i (k + 1)) := fun j hj h1 h2 h3 => by rw [← e2.out, q3] at h3; cases h3
            replace q3 := hid q3
            go_wp2_with fail
            refine r3.out.mono ?_
            rintro e wD ⟨rfl, vb⟩
            have hbD := hid (low' hbC.out vb)
            clear vb
            go_wp2
            exact ⟨⟨k + 1, by simp, by omega, hbD.out, hno'⟩, by simp [intOf]; omega⟩
          · rw [q3] at r3
            obtain ⟨x, y, z, hx, hz, hlt, hkat, hm⟩ := hyes.out k (by omega) q1.out (by rw [← e1.out]; exact q2.out) (by rw [← e2.out]; exact q3)
            rw [← e2.out] at hz hlt
            have hE := (opS3_of k (by omega)).2.2
            go_wp2_with fail
            refine r3.out.mono ?_
            rintro e wD ⟨rfl, vb⟩
            have hbD := hid (low' hbC.out vb)
            clear vb
            have hD := hs.out.below (hlow.out _ hbD.out)
            have mx := hD.mid hx
            have mz := hD.mid hz
            obtain ⟨b, off, rfl, hc⟩ := hs.out.at (k := i) (by have := e2.out; omega)
            obtain ⟨-, x1', -, -⟩ := hc i x hx
            obtain ⟨-, z1', -, -⟩ := hc j2 z hz
            have hblt := World.block_lt_of_cell? w _ x1'
            have hne : b ≠ w.heap.size := by simp only at hblt; omega
            have hne2 : w.heap.size ≠ b := fun e => hne e.symm
            have hDb := hlow.out _ hbD.out
            have x1 := (hDb.cell (p := ⟨b, off + i * 4 + 1, none⟩) hblt).trans x1'
            have z1 := (hDb.cell (p := ⟨b, off + j2 * 4 + 1, none⟩) hblt).trans z1'
            have hfin : Hid (∀ nq u v z', MatDPost l i w (.returned (.tuple #[.agg #[str x.text, Mat.opv (UInt8.ofNat k), str z.text], .int .i64 (j3 : Int)])) ((((wD.drewN nq).setCell ⟨w.heap.size, 0, none⟩ u).setCell ⟨w.heap.size, 1, none⟩ v).setCell ⟨w.heap.size, 2, none⟩ z')) := fun nq u v z' => ⟨below_set3 (below_drewN (n := nq) (hlow.out _ hbD.out)) (Nat.le_refl _), .inr ⟨_, hm, mx, mz, by have := e2.out; omega, ⟨_, _, _, hkat⟩, by rw [e3.out]⟩⟩
            obtain ⟨q0, q1, q2, q3, q4, q5⟩ := hbox.out _ hbD.out
            have g1 : (i : Int) < (l.length : Int) := by have := e2.out; omega
            have g2 : (j2 : Int) < (l.length : Int) := by omega
            have g0 : (0 : Int) ≤ (j2 : Int) := by omega
            have g00 : (0 : Int) ≤ (i : Int) := by omega
            have wk : IntKind.u8.wrap (k : Int) = (k : Int) := by rw [IntKind.wrap_u8]; omega
            unfold Mat.opv str at hfin
            unfold str at x1 z1
            rw [hE] at hfin
            clear hc hx hz hkat hm hD r3 i1 i2 i3 hyes
            clear x1' z1' hblt hDb
            go_wp2_with fail
            go_region_held3 (fun w' => w'.cell? ⟨b, off + i * 4 + 1, none⟩ = some (.string ⟨x.text.toArray⟩) ∧ w'.cell? ⟨b, off + j2 * 4 + 1, none⟩ = some (.string ⟨z.text.toArray⟩)) (go_keep) (fail)
            go_wp2
            refine bodyPost_ret (v := .tuple #[.agg #[.string ⟨x.text.toArray⟩, .int .u8 (k : Int), .string ⟨z.text.toArray⟩], .int .i64 (j3 : Int)]) ?_ rfl (by first | exact hfin.out _ _ _ _ | (have := hfin.out 0; simpa using this _ _ _))
            simp [results, Tryz.results108, go_sem, q0, q1, q2]
    · obtain rfl : k = 3 := by omega
      have hfin : Hid (∀ u v z', MatDPost l i w (.returned (.tuple #[.agg #[.string ⟨#[]⟩, .int .u8 0, .string ⟨#[]⟩], .int .i64 (-1)])) (((wr.setCell ⟨w.heap.size, 0, none⟩ u).setCell ⟨w.heap.size, 1, none⟩ v).setCell ⟨w.heap.size, 2, none⟩ z')) := fun u v z' => by
        refine ⟨below_set3 (hlow.out _ hb.out) (Nat.le_refl _), .inl ⟨?_, rfl⟩⟩
        cases q1 : isK 1 [42] (kat l i)
        · exact matK_no1 q1
        · obtain ⟨x, a1, a2, a3, a4, a5⟩ := isK_yes q1
          cases q3 : isK 3 [42] (kat l (i + 2))
          · rw [a5]
            by_cases h2 : i + 1 < l.length
            · rw [kat_cons (List.getElem?_eq_getElem h2)]
              exact matK_no3 q3
            · rw [kat_end (l := l) (i := i + 1) (by omega)]; rfl
          · have hz : ∀ j, j < 3 → isK 4 (opS3 j) (kat l (i + 1)) = false := fun j hj => by
              cases q2 : isK 4 (opS3 j) (kat l (i + 1))
              · rfl
              · exact (hno.out j hj q1 q2 q3).elim
            rw [a5]
            exact matK_no2 (hz 0 (by decide)) (hz 1 (by decide)) (hz 2 (by decide))
      obtain ⟨q0, q1, q2, q3, q4, q5⟩ := hbox.out _ hb.out
      clear i1 i2 i3 hyes hs
      go_wp2
      refine bodyPost_ret (v := .tuple #[.agg #[.string ⟨#[]⟩, .int .u8 0, .string ⟨#[]⟩], .int .i64 (-1)]) ?_ rfl (hfin.out _ _ _)
      simp [results, Tryz.results108, go_sem, q0, q1, q2]
end Go.Proofs.YtjhodmpgggaknaaGreatDoor
