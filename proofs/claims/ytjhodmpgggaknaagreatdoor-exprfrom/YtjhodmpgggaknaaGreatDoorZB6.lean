/- Contract of matcher. -/
import Derived.Test.YtjhodmpgggaknaaGreatDoorZB5
import Derived.Test.YtjhodmpgggaknaaGreatDoorZGI
namespace Go.Proofs.YtjhodmpgggaknaaGreatDoor
open Go.RowKit Go.Shelf Go.Maps

/-- a matcher that stands there. -/
def matT : List Tk → Option (Mat.Mt × List Tk)
  | t1 :: t2 :: t3 :: r => if t1.kind = 1 ∧ t2.kind = 4 ∧ t3.kind = 3 then (match opOf t2.text with
    | none => none
    | some p => some ((t1.text, p, t3.text), r)) else none
  | _ => none
theorem matT_no1 {ts : List Tk} (h : hdk 1 ts = false) : matT ts = none := by
  unfold matT
  split
  · rename_i t1 t2 t3 r
    rw [if_neg]
    rintro ⟨e, _⟩
    simp [hdk, e] at h
  · rfl
theorem matT_no2 {t1 : Tk} {ts : List Tk} (h : (hdk 4 ts && (findR opMap (headT ts)).isSome) = false) : matT (t1 :: ts) = none := by
  match ts, h with
  | [], _ => rfl
  | [t2], _ => rfl
  | t2 :: t3 :: r, h =>
    rw [matT]
    split
    · rename_i hc
      simp [hdk, hc.2.1, headT, op_find] at h
      rw [h]
    · rfl
theorem matT_no3 {t1 t2 : Tk} {ts : List Tk} (h : hdk 3 ts = false) : matT (t1 :: t2 :: ts) = none := by
  match ts, h with
  | [], _ => rfl
  | t3 :: r, h =>
    rw [matT, if_neg]
    rintro ⟨_, _, e⟩
    simp [hdk, e] at h
theorem matT_yes {ts : List Tk} (h1 : hdk 1 ts = true) (h2 : (hdk 4 ts.tail && (findR opMap (headT ts.tail)).isSome) = true) (h3 : hdk 3 ts.tail.tail = true) : ∃ p, matT ts = some ((headT ts, p, headT ts.tail.tail), ts.tail.tail.tail) ∧ findR opMap (headT ts.tail) = some p.toNat := by
  match ts, h1, h2, h3 with
  | [], h1, _, _ => cases h1
  | [t1], _, h2, _ => cases h2
  | [t1, t2], _, _, h3 => cases h3
  | t1 :: t2 :: t3 :: r, h1, h2, h3 =>
    simp only [List.tail_cons, hdk, headT] at *
    rw [Bool.and_eq_true, op_find] at h2
    cases hp : opOf t2.text with
    | none => rw [hp] at h2; simp at h2
    | some p =>
      refine ⟨p, ?_, by rw [op_find, hp]; rfl⟩
      rw [matT, if_pos ⟨by simpa using h1, by simpa using h2.1, by simpa using h3⟩, hp]
theorem tail_mem {ts : List Tk} {p : Tk → Prop} (h : ∀ t ∈ ts, p t) : ∀ t ∈ ts.tail, p t := fun t ht => h t (List.mem_of_mem_tail ht)
theorem head_len {ts : List Tk} {n : Nat} (h : ∀ t ∈ ts, t.text.length ≤ n) : (headT ts).length ≤ n := by
  cases ts with
  | nil => simp [headT]
  | cons t ts => exact h t (by simp)
theorem rst_true (ts : List Tk) : rst true ts = ts.tail := rfl
theorem rst_false (ts : List Tk) : rst false ts = ts := rfl
/-- what matcher makes. -/
def MatPost (F G : Nat → Prop) (w0 w : World) (b pb : Nat) (ts : List Tk) (ns : List Nd) (fl : Bool) (e : Ending) (w' : World) : Prop :=
  ∃ ok ts', e = .returned (.bool ok) ∧ RdTo F G w0 w w' b ts' ns fl ∧ (ok = false → matT ts = none) ∧ (ok = true → ∃ m, matT ts = some (m, ts') ∧ w'.heap[pb]? = some (.cells #[str m.1, Mat.opv m.2.1, str m.2.2] 33))
theorem RdAt.drew {F : Nat → Prop} {w0 w : World} {b : Nat} {ts : List Tk} {ns : List Nd} {fl : Bool} (h : RdAt F w0 w b ts ns fl) : RdAt F w0 w.drew b ts ns fl := h.below (below_drew (Below.refl _ _))
theorem RdTo.drew {F G : Nat → Prop} {w0 w w2 : World} {b : Nat} {ts : List Tk} {ns : List Nd} {fl : Bool} (h : RdTo F G w0 w.drew w2 b ts ns fl) : RdTo F G w0 w w2 b ts ns fl := h.after (below_drew (Below.refl _ _))
/-- a matcher's box, as its parts are told. -/
def boxM (n : Tx) (o : Nat) (v : Tx) : Obj := .cells #[str n, .int .u8 (o : Int), str v] 33
/-- both texts are copied. -/
theorem matcher_end {F G : Nat → Prop} {w0 w W : World} {b pb : Nat} {ts ts' : List Tk} {ns : List Nd} {fl : Bool} (hr : RdTo F G w0 w W b ts' ns fl) (hp : ¬ F pb) (hpw : pb < w.heap.size) (hg : G pb) (hl : w0.heap.size ≤ pb) {n v : Tx} {o : Nat} (hx : W.heap[pb]? = some (boxM n o v)) {W2 : World} (hb : Below W.heap.size W W2) (ok : Bool) (h0 : ok = false → matT ts = none) (h1 : ok = true → ∃ p, matT ts = some ((n, p, v), ts') ∧ p.toNat = o) :
    MatPost F G w0 w b pb ts ns fl (.returned (.bool ok)) ((W2.setCell ⟨pb, 0, none⟩ (str n)).setCell ⟨pb, 2, none⟩ (str v)) := by
  obtain ⟨F1, r1, k1, i1, f1⟩ := hr
  have hpF : ¬ F1 pb := fun hf => by
    rcases f1 pb hf with e | e
    · exact hp e
    · omega
  have hx2 : W2.heap[pb]? = some (boxM n o v) := (hb.block pb (lt_of_block hx)).trans hx
  have hs1 : (W2.setCell ⟨pb, 0, none⟩ (str n)).heap[pb]? = some (boxM n o v) := by
    rw [heap_set_at hx2]; rfl
  have hs2 : ((W2.setCell ⟨pb, 0, none⟩ (str n)).setCell ⟨pb, 2, none⟩ (str v)).heap[pb]? = some (boxM n o v) := by
    rw [heap_set_at hs1]; rfl
  refine ⟨ok, ts', rfl, ⟨F1, ((r1.below hb).turned hpF hl).turned hpF hl, ?_, i1, f1⟩, h0, fun e => ?_⟩
  · have kk : Kept G W ((W2.setCell ⟨pb, 0, none⟩ (str n)).setCell ⟨pb, 2, none⟩ (str v)) := ((kept_below hb).trans (kept_set (F := G) _ _ _ _ hg) fun k hk => .inl hk).trans (kept_set (F := G) _ _ _ _ hg) fun k hk => .inl hk
    exact k1.trans kk fun k hk => .inl (.inr hk)
  · obtain ⟨p, e1, e2⟩ := h1 e
    refine ⟨_, e1, ?_⟩
    rw [hs2, ← e2]
    rfl
set_option maxRecDepth 100000 in
set_option maxHeartbeats 4000000 in
theorem matcher_any {F : Nat → Prop} {w0 w : World} {b : Nat} {ts : List Tk} {ns : List Nd} {fl : Bool} (G : Nat → Prop) (h : RdAt F w0 w b ts ns fl) (pb : Nat) (hp : ¬ F pb) (hg : G pb) (hl : w0.heap.size ≤ pb) (hc : w.heap[pb]? = some (.cells #[str [], .int .u8 0, str []] 33)) (hsm : ∀ t ∈ ts, t.text.length ≤ 4096) :
    Calls Tryz.prog 113 #[ptr b, ptr pb] w (MatPost F G w0 w b pb ts ns fl) := by
  have hpw := lt_of_block hc
  have ht1 : Hid (Calls Tryz.prog 112 #[.pointer (some ⟨b, 0, none⟩), .int .u8 1, .pointer (some ⟨pb, 0, none⟩)] w.drew fun e w' => e = .returned (.bool (hdk 1 ts)) ∧ RdTo F G w0 w.drew w' b (rst (hdk 1 ts) ts) ns fl ∧ w'.heap[pb]? = some (.cells (if hdk 1 ts then #[str [], .int .u8 0, str []].setIfInBounds 0 (str (headT ts)) else #[str [], .int .u8 0, str []]) 33)) := take_any G h.drew 1 pb 0 hp hg hl hc (by simp)
  have hcl := hid (fun (s : Tx) (hs : s.length ≤ 4096) (W : World) => clone_any s W (by omega))
  have hsm0 := hid hsm
  have hsm1 := hid (tail_mem hsm)
  have hsm2 := hid (tail_mem (tail_mem hsm))
  cases e1 : hdk 1 ts
  · have hno := hid (matT_no1 e1)
    rw [e1] at ht1
    simp only [rst_false, Bool.false_eq_true, if_false] at ht1
    clear h hc
    unfold ptr str at *
    go_enter Tryz.func113, Tryz.ntmps113
    go_wp2_with fail
    refine wp_region_any (by kernel_rfl) ?_; try (change wpAny _ _ _ _ _ _ _ (World.drew _))
    refine wpAny_take (i := 0) (v := ?v1) (by simp only [List.getElem?_toArray, List.getElem?_cons_zero]; rfl) (by kernel_rfl) (by kernel_rfl) (by kernel_rfl) (by exact fun _ _ _ h => h) (Or.inl ⟨by kernel_rfl, ?hy1⟩) ?rest1; (case hy1 => (intro w; go_simp) <;> with_reducible rfl); go_frame; refine wpAny_take (i := 1) (v := ?v2) (by simp only [List.getElem?_toArray, List.getElem?_cons_succ, List.getElem?_cons_zero]; rfl) (by kernel_rfl) (by kernel_rfl) (by kernel_rfl) (by exact fun _ _ _ h => h) (Or.inl ⟨by kernel_rfl, ?hy2⟩) ?rest2; (case hy2 => (intro w; go_simp) <;> with_reducible rfl); go_frame; refine wpAny_take (i := 2) (v := ?v3) (by simp only [List.getElem?_toArray, List.getElem?_cons_succ, List.getElem?_cons_zero]; rfl) (by kernel_rfl) (by kernel_rfl) (by kernel_rfl) (by exact fun _ _ _ h => h) (Or.inl ⟨by kernel_rfl, ?hy3⟩) ?rest3; (case hy3 => (intro w; go_simp) <;> with_reducible rfl); go_frame; refine wpAny_take (i := 3) (v := ?v4) (by simp only [List.getElem?_toArray, List.getElem?_cons_succ, List.getElem?_cons_zero]; rfl) (by kernel_rfl) (by kernel_rfl) (by kernel_rfl) (by exact fun _ _ _ h => h) (Or.inl ⟨by kernel_rfl, ?hy4⟩) ?rest4; (case hy4 => (intro w; go_simp) <;> with_reducible rfl); go_frame
    refine wpAny_ready (rs := [4]) (by kernel_rfl) (by simp) ?_; refine AllReady.cons rfl (fun K hK => ?_) AllReady.nil; go_simp
    refine ht1.out.mono ?_
    rintro e w1 ⟨rfl, r1', x1⟩
    replace r1' := hid r1'
    replace x1 := hid x1
    go_wp2
    refine wpAny_take (i := 5) (v := ?v5) (by simp only [List.getElem?_toArray, List.getElem?_cons_succ, List.getElem?_cons_zero]; rfl) (by kernel_rfl) (by kernel_rfl) (by kernel_rfl) (by exact fun _ _ _ h => h) (Or.inl ⟨by kernel_rfl, ?hy5⟩) ?rest5; (case hy5 => (intro w; go_simp) <;> with_reducible rfl); go_frame
    refine wpAny_take (i := 6) (v := undef) (by simp only [List.getElem?_toArray, List.getElem?_cons_succ, List.getElem?_cons_zero]; rfl) (by kernel_rfl) (by kernel_rfl) (by kernel_rfl) (by exact fun _ _ _ h => h) (Or.inr ⟨by kernel_rfl, rfl⟩) ?_; go_frame; refine wpAny_take (i := 7) (v := undef) (by simp only [List.getElem?_toArray, List.getElem?_cons_succ, List.getElem?_cons_zero]; rfl) (by kernel_rfl) (by kernel_rfl) (by kernel_rfl) (by exact fun _ _ _ h => h) (Or.inr ⟨by kernel_rfl, rfl⟩) ?_; go_frame; refine wpAny_take (i := 8) (v := undef) (by simp only [List.getElem?_toArray, List.getElem?_cons_succ, List.getElem?_cons_zero]; rfl) (by kernel_rfl) (by kernel_rfl) (by kernel_rfl) (by exact fun _ _ _ h => h) (Or.inr ⟨by kernel_rfl, rfl⟩) ?_; go_frame; refine wpAny_take (i := 9) (v := undef) (by simp only [List.getElem?_toArray, List.getElem?_cons_succ, List.getElem?_cons_zero]; rfl) (by kernel_rfl) (by kernel_rfl) (by kernel_rfl) (by exact fun _ _ _ h => h) (Or.inr ⟨by kernel_rfl, rfl⟩) ?_; go_frame; refine wpAny_take (i := 10) (v := undef) (by simp only [List.getElem?_toArray, List.getElem?_cons_succ, List.getElem?_cons_zero]; rfl) (by kernel_rfl) (by kernel_rfl) (by kernel_rfl) (by exact fun _ _ _ h => h) (Or.inr ⟨by kernel_rfl, rfl⟩) ?_; go_frame; refine wpAny_take (i := 11) (v := undef) (by simp only [List.getElem?_toArray, List.getElem?_cons_succ, List.getElem?_cons_zero]; rfl) (by kernel_rfl) (by kernel_rfl) (by kernel_rfl) (by exact fun _ _ _ h => h) (Or.inr ⟨by kernel_rfl, rfl⟩) ?_; go_frame
    refine wpAny_take (i := 12) (v := ?v6) (by simp only [List.getElem?_toArray, List.getElem?_cons_succ, List.getElem?_cons_zero]; rfl) (by kernel_rfl) (by kernel_rfl) (by kernel_rfl) (by exact fun _ _ _ h => h) (Or.inl ⟨by kernel_rfl, ?hy6⟩) ?rest6; (case hy6 => (intro w; go_simp) <;> with_reducible rfl); go_frame; refine wpAny_take (i := 13) (v := ?v7) (by simp only [List.getElem?_toArray, List.getElem?_cons_succ, List.getElem?_cons_zero]; rfl) (by kernel_rfl) (by kernel_rfl) (by kernel_rfl) (by exact fun _ _ _ h => h) (Or.inl ⟨by kernel_rfl, ?hy7⟩) ?rest7; (case hy7 => (intro w; go_simp) <;> with_reducible rfl); go_frame
    refine wpAny_take (i := 14) (v := undef) (by simp only [List.getElem?_toArray, List.getElem?_cons_succ, List.getElem?_cons_zero]; rfl) (by kernel_rfl) (by kernel_rfl) (by kernel_rfl) (by exact fun _ _ _ h => h) (Or.inr ⟨by kernel_rfl, rfl⟩) ?_; go_frame; refine wpAny_take (i := 15) (v := undef) (by simp only [List.getElem?_toArray, List.getElem?_cons_succ, List.getElem?_cons_zero]; rfl) (by kernel_rfl) (by kernel_rfl) (by kernel_rfl) (by exact fun _ _ _ h => h) (Or.inr ⟨by kernel_rfl, rfl⟩) ?_; go_frame; refine wpAny_take (i := 16) (v := undef) (by simp only [List.getElem?_toArray, List.getElem?_cons_succ, List.getElem?_cons_zero]; rfl) (by kernel_rfl) (by kernel_rfl) (by kernel_rfl) (by exact fun _ _ _ h => h) (Or.inr ⟨by kernel_rfl, rfl⟩) ?_; go_frame; refine wpAny_take (i := 17) (v := undef) (by simp only [List.getElem?_toArray, List.getElem?_cons_succ, List.getElem?_cons_zero]; rfl) (by kernel_rfl) (by kernel_rfl) (by kernel_rfl) (by exact fun _ _ _ h => h) (Or.inr ⟨by kernel_rfl, rfl⟩) ?_; go_frame; refine wpAny_take (i := 18) (v := undef) (by simp only [List.getElem?_toArray, List.getElem?_cons_succ, List.getElem?_cons_zero]; rfl) (by kernel_rfl) (by kernel_rfl) (by kernel_rfl) (by exact fun _ _ _ h => h) (Or.inr ⟨by kernel_rfl, rfl⟩) ?_; go_frame
    refine wpAny_take (i := 19) (v := ?v8) (by simp only [List.getElem?_toArray, List.getElem?_cons_succ, List.getElem?_cons_zero]; rfl) (by kernel_rfl) (by kernel_rfl) (by kernel_rfl) (by exact fun _ _ _ h => h) (Or.inl ⟨by kernel_rfl, ?hy8⟩) ?rest8; (case hy8 => (intro w; go_simp) <;> with_reducible rfl); go_frame; refine wpAny_take (i := 20) (v := ?v9) (by simp only [List.getElem?_toArray, List.getElem?_cons_succ, List.getElem?_cons_zero]; rfl) (by kernel_rfl) (by kernel_rfl) (by kernel_rfl) (by exact fun _ _ _ h => h) (Or.inl ⟨by kernel_rfl, ?hy9⟩) ?rest9; (case hy9 => (intro w; go_simp) <;> with_reducible rfl); go_frame
    refine wpAny_done (by kernel_rfl) ?_ _
    go_wp2
    have r1 := r1'.out.drew
    replace x1 : w1.heap[pb]? = some (boxM [] 0 []) := x1.out
    obtain ⟨n0, hn0⟩ : ∃ x, x = ([] : Tx) := ⟨_, rfl⟩
    obtain ⟨v0, hv0⟩ : ∃ x, x = ([] : Tx) := ⟨_, rfl⟩
    obtain ⟨o0, ho0⟩ : ∃ x, x = (0 : Nat) := ⟨_, rfl⟩
    replace x1 : w1.heap[pb]? = some (boxM n0 o0 v0) := by rw [hn0, hv0, ho0]; exact x1
    have hn4 : n0.length ≤ 4096 := by rw [hn0]; simp
    have hv4 : v0.length ≤ 4096 := by rw [hv0]; simp
    have FIN : Hid (∀ W2, Below w1.heap.size w1 W2 → MatPost F G w0 w b pb ts ns fl (.returned (.bool false)) ((W2.setCell ⟨pb, 0, none⟩ (.string ⟨n0.toArray⟩)).setCell ⟨pb, 2, none⟩ (.string ⟨v0.toArray⟩))) := fun W2 hb => matcher_end (n := n0) (v := v0) (o := o0) r1 hp hpw hg hl x1 hb false (fun _ => hno.out) (fun e => by cases e)
    have hU : Hid (∀ W, Below w1.heap.size w1 W → W.cell? ⟨pb, 0, none⟩ = some (.string ⟨n0.toArray⟩) ∧ W.cell? ⟨pb, 2, none⟩ = some (.string ⟨v0.toArray⟩) ∧ W.frozen? ⟨pb, 0, none⟩ = false ∧ W.frozen? ⟨pb, 2, none⟩ = false ∧ (W.setCell ⟨pb, 0, none⟩ (.string ⟨n0.toArray⟩)).frozen? ⟨pb, 2, none⟩ = false ∧ (W.setCell ⟨pb, 0, none⟩ (.string ⟨n0.toArray⟩)).cell? ⟨pb, 2, none⟩ = some (.string ⟨v0.toArray⟩) ∧ (W.setCell ⟨pb, 0, none⟩ (.string ⟨n0.toArray⟩)).cell? ⟨pb, 0, none⟩ = some (.string ⟨n0.toArray⟩) ∧ ((W.setCell ⟨pb, 0, none⟩ (.string ⟨n0.toArray⟩)).setCell ⟨pb, 2, none⟩ (.string ⟨v0.toArray⟩)).cell? ⟨pb, 0, none⟩ = some (.string ⟨n0.toArray⟩) ∧ ((W.setCell ⟨pb, 0, none⟩ (.string ⟨n0.toArray⟩)).setCell ⟨pb, 2, none⟩ (.string ⟨v0.toArray⟩)).cell? ⟨pb, 2, none⟩ = some (.string ⟨v0.toArray⟩)) := fun W hb => by
      have hx := (hb.block pb (lt_of_block x1)).trans x1
      unfold boxM at hx
      have hx2 := heap_set_at hx (b := pb) (o := 0) (.string ⟨n0.toArray⟩)
      have hx3 := heap_set_at hx2 (b := pb) (o := 2) (.string ⟨v0.toArray⟩)
      exact ⟨by rw [cell_of hx]; rfl, by rw [cell_of hx]; rfl, frozen_of hx 0, frozen_of hx 2, frozen_of hx2 2, by rw [cell_of hx2]; rfl, by rw [cell_of hx2]; rfl, by rw [cell_of hx3]; rfl, by rw [cell_of hx3]; rfl⟩
    have hcn := hid (hcl.out n0 hn4)
    have hcv := hid (hcl.out v0 hv4)
    have B := hid (Below.refl w1.heap.size w1)
    obtain ⟨g0, g1, g2, g3, g4, g5, g6, g7, g8⟩ := hU.out w1 B.out
    clear x1 r1 hn0 hv0 ho0 hn4 hv4 hcl hno ht1 r1'
    go_region_held3 (fun w' => w'.cell? ⟨pb, 0, none⟩ = some (.string ⟨n0.toArray⟩) ∧ w'.cell? ⟨pb, 2, none⟩ = some (.string ⟨v0.toArray⟩)) (go_keep) (first | (go_at_call 54; refine (hcn.out w1.drew).mono ?_; rintro e w4 ⟨rfl, b4⟩; have B4 := hid (low' (below_drewN (n := 1) B.out) b4); obtain ⟨j0, j1, j2, j3, j4, j5, j6, j7, j8⟩ := hU.out w4 B4.out; clear b4) | (go_at_call 54; refine (hcv.out _).mono ?_; rintro e w5 ⟨rfl, b5⟩; have B5 := hid (low' B4.out b5); obtain ⟨k0, k1, k2, k3, k4, k5, k6, k7, k8⟩ := hU.out w5 B5.out; clear b5))
    go_wp2
    go_ret
    exact FIN.out _ B5.out
  · rw [e1] at ht1
    simp only [rst_true, if_true] at ht1
    have bx1 : (#[str [], .int .u8 0, str []] : Array Value).setIfInBounds 0 (str (headT ts)) = #[str (headT ts), .int .u8 0, str []] := rfl
    rw [bx1] at ht1
    have op := hid (fun W => ops_any W)
    have hs1 := hid (fun (w1 : World) (r1 : RdTo F G w0 w.drew w1 b ts.tail ns fl) (x1 : w1.heap[pb]? = some (boxM (headT ts) 0 [])) (w2 : World) (bm : Nat) (hbm : w1.heap.size ≤ bm) (hm : MapAt opMap w2 bm) (hb : Below w1.heap.size w1 w2) => (show Calls Tryz.prog 86 #[.pointer (some ⟨b, 0, none⟩), .int .u8 4, .map (some bm), .pointer (some ⟨pb, 1, none⟩)] w2 fun e w' => e = .returned (.bool (hdk 4 ts.tail && (findR opMap (headT ts.tail)).isSome)) ∧ RdTo F G w0 w w' b (rst (hdk 4 ts.tail) ts.tail) ns fl ∧ w'.heap[pb]? = some (boxM (headT ts) (if hdk 4 ts.tail then (findR opMap (headT ts.tail)).getD 0 else 0) []) from by
      obtain ⟨F1, r1', k1, i1, f1⟩ := r1.drew
      have hpF : ¬ F1 pb := fun hf => by
        rcases f1 pb hf with e | e
        · exact hp e
        · omega
      have hx2 : w2.heap[pb]? = some (boxM (headT ts) 0 []) := (hb.block pb (lt_of_block x1)).trans x1
      have r2 := r1'.below hb
      refine (stands_any G r2 4 pb 1 bm hpF hg hl hx2 (by simp) hm (fun hf => by have := r1'.lt bm hf; omega) (fun t ht => by have := hsm1.out t ht; unfold maxLen; omega)).mono ?_
      rintro e w3 ⟨rfl, g1, g2⟩
      refine ⟨rfl, ?_, ?_⟩
      · obtain ⟨F3, j1, j2, j3, j4⟩ := g1
        refine ⟨F3, j1, (k1.trans (F' := fun _ => False) (kept_below hb) (fun k hk => hk.elim)).trans j2 fun k hk => ?_, fun k hk => j3 k (i1 k hk), fun k hk => ?_⟩
        · rcases hk with hk | hk
          · rcases f1 k hk with h | h
            · exact .inl (.inl h)
            · exact .inr h
          · exact .inl (.inr hk)
        · rcases j4 k hk with h | h
          · exact f1 k h
          · exact .inr (Nat.le_trans (Nat.le_trans k1.size hb.size) h)
      · rw [g2]
        unfold boxM
        split <;> rfl))
    have ht3 := hid (fun (w3 : World) (o : Nat) (r3 : RdTo F G w0 w w3 b ts.tail.tail ns fl) (x3 : w3.heap[pb]? = some (boxM (headT ts) o [])) => (show Calls Tryz.prog 112 #[.pointer (some ⟨b, 0, none⟩), .int .u8 3, .pointer (some ⟨pb, 2, none⟩)] w3 fun e w' => e = .returned (.bool (hdk 3 ts.tail.tail)) ∧ RdTo F G w0 w w' b (rst (hdk 3 ts.tail.tail) ts.tail.tail) ns fl ∧ w'.heap[pb]? = some (boxM (headT ts) o (if hdk 3 ts.tail.tail then headT ts.tail.tail else [])) from by
      obtain ⟨F1, r1', k1, i1, f1⟩ := r3
      have hpF : ¬ F1 pb := fun hf => by
        rcases f1 pb hf with e | e
        · exact hp e
        · omega
      refine (take_any G r1' 3 pb 2 hpF hg hl x3 (by simp)).mono ?_
      rintro e w4 ⟨rfl, g1, g2⟩
      refine ⟨rfl, ?_, ?_⟩
      · obtain ⟨F3, j1, j2, j3, j4⟩ := g1
        refine ⟨F3, j1, k1.trans j2 fun k hk => ?_, fun k hk => j3 k (i1 k hk), fun k hk => ?_⟩
        · rcases hk with hk | hk
          · rcases f1 k hk with h | h
            · exact .inl (.inl h)
            · exact .inr h
          · exact .inl (.inr hk)
        · rcases j4 k hk with h | h
          · exact f1 k h
          · exact .inr (Nat.le_trans k1.size h)
      · rw [g2]
        unfold boxM
        split <;> rfl))
    have hfin := hid (fun (w3 : World) (r : RdTo F G w0 w w3 b (rst (hdk 4 ts.tail) ts.tail) ns fl) => r)
    clear h hc
    cases e2 : (hdk 4 ts.tail && (findR opMap (headT ts.tail)).isSome)
    · have hno := hid (show matT ts = none from by
        cases ts with
        | nil => rfl
        | cons t r => exact matT_no2 e2)
      unfold ptr str at *
      go_enter Tryz.func113, Tryz.ntmps113
      go_wp2_with fail
      refine wp_region_any (by kernel_rfl) ?_; try (change wpAny _ _ _ _ _ _ _ (World.drew _))
      refine wpAny_take (i := 0) (v := ?v10) (by simp only [List.getElem?_toArray, List.getElem?_cons_zero]; rfl) (by kernel_rfl) (by kernel_rfl) (by kernel_rfl) (by exact fun _ _ _ h => h) (Or.inl ⟨by kernel_rfl, ?hy10⟩) ?rest10; (case hy10 => (intro w; go_simp) <;> with_reducible rfl); go_frame; refine wpAny_take (i := 1) (v := ?v11) (by simp only [List.getElem?_toArray, List.getElem?_cons_succ, List.getElem?_cons_zero]; rfl) (by kernel_rfl) (by kernel_rfl) (by kernel_rfl) (by exact fun _ _ _ h => h) (Or.inl ⟨by kernel_rfl, ?hy11⟩) ?rest11; (case hy11 => (intro w; go_simp) <;> with_reducible rfl); go_frame; refine wpAny_take (i := 2) (v := ?v12) (by simp only [List.getElem?_toArray, List.getElem?_cons_succ, List.getElem?_cons_zero]; rfl) (by kernel_rfl) (by kernel_rfl) (by kernel_rfl) (by exact fun _ _ _ h => h) (Or.inl ⟨by kernel_rfl, ?hy12⟩) ?rest12; (case hy12 => (intro w; go_simp) <;> with_reducible rfl); go_frame; refine wpAny_take (i := 3) (v := ?v13) (by simp only [List.getElem?_toArray, List.getElem?_cons_succ, List.getElem?_cons_zero]; rfl) (by kernel_rfl) (by kernel_rfl) (by kernel_rfl) (by exact fun _ _ _ h => h) (Or.inl ⟨by kernel_rfl, ?hy13⟩) ?rest13; (case hy13 => (intro w; go_simp) <;> with_reducible rfl); go_frame
      refine wpAny_ready (rs := [4]) (by kernel_rfl) (by simp) ?_; refine AllReady.cons rfl (fun K hK => ?_) AllReady.nil; go_simp
      refine ht1.out.mono ?_
      rintro e w1 ⟨rfl, r1', x1⟩
      replace r1' := hid r1'
      replace x1 : Hid (w1.heap[pb]? = some (boxM (headT ts) 0 [])) := hid x1
      go_wp2
      refine wpAny_take (i := 5) (v := ?v14) (by simp only [List.getElem?_toArray, List.getElem?_cons_succ, List.getElem?_cons_zero]; rfl) (by kernel_rfl) (by kernel_rfl) (by kernel_rfl) (by exact fun _ _ _ h => h) (Or.inl ⟨by kernel_rfl, ?hy14⟩) ?rest14; (case hy14 => (intro w; go_simp) <;> with_reducible rfl); go_frame; refine wpAny_take (i := 6) (v := ?v15) (by simp only [List.getElem?_toArray, List.getElem?_cons_succ, List.getElem?_cons_zero]; rfl) (by kernel_rfl) (by kernel_rfl) (by kernel_rfl) (by exact fun _ _ _ h => h) (Or.inl ⟨by kernel_rfl, ?hy15⟩) ?rest15; (case hy15 => (intro w; go_simp) <;> with_reducible rfl); go_frame; refine wpAny_take (i := 8) (v := ?v16) (by simp only [List.getElem?_toArray, List.getElem?_cons_succ, List.getElem?_cons_zero]; rfl) (by kernel_rfl) (by kernel_rfl) (by kernel_rfl) (by exact fun _ _ _ h => h) (Or.inl ⟨by kernel_rfl, ?hy16⟩) ?rest16; (case hy16 => (intro w; go_simp) <;> with_reducible rfl); go_frame; refine wpAny_take (i := 9) (v := ?v17) (by simp only [List.getElem?_toArray, List.getElem?_cons_succ, List.getElem?_cons_zero]; rfl) (by kernel_rfl) (by kernel_rfl) (by kernel_rfl) (by exact fun _ _ _ h => h) (Or.inl ⟨by kernel_rfl, ?hy17⟩) ?rest17; (case hy17 => (intro w; go_simp) <;> with_reducible rfl); go_frame; refine wpAny_take (i := 10) (v := ?v18) (by simp only [List.getElem?_toArray, List.getElem?_cons_succ, List.getElem?_cons_zero]; rfl) (by kernel_rfl) (by kernel_rfl) (by kernel_rfl) (by exact fun _ _ _ h => h) (Or.inl ⟨by kernel_rfl, ?hy18⟩) ?rest18; (case hy18 => (intro w; go_simp) <;> with_reducible rfl); go_frame
      refine wpAny_ready (rs := [7]) (by kernel_rfl) (by simp) ?_; refine AllReady.cons rfl (fun K hK => ?_) AllReady.nil; go_simp
      refine (op.out _).mono ?_
      rintro e w2 ⟨bm, rfl, hbm, hm, b2⟩
      have hst := hid (hs1.out w1 r1'.out x1.out w2 bm hbm hm b2)
      clear hbm hm b2
      go_wp2
      refine wpAny_ready (rs := [11]) (by kernel_rfl) (by simp) ?_; refine AllReady.cons rfl (fun K hK => ?_) AllReady.nil; go_simp
      refine hst.out.mono ?_
      rintro e w3 ⟨he, r3, x3⟩
      rw [e2] at he
      subst he
      replace r3 := hid r3
      replace x3 := hid x3
      go_wp2
      refine wpAny_take (i := 12) (v := ?v19) (by simp only [List.getElem?_toArray, List.getElem?_cons_succ, List.getElem?_cons_zero]; rfl) (by kernel_rfl) (by kernel_rfl) (by kernel_rfl) (by exact fun _ _ _ h => h) (Or.inl ⟨by kernel_rfl, ?hy19⟩) ?rest19; (case hy19 => (intro w; go_simp) <;> with_reducible rfl); go_frame; refine wpAny_take (i := 13) (v := ?v20) (by simp only [List.getElem?_toArray, List.getElem?_cons_succ, List.getElem?_cons_zero]; rfl) (by kernel_rfl) (by kernel_rfl) (by kernel_rfl) (by exact fun _ _ _ h => h) (Or.inl ⟨by kernel_rfl, ?hy20⟩) ?rest20; (case hy20 => (intro w; go_simp) <;> with_reducible rfl); go_frame
      refine wpAny_take (i := 14) (v := undef) (by simp only [List.getElem?_toArray, List.getElem?_cons_succ, List.getElem?_cons_zero]; rfl) (by kernel_rfl) (by kernel_rfl) (by kernel_rfl) (by exact fun _ _ _ h => h) (Or.inr ⟨by kernel_rfl, rfl⟩) ?_; go_frame; refine wpAny_take (i := 15) (v := undef) (by simp only [List.getElem?_toArray, List.getElem?_cons_succ, List.getElem?_cons_zero]; rfl) (by kernel_rfl) (by kernel_rfl) (by kernel_rfl) (by exact fun _ _ _ h => h) (Or.inr ⟨by kernel_rfl, rfl⟩) ?_; go_frame; refine wpAny_take (i := 16) (v := undef) (by simp only [List.getElem?_toArray, List.getElem?_cons_succ, List.getElem?_cons_zero]; rfl) (by kernel_rfl) (by kernel_rfl) (by kernel_rfl) (by exact fun _ _ _ h => h) (Or.inr ⟨by kernel_rfl, rfl⟩) ?_; go_frame; refine wpAny_take (i := 17) (v := undef) (by simp only [List.getElem?_toArray, List.getElem?_cons_succ, List.getElem?_cons_zero]; rfl) (by kernel_rfl) (by kernel_rfl) (by kernel_rfl) (by exact fun _ _ _ h => h) (Or.inr ⟨by kernel_rfl, rfl⟩) ?_; go_frame; refine wpAny_take (i := 18) (v := undef) (by simp only [List.getElem?_toArray, List.getElem?_cons_succ, List.getElem?_cons_zero]; rfl) (by kernel_rfl) (by kernel_rfl) (by kernel_rfl) (by exact fun _ _ _ h => h) (Or.inr ⟨by kernel_rfl, rfl⟩) ?_; go_frame
      refine wpAny_take (i := 19) (v := ?v21) (by simp only [List.getElem?_toArray, List.getElem?_cons_succ, List.getElem?_cons_zero]; rfl) (by kernel_rfl) (by kernel_rfl) (by kernel_rfl) (by exact fun _ _ _ h => h) (Or.inl ⟨by kernel_rfl, ?hy21⟩) ?rest21; (case hy21 => (intro w; go_simp) <;> with_reducible rfl); go_frame; refine wpAny_take (i := 20) (v := ?v22) (by simp only [List.getElem?_toArray, List.getElem?_cons_succ, List.getElem?_cons_zero]; rfl) (by kernel_rfl) (by kernel_rfl) (by kernel_rfl) (by exact fun _ _ _ h => h) (Or.inl ⟨by kernel_rfl, ?hy22⟩) ?rest22; (case hy22 => (intro w; go_simp) <;> with_reducible rfl); go_frame
      refine wpAny_done (by kernel_rfl) ?_ _
      go_wp2
      obtain ⟨w1, rfl⟩ : ∃ W, W = w3 := ⟨_, rfl⟩
      have r1 := r3.out
      replace x1 := x3.out
      obtain ⟨n0, hn0⟩ : ∃ x, x = ((headT ts) : Tx) := ⟨_, rfl⟩
      obtain ⟨v0, hv0⟩ : ∃ x, x = ([] : Tx) := ⟨_, rfl⟩
      obtain ⟨o0, ho0⟩ : ∃ x, x = ((if hdk 4 ts.tail = true then (findR opMap (headT ts.tail)).getD 0 else 0) : Nat) := ⟨_, rfl⟩
      replace x1 : w1.heap[pb]? = some (boxM n0 o0 v0) := by rw [hn0, hv0, ho0]; exact x1
      have hn4 : n0.length ≤ 4096 := by rw [hn0]; exact head_len hsm0.out
      have hv4 : v0.length ≤ 4096 := by rw [hv0]; simp
      have FIN : Hid (∀ W2, Below w1.heap.size w1 W2 → MatPost F G w0 w b pb ts ns fl (.returned (.bool false)) ((W2.setCell ⟨pb, 0, none⟩ (.string ⟨n0.toArray⟩)).setCell ⟨pb, 2, none⟩ (.string ⟨v0.toArray⟩))) := fun W2 hb => matcher_end (n := n0) (v := v0) (o := o0) r1 hp hpw hg hl x1 hb false (fun _ => hno.out) (fun e => by cases e)
      have hU : Hid (∀ W, Below w1.heap.size w1 W → W.cell? ⟨pb, 0, none⟩ = some (.string ⟨n0.toArray⟩) ∧ W.cell? ⟨pb, 2, none⟩ = some (.string ⟨v0.toArray⟩) ∧ W.frozen? ⟨pb, 0, none⟩ = false ∧ W.frozen? ⟨pb, 2, none⟩ = false ∧ (W.setCell ⟨pb, 0, none⟩ (.string ⟨n0.toArray⟩)).frozen? ⟨pb, 2, none⟩ = false ∧ (W.setCell ⟨pb, 0, none⟩ (.string ⟨n0.toArray⟩)).cell? ⟨pb, 2, none⟩ = some (.string ⟨v0.toArray⟩) ∧ (W.setCell ⟨pb, 0, none⟩ (.string ⟨n0.toArray⟩)).cell? ⟨pb, 0, none⟩ = some (.string ⟨n0.toArray⟩) ∧ ((W.setCell ⟨pb, 0, none⟩ (.string ⟨n0.toArray⟩)).setCell ⟨pb, 2, none⟩ (.string ⟨v0.toArray⟩)).cell? ⟨pb, 0, none⟩ = some (.string ⟨n0.toArray⟩) ∧ ((W.setCell ⟨pb, 0, none⟩ (.string ⟨n0.toArray⟩)).setCell ⟨pb, 2, none⟩ (.string ⟨v0.toArray⟩)).cell? ⟨pb, 2, none⟩ = some (.string ⟨v0.toArray⟩)) := fun W hb => by
        have hx := (hb.block pb (lt_of_block x1)).trans x1
        unfold boxM at hx
        have hx2 := heap_set_at hx (b := pb) (o := 0) (.string ⟨n0.toArray⟩)
        have hx3 := heap_set_at hx2 (b := pb) (o := 2) (.string ⟨v0.toArray⟩)
        exact ⟨by rw [cell_of hx]; rfl, by rw [cell_of hx]; rfl, frozen_of hx 0, frozen_of hx 2, frozen_of hx2 2, by rw [cell_of hx2]; rfl, by rw [cell_of hx2]; rfl, by rw [cell_of hx3]; rfl, by rw [cell_of hx3]; rfl⟩
      have hcn := hid (hcl.out n0 hn4)
      have hcv := hid (hcl.out v0 hv4)
      have B := hid (Below.refl w1.heap.size w1)
      obtain ⟨g0, g1, g2, g3, g4, g5, g6, g7, g8⟩ := hU.out w1 B.out
      clear x1 r1 hn0 hv0 ho0 hn4 hv4 hcl hno ht1 op hs1 ht3 hfin r1' r3 x3 hst
      go_region_held3 (fun w' => w'.cell? ⟨pb, 0, none⟩ = some (.string ⟨n0.toArray⟩) ∧ w'.cell? ⟨pb, 2, none⟩ = some (.string ⟨v0.toArray⟩)) (go_keep) (first | (go_at_call 54; refine (hcn.out w1.drew).mono ?_; rintro e w4 ⟨rfl, b4⟩; have B4 := hid (low' (below_drewN (n := 1) B.out) b4); obtain ⟨j0, j1, j2, j3, j4, j5, j6, j7, j8⟩ := hU.out w4 B4.out; clear b4) | (go_at_call 54; refine (hcv.out _).mono ?_; rintro e w5 ⟨rfl, b5⟩; have B5 := hid (low' B4.out b5); obtain ⟨k0, k1, k2, k3, k4, k5, k6, k7, k8⟩ := hU.out w5 B5.out; clear b5))
      go_wp2
      go_ret
      exact FIN.out _ B5.out
    · have e4 : hdk 4 ts.tail = true := by
        cases e5 : hdk 4 ts.tail
        · rw [e5] at e2; cases e2
        · rfl
      have e2p := e2
      rw [e4] at e2p
      simp only [e4, if_true, rst_true] at hs1
      cases e3 : hdk 3 ts.tail.tail
      · have hno := hid (show matT ts = none from by
          match ts, e1, e2, e3 with
          | [], e1, _, _ => cases e1
          | [t1], _, e2, _ => cases e2
          | t1 :: t2 :: r, _, _, e3 => exact matT_no3 e3)
        simp only [e3, rst_false, Bool.false_eq_true, if_false] at ht3
        unfold ptr str at *
        go_enter Tryz.func113, Tryz.ntmps113
        go_wp2_with fail
        refine wp_region_any (by kernel_rfl) ?_; try (change wpAny _ _ _ _ _ _ _ (World.drew _))
        refine wpAny_take (i := 0) (v := ?v23) (by simp only [List.getElem?_toArray, List.getElem?_cons_zero]; rfl) (by kernel_rfl) (by kernel_rfl) (by kernel_rfl) (by exact fun _ _ _ h => h) (Or.inl ⟨by kernel_rfl, ?hy23⟩) ?rest23; (case hy23 => (intro w; go_simp) <;> with_reducible rfl); go_frame; refine wpAny_take (i := 1) (v := ?v24) (by simp only [List.getElem?_toArray, List.getElem?_cons_succ, List.getElem?_cons_zero]; rfl) (by kernel_rfl) (by kernel_rfl) (by kernel_rfl) (by exact fun _ _ _ h => h) (Or.inl ⟨by kernel_rfl, ?hy24⟩) ?rest24; (case hy24 => (intro w; go_simp) <;> with_reducible rfl); go_frame; refine wpAny_take (i := 2) (v := ?v25) (by simp only [List.getElem?_toArray, List.getElem?_cons_succ, List.getElem?_cons_zero]; rfl) (by kernel_rfl) (by kernel_rfl) (by kernel_rfl) (by exact fun _ _ _ h => h) (Or.inl ⟨by kernel_rfl, ?hy25⟩) ?rest25; (case hy25 => (intro w; go_simp) <;> with_reducible rfl); go_frame; refine wpAny_take (i := 3) (v := ?v26) (by simp only [List.getElem?_toArray, List.getElem?_cons_succ, List.getElem?_cons_zero]; rfl) (by kernel_rfl) (by kernel_rfl) (by kernel_rfl) (by exact fun _ _ _ h => h) (Or.inl ⟨by kernel_rfl, ?hy26⟩) ?rest26; (case hy26 => (intro w; go_simp) <;> with_reducible rfl); go_frame
        refine wpAny_ready (rs := [4]) (by kernel_rfl) (by simp) ?_; refine AllReady.cons rfl (fun K hK => ?_) AllReady.nil; go_simp
        refine ht1.out.mono ?_
        rintro e w1 ⟨rfl, r1', x1⟩
        replace r1' := hid r1'
        replace x1 : Hid (w1.heap[pb]? = some (boxM (headT ts) 0 [])) := hid x1
        go_wp2
        refine wpAny_take (i := 5) (v := ?v27) (by simp only [List.getElem?_toArray, List.getElem?_cons_succ, List.getElem?_cons_zero]; rfl) (by kernel_rfl) (by kernel_rfl) (by kernel_rfl) (by exact fun _ _ _ h => h) (Or.inl ⟨by kernel_rfl, ?hy27⟩) ?rest27; (case hy27 => (intro w; go_simp) <;> with_reducible rfl); go_frame; refine wpAny_take (i := 6) (v := ?v28) (by simp only [List.getElem?_toArray, List.getElem?_cons_succ, List.getElem?_cons_zero]; rfl) (by kernel_rfl) (by kernel_rfl) (by kernel_rfl) (by exact fun _ _ _ h => h) (Or.inl ⟨by kernel_rfl, ?hy28⟩) ?rest28; (case hy28 => (intro w; go_simp) <;> with_reducible rfl); go_frame; refine wpAny_take (i := 8) (v := ?v29) (by simp only [List.getElem?_toArray, List.getElem?_cons_succ, List.getElem?_cons_zero]; rfl) (by kernel_rfl) (by kernel_rfl) (by kernel_rfl) (by exact fun _ _ _ h => h) (Or.inl ⟨by kernel_rfl, ?hy29⟩) ?rest29; (case hy29 => (intro w; go_simp) <;> with_reducible rfl); go_frame; refine wpAny_take (i := 9) (v := ?v30) (by simp only [List.getElem?_toArray, List.getElem?_cons_succ, List.getElem?_cons_zero]; rfl) (by kernel_rfl) (by kernel_rfl) (by kernel_rfl) (by exact fun _ _ _ h => h) (Or.inl ⟨by kernel_rfl, ?hy30⟩) ?rest30; (case hy30 => (intro w; go_simp) <;> with_reducible rfl); go_frame; refine wpAny_take (i := 10) (v := ?v31) (by simp only [List.getElem?_toArray, List.getElem?_cons_succ, List.getElem?_cons_zero]; rfl) (by kernel_rfl) (by kernel_rfl) (by kernel_rfl) (by exact fun _ _ _ h => h) (Or.inl ⟨by kernel_rfl, ?hy31⟩) ?rest31; (case hy31 => (intro w; go_simp) <;> with_reducible rfl); go_frame
        refine wpAny_ready (rs := [7]) (by kernel_rfl) (by simp) ?_; refine AllReady.cons rfl (fun K hK => ?_) AllReady.nil; go_simp
        refine (op.out _).mono ?_
        rintro e w2 ⟨bm, rfl, hbm, hm, b2⟩
        have hst := hid (hs1.out w1 r1'.out x1.out w2 bm hbm hm b2)
        clear hbm hm b2
        go_wp2
        refine wpAny_ready (rs := [11]) (by kernel_rfl) (by simp) ?_; refine AllReady.cons rfl (fun K hK => ?_) AllReady.nil; go_simp
        refine hst.out.mono ?_
        rintro e w3 ⟨he, r3, x3⟩
        rw [e2p] at he
        subst he
        replace r3 := hid r3
        replace x3 := hid x3
        have hst3 := hid (ht3.out w3 _ r3.out x3.out)
        go_wp2
        refine wpAny_take (i := 12) (v := ?v32) (by simp only [List.getElem?_toArray, List.getElem?_cons_succ, List.getElem?_cons_zero]; rfl) (by kernel_rfl) (by kernel_rfl) (by kernel_rfl) (by exact fun _ _ _ h => h) (Or.inl ⟨by kernel_rfl, ?hy32⟩) ?rest32; (case hy32 => (intro w; go_simp) <;> with_reducible rfl); go_frame; refine wpAny_take (i := 13) (v := ?v33) (by simp only [List.getElem?_toArray, List.getElem?_cons_succ, List.getElem?_cons_zero]; rfl) (by kernel_rfl) (by kernel_rfl) (by kernel_rfl) (by exact fun _ _ _ h => h) (Or.inl ⟨by kernel_rfl, ?hy33⟩) ?rest33; (case hy33 => (intro w; go_simp) <;> with_reducible rfl); go_frame; refine wpAny_take (i := 14) (v := ?v34) (by simp only [List.getElem?_toArray, List.getElem?_cons_succ, List.getElem?_cons_zero]; rfl) (by kernel_rfl) (by kernel_rfl) (by kernel_rfl) (by exact fun _ _ _ h => h) (Or.inl ⟨by kernel_rfl, ?hy34⟩) ?rest34; (case hy34 => (intro w; go_simp) <;> with_reducible rfl); go_frame; refine wpAny_take (i := 15) (v := ?v35) (by simp only [List.getElem?_toArray, List.getElem?_cons_succ, List.getElem?_cons_zero]; rfl) (by kernel_rfl) (by kernel_rfl) (by kernel_rfl) (by exact fun _ _ _ h => h) (Or.inl ⟨by kernel_rfl, ?hy35⟩) ?rest35; (case hy35 => (intro w; go_simp) <;> with_reducible rfl); go_frame; refine wpAny_take (i := 16) (v := ?v36) (by simp only [List.getElem?_toArray, List.getElem?_cons_succ, List.getElem?_cons_zero]; rfl) (by kernel_rfl) (by kernel_rfl) (by kernel_rfl) (by exact fun _ _ _ h => h) (Or.inl ⟨by kernel_rfl, ?hy36⟩) ?rest36; (case hy36 => (intro w; go_simp) <;> with_reducible rfl); go_frame; refine wpAny_take (i := 17) (v := ?v37) (by simp only [List.getElem?_toArray, List.getElem?_cons_succ, List.getElem?_cons_zero]; rfl) (by kernel_rfl) (by kernel_rfl) (by kernel_rfl) (by exact fun _ _ _ h => h) (Or.inl ⟨by kernel_rfl, ?hy37⟩) ?rest37; (case hy37 => (intro w; go_simp) <;> with_reducible rfl); go_frame
        refine wpAny_ready (rs := [18]) (by kernel_rfl) (by simp) ?_; refine AllReady.cons rfl (fun K hK => ?_) AllReady.nil; go_simp
        refine hst3.out.mono ?_
        rintro e w4 ⟨rfl, r4, x4⟩
        replace r4 := hid r4
        replace x4 := hid x4
        go_wp2
        refine wpAny_take (i := 19) (v := ?v38) (by simp only [List.getElem?_toArray, List.getElem?_cons_succ, List.getElem?_cons_zero]; rfl) (by kernel_rfl) (by kernel_rfl) (by kernel_rfl) (by exact fun _ _ _ h => h) (Or.inl ⟨by kernel_rfl, ?hy38⟩) ?rest38; (case hy38 => (intro w; go_simp) <;> with_reducible rfl); go_frame; refine wpAny_take (i := 20) (v := ?v39) (by simp only [List.getElem?_toArray, List.getElem?_cons_succ, List.getElem?_cons_zero]; rfl) (by kernel_rfl) (by kernel_rfl) (by kernel_rfl) (by exact fun _ _ _ h => h) (Or.inl ⟨by kernel_rfl, ?hy39⟩) ?rest39; (case hy39 => (intro w; go_simp) <;> with_reducible rfl); go_frame
        refine wpAny_done (by kernel_rfl) ?_ _
        go_wp2
        obtain ⟨w1, rfl⟩ : ∃ W, W = w4 := ⟨_, rfl⟩
        have r1 := r4.out
        replace x1 := x4.out
        obtain ⟨n0, hn0⟩ : ∃ x, x = ((headT ts) : Tx) := ⟨_, rfl⟩
        obtain ⟨v0, hv0⟩ : ∃ x, x = ([] : Tx) := ⟨_, rfl⟩
        obtain ⟨o0, ho0⟩ : ∃ x, x = (((findR opMap (headT ts.tail)).getD 0) : Nat) := ⟨_, rfl⟩
        replace x1 : w1.heap[pb]? = some (boxM n0 o0 v0) := by rw [hn0, hv0, ho0]; exact x1
        have hn4 : n0.length ≤ 4096 := by rw [hn0]; exact head_len hsm0.out
        have hv4 : v0.length ≤ 4096 := by rw [hv0]; simp
        have FIN : Hid (∀ W2, Below w1.heap.size w1 W2 → MatPost F G w0 w b pb ts ns fl (.returned (.bool false)) ((W2.setCell ⟨pb, 0, none⟩ (.string ⟨n0.toArray⟩)).setCell ⟨pb, 2, none⟩ (.string ⟨v0.toArray⟩))) := fun W2 hb => matcher_end (n := n0) (v := v0) (o := o0) r1 hp hpw hg hl x1 hb false (fun _ => hno.out) (fun e => by cases e)
        have hU : Hid (∀ W, Below w1.heap.size w1 W → W.cell? ⟨pb, 0, none⟩ = some (.string ⟨n0.toArray⟩) ∧ W.cell? ⟨pb, 2, none⟩ = some (.string ⟨v0.toArray⟩) ∧ W.frozen? ⟨pb, 0, none⟩ = false ∧ W.frozen? ⟨pb, 2, none⟩ = false ∧ (W.setCell ⟨pb, 0, none⟩ (.string ⟨n0.toArray⟩)).frozen? ⟨pb, 2, none⟩ = false ∧ (W.setCell ⟨pb, 0, none⟩ (.string ⟨n0.toArray⟩)).cell? ⟨pb, 2, none⟩ = some (.string ⟨v0.toArray⟩) ∧ (W.setCell ⟨pb, 0, none⟩ (.string ⟨n0.toArray⟩)).cell? ⟨pb, 0, none⟩ = some (.string ⟨n0.toArray⟩) ∧ ((W.setCell ⟨pb, 0, none⟩ (.string ⟨n0.toArray⟩)).setCell ⟨pb, 2, none⟩ (.string ⟨v0.toArray⟩)).cell? ⟨pb, 0, none⟩ = some (.string ⟨n0.toArray⟩) ∧ ((W.setCell ⟨pb, 0, none⟩ (.string ⟨n0.toArray⟩)).setCell ⟨pb, 2, none⟩ (.string ⟨v0.toArray⟩)).cell? ⟨pb, 2, none⟩ = some (.string ⟨v0.toArray⟩)) := fun W hb => by
          have hx := (hb.block pb (lt_of_block x1)).trans x1
          unfold boxM at hx
          have hx2 := heap_set_at hx (b := pb) (o := 0) (.string ⟨n0.toArray⟩)
          have hx3 := heap_set_at hx2 (b := pb) (o := 2) (.string ⟨v0.toArray⟩)
          exact ⟨by rw [cell_of hx]; rfl, by rw [cell_of hx]; rfl, frozen_of hx 0, frozen_of hx 2, frozen_of hx2 2, by rw [cell_of hx2]; rfl, by rw [cell_of hx2]; rfl, by rw [cell_of hx3]; rfl, by rw [cell_of hx3]; rfl⟩
        have hcn := hid (hcl.out n0 hn4)
        have hcv := hid (hcl.out v0 hv4)
        have B := hid (Below.refl w1.heap.size w1)
        obtain ⟨g0, g1, g2, g3, g4, g5, g6, g7, g8⟩ := hU.out w1 B.out
        clear x1 r1 hn0 hv0 ho0 hn4 hv4 hcl hno ht1 op hs1 ht3 hfin r1' r3 x3 hst r4 x4 hst3
        go_region_held3 (fun w' => w'.cell? ⟨pb, 0, none⟩ = some (.string ⟨n0.toArray⟩) ∧ w'.cell? ⟨pb, 2, none⟩ = some (.string ⟨v0.toArray⟩)) (go_keep) (first | (go_at_call 54; refine (hcn.out w1.drew).mono ?_; rintro e w4 ⟨rfl, b4⟩; have B4 := hid (low' (below_drewN (n := 1) B.out) b4); obtain ⟨j0, j1, j2, j3, j4, j5, j6, j7, j8⟩ := hU.out w4 B4.out; clear b4) | (go_at_call 54; refine (hcv.out _).mono ?_; rintro e w5 ⟨rfl, b5⟩; have B5 := hid (low' B4.out b5); obtain ⟨k0, k1, k2, k3, k4, k5, k6, k7, k8⟩ := hU.out w5 B5.out; clear b5))
        go_wp2
        go_ret
        exact FIN.out _ B5.out
      · obtain ⟨p, hyes, hpn⟩ := matT_yes e1 e2 e3
        replace hyes := hid hyes
        replace hpn := hid hpn
        simp only [e3, rst_true, if_true] at ht3
        unfold ptr str at *
        go_enter Tryz.func113, Tryz.ntmps113
        go_wp2_with fail
        refine wp_region_any (by kernel_rfl) ?_; try (change wpAny _ _ _ _ _ _ _ (World.drew _))
        refine wpAny_take (i := 0) (v := ?v40) (by simp only [List.getElem?_toArray, List.getElem?_cons_zero]; rfl) (by kernel_rfl) (by kernel_rfl) (by kernel_rfl) (by exact fun _ _ _ h => h) (Or.inl ⟨by kernel_rfl, ?hy40⟩) ?rest40; (case hy40 => (intro w; go_simp) <;> with_reducible rfl); go_frame; refine wpAny_take (i := 1) (v := ?v41) (by simp only [List.getElem?_toArray, List.getElem?_cons_succ, List.getElem?_cons_zero]; rfl) (by kernel_rfl) (by kernel_rfl) (by kernel_rfl) (by exact fun _ _ _ h => h) (Or.inl ⟨by kernel_rfl, ?hy41⟩) ?rest41; (case hy41 => (intro w; go_simp) <;> with_reducible rfl); go_frame; refine wpAny_take (i := 2) (v := ?v42) (by simp only [List.getElem?_toArray, List.getElem?_cons_succ, List.getElem?_cons_zero]; rfl) (by kernel_rfl) (by kernel_rfl) (by kernel_rfl) (by exact fun _ _ _ h => h) (Or.inl ⟨by kernel_rfl, ?hy42⟩) ?rest42; (case hy42 => (intro w; go_simp) <;> with_reducible rfl); go_frame; refine wpAny_take (i := 3) (v := ?v43) (by simp only [List.getElem?_toArray, List.getElem?_cons_succ, List.getElem?_cons_zero]; rfl) (by kernel_rfl) (by kernel_rfl) (by kernel_rfl) (by exact fun _ _ _ h => h) (Or.inl ⟨by kernel_rfl, ?hy43⟩) ?rest43; (case hy43 => (intro w; go_simp) <;> with_reducible rfl); go_frame
        refine wpAny_ready (rs := [4]) (by kernel_rfl) (by simp) ?_; refine AllReady.cons rfl (fun K hK => ?_) AllReady.nil; go_simp
        refine ht1.out.mono ?_
        rintro e w1 ⟨rfl, r1', x1⟩
        replace r1' := hid r1'
        replace x1 : Hid (w1.heap[pb]? = some (boxM (headT ts) 0 [])) := hid x1
        go_wp2
        refine wpAny_take (i := 5) (v := ?v44) (by simp only [List.getElem?_toArray, List.getElem?_cons_succ, List.getElem?_cons_zero]; rfl) (by kernel_rfl) (by kernel_rfl) (by kernel_rfl) (by exact fun _ _ _ h => h) (Or.inl ⟨by kernel_rfl, ?hy44⟩) ?rest44; (case hy44 => (intro w; go_simp) <;> with_reducible rfl); go_frame; refine wpAny_take (i := 6) (v := ?v45) (by simp only [List.getElem?_toArray, List.getElem?_cons_succ, List.getElem?_cons_zero]; rfl) (by kernel_rfl) (by kernel_rfl) (by kernel_rfl) (by exact fun _ _ _ h => h) (Or.inl ⟨by kernel_rfl, ?hy45⟩) ?rest45; (case hy45 => (intro w; go_simp) <;> with_reducible rfl); go_frame; refine wpAny_take (i := 8) (v := ?v46) (by simp only [List.getElem?_toArray, List.getElem?_cons_succ, List.getElem?_cons_zero]; rfl) (by kernel_rfl) (by kernel_rfl) (by kernel_rfl) (by exact fun _ _ _ h => h) (Or.inl ⟨by kernel_rfl, ?hy46⟩) ?rest46; (case hy46 => (intro w; go_simp) <;> with_reducible rfl); go_frame; refine wpAny_take (i := 9) (v := ?v47) (by simp only [List.getElem?_toArray, List.getElem?_cons_succ, List.getElem?_cons_zero]; rfl) (by kernel_rfl) (by kernel_rfl) (by kernel_rfl) (by exact fun _ _ _ h => h) (Or.inl ⟨by kernel_rfl, ?hy47⟩) ?rest47; (case hy47 => (intro w; go_simp) <;> with_reducible rfl); go_frame; refine wpAny_take (i := 10) (v := ?v48) (by simp only [List.getElem?_toArray, List.getElem?_cons_succ, List.getElem?_cons_zero]; rfl) (by kernel_rfl) (by kernel_rfl) (by kernel_rfl) (by exact fun _ _ _ h => h) (Or.inl ⟨by kernel_rfl, ?hy48⟩) ?rest48; (case hy48 => (intro w; go_simp) <;> with_reducible rfl); go_frame
        refine wpAny_ready (rs := [7]) (by kernel_rfl) (by simp) ?_; refine AllReady.cons rfl (fun K hK => ?_) AllReady.nil; go_simp
        refine (op.out _).mono ?_
        rintro e w2 ⟨bm, rfl, hbm, hm, b2⟩
        have hst := hid (hs1.out w1 r1'.out x1.out w2 bm hbm hm b2)
        clear hbm hm b2
        go_wp2
        refine wpAny_ready (rs := [11]) (by kernel_rfl) (by simp) ?_; refine AllReady.cons rfl (fun K hK => ?_) AllReady.nil; go_simp
        refine hst.out.mono ?_
        rintro e w3 ⟨he, r3, x3⟩
        rw [e2p] at he
        subst he
        replace r3 := hid r3
        replace x3 := hid x3
        have hst3 := hid (ht3.out w3 _ r3.out x3.out)
        go_wp2
        refine wpAny_take (i := 12) (v := ?v49) (by simp only [List.getElem?_toArray, List.getElem?_cons_succ, List.getElem?_cons_zero]; rfl) (by kernel_rfl) (by kernel_rfl) (by kernel_rfl) (by exact fun _ _ _ h => h) (Or.inl ⟨by kernel_rfl, ?hy49⟩) ?rest49; (case hy49 => (intro w; go_simp) <;> with_reducible rfl); go_frame; refine wpAny_take (i := 13) (v := ?v50) (by simp only [List.getElem?_toArray, List.getElem?_cons_succ, List.getElem?_cons_zero]; rfl) (by kernel_rfl) (by kernel_rfl) (by kernel_rfl) (by exact fun _ _ _ h => h) (Or.inl ⟨by kernel_rfl, ?hy50⟩) ?rest50; (case hy50 => (intro w; go_simp) <;> with_reducible rfl); go_frame; refine wpAny_take (i := 14) (v := ?v51) (by simp only [List.getElem?_toArray, List.getElem?_cons_succ, List.getElem?_cons_zero]; rfl) (by kernel_rfl) (by kernel_rfl) (by kernel_rfl) (by exact fun _ _ _ h => h) (Or.inl ⟨by kernel_rfl, ?hy51⟩) ?rest51; (case hy51 => (intro w; go_simp) <;> with_reducible rfl); go_frame; refine wpAny_take (i := 15) (v := ?v52) (by simp only [List.getElem?_toArray, List.getElem?_cons_succ, List.getElem?_cons_zero]; rfl) (by kernel_rfl) (by kernel_rfl) (by kernel_rfl) (by exact fun _ _ _ h => h) (Or.inl ⟨by kernel_rfl, ?hy52⟩) ?rest52; (case hy52 => (intro w; go_simp) <;> with_reducible rfl); go_frame; refine wpAny_take (i := 16) (v := ?v53) (by simp only [List.getElem?_toArray, List.getElem?_cons_succ, List.getElem?_cons_zero]; rfl) (by kernel_rfl) (by kernel_rfl) (by kernel_rfl) (by exact fun _ _ _ h => h) (Or.inl ⟨by kernel_rfl, ?hy53⟩) ?rest53; (case hy53 => (intro w; go_simp) <;> with_reducible rfl); go_frame; refine wpAny_take (i := 17) (v := ?v54) (by simp only [List.getElem?_toArray, List.getElem?_cons_succ, List.getElem?_cons_zero]; rfl) (by kernel_rfl) (by kernel_rfl) (by kernel_rfl) (by exact fun _ _ _ h => h) (Or.inl ⟨by kernel_rfl, ?hy54⟩) ?rest54; (case hy54 => (intro w; go_simp) <;> with_reducible rfl); go_frame
        refine wpAny_ready (rs := [18]) (by kernel_rfl) (by simp) ?_; refine AllReady.cons rfl (fun K hK => ?_) AllReady.nil; go_simp
        refine hst3.out.mono ?_
        rintro e w4 ⟨rfl, r4, x4⟩
        replace r4 := hid r4
        replace x4 := hid x4
        go_wp2
        refine wpAny_take (i := 19) (v := ?v55) (by simp only [List.getElem?_toArray, List.getElem?_cons_succ, List.getElem?_cons_zero]; rfl) (by kernel_rfl) (by kernel_rfl) (by kernel_rfl) (by exact fun _ _ _ h => h) (Or.inl ⟨by kernel_rfl, ?hy55⟩) ?rest55; (case hy55 => (intro w; go_simp) <;> with_reducible rfl); go_frame; refine wpAny_take (i := 20) (v := ?v56) (by simp only [List.getElem?_toArray, List.getElem?_cons_succ, List.getElem?_cons_zero]; rfl) (by kernel_rfl) (by kernel_rfl) (by kernel_rfl) (by exact fun _ _ _ h => h) (Or.inl ⟨by kernel_rfl, ?hy56⟩) ?rest56; (case hy56 => (intro w; go_simp) <;> with_reducible rfl); go_frame
        refine wpAny_done (by kernel_rfl) ?_ _
        go_wp2
        obtain ⟨w1, rfl⟩ : ∃ W, W = w4 := ⟨_, rfl⟩
        have r1 := r4.out
        replace x1 := x4.out
        obtain ⟨n0, hn0⟩ : ∃ x, x = ((headT ts) : Tx) := ⟨_, rfl⟩
        obtain ⟨v0, hv0⟩ : ∃ x, x = ((headT ts.tail.tail) : Tx) := ⟨_, rfl⟩
        obtain ⟨o0, ho0⟩ : ∃ x, x = (((findR opMap (headT ts.tail)).getD 0) : Nat) := ⟨_, rfl⟩
        replace x1 : w1.heap[pb]? = some (boxM n0 o0 v0) := by rw [hn0, hv0, ho0]; exact x1
        have hn4 : n0.length ≤ 4096 := by rw [hn0]; exact head_len hsm0.out
        have hv4 : v0.length ≤ 4096 := by rw [hv0]; exact head_len hsm2.out
        have FIN : Hid (∀ W2, Below w1.heap.size w1 W2 → MatPost F G w0 w b pb ts ns fl (.returned (.bool true)) ((W2.setCell ⟨pb, 0, none⟩ (.string ⟨n0.toArray⟩)).setCell ⟨pb, 2, none⟩ (.string ⟨v0.toArray⟩))) := fun W2 hb => matcher_end (n := n0) (v := v0) (o := o0) r1 hp hpw hg hl x1 hb true (fun e => by cases e) (fun _ => ⟨p, by rw [hn0, hv0]; exact hyes.out, by rw [ho0, hpn.out]; rfl⟩)
        have hU : Hid (∀ W, Below w1.heap.size w1 W → W.cell? ⟨pb, 0, none⟩ = some (.string ⟨n0.toArray⟩) ∧ W.cell? ⟨pb, 2, none⟩ = some (.string ⟨v0.toArray⟩) ∧ W.frozen? ⟨pb, 0, none⟩ = false ∧ W.frozen? ⟨pb, 2, none⟩ = false ∧ (W.setCell ⟨pb, 0, none⟩ (.string ⟨n0.toArray⟩)).frozen? ⟨pb, 2, none⟩ = false ∧ (W.setCell ⟨pb, 0, none⟩ (.string ⟨n0.toArray⟩)).cell? ⟨pb, 2, none⟩ = some (.string ⟨v0.toArray⟩) ∧ (W.setCell ⟨pb, 0, none⟩ (.string ⟨n0.toArray⟩)).cell? ⟨pb, 0, none⟩ = some (.string ⟨n0.toArray⟩) ∧ ((W.setCell ⟨pb, 0, none⟩ (.string ⟨n0.toArray⟩)).setCell ⟨pb, 2, none⟩ (.string ⟨v0.toArray⟩)).cell? ⟨pb, 0, none⟩ = some (.string ⟨n0.toArray⟩) ∧ ((W.setCell ⟨pb, 0, none⟩ (.string ⟨n0.toArray⟩)).setCell ⟨pb, 2, none⟩ (.string ⟨v0.toArray⟩)).cell? ⟨pb, 2, none⟩ = some (.string ⟨v0.toArray⟩)) := fun W hb => by
          have hx := (hb.block pb (lt_of_block x1)).trans x1
          unfold boxM at hx
          have hx2 := heap_set_at hx (b := pb) (o := 0) (.string ⟨n0.toArray⟩)
          have hx3 := heap_set_at hx2 (b := pb) (o := 2) (.string ⟨v0.toArray⟩)
          exact ⟨by rw [cell_of hx]; rfl, by rw [cell_of hx]; rfl, frozen_of hx 0, frozen_of hx 2, frozen_of hx2 2, by rw [cell_of hx2]; rfl, by rw [cell_of hx2]; rfl, by rw [cell_of hx3]; rfl, by rw [cell_of hx3]; rfl⟩
        have hcn := hid (hcl.out n0 hn4)
        have hcv := hid (hcl.out v0 hv4)
        have B := hid (Below.refl w1.heap.size w1)
        obtain ⟨g0, g1, g2, g3, g4, g5, g6, g7, g8⟩ := hU.out w1 B.out
        clear x1 r1 hn0 hv0 ho0 hn4 hv4 hcl hyes hpn ht1 op hs1 ht3 hfin r1' r3 x3 hst r4 x4 hst3
        go_region_held3 (fun w' => w'.cell? ⟨pb, 0, none⟩ = some (.string ⟨n0.toArray⟩) ∧ w'.cell? ⟨pb, 2, none⟩ = some (.string ⟨v0.toArray⟩)) (go_keep) (first | (go_at_call 54; refine (hcn.out w1.drew).mono ?_; rintro e w4 ⟨rfl, b4⟩; have B4 := hid (low' (below_drewN (n := 1) B.out) b4); obtain ⟨j0, j1, j2, j3, j4, j5, j6, j7, j8⟩ := hU.out w4 B4.out; clear b4) | (go_at_call 54; refine (hcv.out _).mono ?_; rintro e w5 ⟨rfl, b5⟩; have B5 := hid (low' B4.out b5); obtain ⟨k0, k1, k2, k3, k4, k5, k6, k7, k8⟩ := hU.out w5 B5.out; clear b5))
        go_wp2
        go_ret
        exact FIN.out _ B5.out
end Go.Proofs.YtjhodmpgggaknaaGreatDoor
