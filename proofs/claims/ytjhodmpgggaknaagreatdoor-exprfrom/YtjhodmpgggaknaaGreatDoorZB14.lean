/- Rows of conditions: what their calls share; one. -/
import Derived.Test.YtjhodmpgggaknaaGreatDoorZGM
namespace Go.Proofs.YtjhodmpgggaknaaGreatDoor
open Go.RowKit Go.Shelf Go.Maps

def rowv (rb wb : Nat) : Value := .func (.func 41) #[] #[.pointer (some ⟨rb, 0, none⟩), .pointer (some ⟨wb, 0, none⟩)]
/-- the closure's two boxes. -/
structure RowEnv (F : Nat → Prop) (w : World) (b rb wb : Nat) : Prop where
  c1 : w.cell? ⟨rb, 0, none⟩ = some (ptr b)
  c2 : w.cell? ⟨wb, 0, none⟩ = some (rowv rb wb)
  n1 : ¬ F rb
  n2 : ¬ F wb
def Ch (F F1 : Nat → Prop) (w0 w w1 : World) (b : Nat) : Prop := ∀ (w2 : World) (ts' : List Tk) (ns' : List Nd) (fl' : Bool), RdTo F1 no w0 w1 w2 b ts' ns' fl' → RdTo F no w0 w w2 b ts' ns' fl'
theorem Ch.refl (F : Nat → Prop) (w0 w : World) (b : Nat) : Ch F F w0 w w b := fun _ _ _ _ h => h
theorem Ch.trans {F F1 F2 : Nat → Prop} {w0 w w1 w2 : World} {b : Nat} (h : Ch F F1 w0 w w1 b) (k : Ch F1 F2 w0 w1 w2 b) : Ch F F2 w0 w w2 b := fun _ _ _ _ x => h _ _ _ _ (k _ _ _ _ x)
/-- what stands between two calls. -/
structure RowI (F F1 : Nat → Prop) (w0 w w1 : World) (b rb wb : Nat) (ts : List Tk) (ns : List Nd) (fl : Bool) : Prop where
  rd : RdAt F1 w0 w1 b ts ns fl
  env : RowEnv F1 w1 b rb wb
  ch : Ch F F1 w0 w w1 b
theorem RowI.to {F F1 : Nat → Prop} {w0 w w1 : World} {b rb wb : Nat} {ts : List Tk} {ns : List Nd} {fl : Bool} (h : RowI F F1 w0 w w1 b rb wb ts ns fl) : RdTo F no w0 w w1 b ts ns fl := h.ch _ _ _ _ (h.rd.to no)
theorem RowI.start {F : Nat → Prop} {w0 w : World} {b rb wb : Nat} {ts : List Tk} {ns : List Nd} {fl : Bool} (h : RdAt F w0 w b ts ns fl) (he : RowEnv F w b rb wb) : RowI F F w0 w w b rb wb ts ns fl := ⟨h, he, Ch.refl _ _ _ _⟩
theorem RowI.call {F F1 : Nat → Prop} {w0 w w1 w2 : World} {b rb wb : Nat} {ts ts2 : List Tk} {ns ns2 : List Nd} {fl fl2 : Bool} (h : RowI F F1 w0 w w1 b rb wb ts ns fl) (hr : RdTo F1 no w0 w1 w2 b ts2 ns2 fl2) : ∃ F2, RowI F F2 w0 w w2 b rb wb ts2 ns2 fl2 := by
  obtain ⟨F2, r2, k2, i2, f2⟩ := hr
  have hlt1 := World.block_lt_of_cell? w1 _ h.env.c1
  have hlt2 := World.block_lt_of_cell? w1 _ h.env.c2
  have hn : ∀ k, k < w1.heap.size → ¬ F1 k → ¬ F2 k := fun k hk hf h2 => by
    rcases f2 k h2 with e | e
    · exact hf e
    · omega
  have hb : ∀ k, k < w1.heap.size → ¬ F1 k → w2.heap[k]? = w1.heap[k]? := fun k hk hf => k2.block k hk (by rintro (e | e); exact hf e; exact e)
  exact ⟨F2, r2, ⟨(cell_block (hb rb hlt1 h.env.n1)).trans h.env.c1, (cell_block (hb wb hlt2 h.env.n2)).trans h.env.c2, hn rb hlt1 h.env.n1, hn wb hlt2 h.env.n2⟩, h.ch.trans fun _ _ _ _ x => x.comp k2 i2 f2⟩
/-- put one node more. -/
theorem RowI.add {F F1 : Nat → Prop} {w0 w w1 w2 : World} {b rb wb : Nat} {ts ts2 : List Tk} {ns ns2 : List Nd} {fl fl2 : Bool} (h : RowI F F1 w0 w w1 b rb wb ts ns fl) (hr : RdAdd F1 no w0 w1 w2 b ts2 ns2 fl2) : ∃ F2, RowI F F2 w0 w w2 b rb wb ts2 ns2 fl2 := by
  obtain ⟨F2, r2, k2, i2, f2⟩ := hr
  exact h.call ⟨F2, r2, k2.mono fun _ _ hk => .inl hk, i2, fun k hk => show F1 k ∨ w1.heap.size ≤ k by
    rcases f2 k hk with e | e | e
    · exact .inl e
    · exact e.elim
    · exact .inr e⟩
def RowPost (v : Lev) (F : Nat → Prop) (w0 w : World) (b : Nat) (ts : List Tk) (ns : List Nd) (fl : Bool) (e : Ending) (w' : World) : Prop :=
  ∃ ts' root ok, e = .returned (.tuple #[.int .i64 root, .bool ok]) ∧ (ok = false → (∃ ns' fl', RdTo F no w0 w w' b ts' ns' fl') ∧ pE v (keysT ts) = none) ∧ (ok = true → ∃ t, pE v (keysT ts) = some (t, keysT ts') ∧ Suf ts' ts ∧ RdTo F no w0 w w' b ts' (addT (ns, fl, 0) t).1 (addT (ns, fl, 0) t).2.1 ∧ root = (addT (ns, fl, 0) t).2.2)
theorem one_else {ts : List Tk} (h1 : hd kNot ts = false) (h2 : hd kOpen ts = false) : pE .one (keysT ts) = (cmpP (keysT ts)).map (fun p => (.leaf p.1, p.2)) := by
  cases hk : keysT ts with
  | nil => rfl
  | cons x r => exact pE_cmp (fun e => hd_not h1 r (by rw [hk, e])) (fun e => hd_not h2 r (by rw [hk, e]))
set_option maxRecDepth 100000 in
set_option maxHeartbeats 4000000 in
theorem one_any {F : Nat → Prop} {w0 w : World} {b rb wb : Nat} {ts : List Tk} {ns : List Nd} {fl : Bool} (h : RdAt F w0 w b ts ns fl) (he : RowEnv F w b rb wb) (hE : EnvE w0) (hsm : ∀ t ∈ ts, t.text.length ≤ 4096)
    (IH : ∀ {F1 : Nat → Prop} {w1 : World} {ts1 : List Tk}, ts1.length < ts.length → Suf ts1 ts → RdAt F1 w0 w1 b ts1 ns fl → RowEnv F1 w1 b rb wb → Calls Tryz.prog 41 #[.int .i64 0, .pointer (some ⟨rb, 0, none⟩), .pointer (some ⟨wb, 0, none⟩)] w1 (RowPost .or F1 w0 w1 b ts1 ns fl)) :
    Calls Tryz.prog 42 #[ptr b, rowv rb wb] w (RowPost .one F w0 w b ts ns fl) := by
  have hI := hid (RowI.start h he)
  have hlen := hid h.len
  have hcap : Hid (ts.length ≤ 9223372036854775807) := by
    obtain ⟨vr, vn, z, h1, h2, _⟩ := h.cell
    obtain ⟨a, c, rfl⟩ := h2.slice
    obtain ⟨_, h4, h5⟩ := h2.bound
    exact Nat.le_trans h4 h5
  have hih := hid (fun (F1 : Nat → Prop) (w1 : World) (ts1 : List Tk) a1 a2 a3 a4 => IH (F1 := F1) (w1 := w1) (ts1 := ts1) a1 a2 a3 a4)
  replace hE := hid hE
  replace hsm := hid hsm
  clear h he IH
  unfold ptr
  go_enter Tryz.func42, Tryz.ntmps42
  go_wp2_with fail
  go_loopw [6] (fun n wr => ∃ F1 ts1 k, n = .int .i64 ((k : Nat) : Int) ∧ RowI F F1 w0 w wr b rb wb ts1 ns fl ∧ Suf ts1 ts ∧ k + ts1.length = ts.length ∧ pE .one (keysT ts) = (pE .one (keysT ts1)).map (fun p => (negs k p.1, p.2))) (fun _ wr => restLen wr b)
  case atStart => exact ⟨F, ts, 0, rfl, hI.out, Suf.refl _, by omega, by cases pE .one (keysT ts) <;> rfl⟩
  case round =>
    obtain ⟨F1, ts1, k, rfl, hJ, hsuf, hk, hpe⟩ := hrel
    clear hI
    replace hsuf := hid hsuf
    replace hpe := hid hpe
    have hmeas := hid hJ.rd.restLen
    have htk : Hid (Calls Tryz.prog 43 #[.pointer (some ⟨b, 0, none⟩), .int .u8 1, .string ⟨#[110, 111, 116]⟩] wr fun e w' => e = .returned (.bool (hd kNot ts1)) ∧ RdTo F1 no w0 wr w' b (rst (hd kNot ts1) ts1) ns fl) := takes_any no hJ.rd 1 [110, 111, 116]
    replace hJ := hid hJ
    cases e1 : hd kNot ts1
    · rw [e1] at htk
      have hkc : (k : Int) ≤ 9223372036854775807 := by have := hcap.out; omega
      have hno := hid (one_else e1)
      go_wp2_with fail
      refine htk.out.mono ?_
      rintro e w1 ⟨rfl, r1⟩
      obtain ⟨F2, hK⟩ := hJ.out.call (ts2 := ts1) r1
      replace hK := hid hK
      clear hJ htk r1 hmeas
      have htk : Hid (Calls Tryz.prog 43 #[.pointer (some ⟨b, 0, none⟩), .int .u8 4, .string ⟨#[40]⟩] w1 fun e w' => e = .returned (.bool (hd kOpen ts1)) ∧ RdTo F2 no w0 w1 w' b (rst (hd kOpen ts1) ts1) ns fl) := takes_any no hK.out.rd 4 [40]
      cases e2 : hd kOpen ts1
      · rw [e2] at htk
        replace hno := hid (hno.out e2)
        go_wp2_with fail
        refine htk.out.mono ?_
        rintro e w2 ⟨rfl, r2⟩
        obtain ⟨F3, hI3⟩ := hK.out.call (ts2 := ts1) r2
        replace hK := hid hI3
        clear hI3 htk r2
        have hcm := hid (comparison_any hK.out.rd hE.out (hsuf.out.all (p := fun t => t.text.length ≤ 4096) hsm.out))
        unfold ptr at hcm
        go_wp2_with fail
        refine hcm.out.mono ?_
        rintro e w3 ⟨ts3, ⟨rfl, r3, hc⟩ | ⟨c, rfl, hc, hs3, r3⟩⟩
        · obtain ⟨F4, hL⟩ := hK.out.call r3
          replace hL := hid hL
          have hP : Hid (pE .one (keysT ts) = none) := by show _ = _; rw [hpe.out, hno.out, hc]; rfl
          clear hK r3 hc hcm hno hpe hih
          go_wp2_with fail
          go_loopw [29, 4] (fun i r wr => ∃ j F4 ns4 fl4 root4, i = .int .i64 ((j : Nat) : Int) ∧ r = .int .i64 root4 ∧ j ≤ k ∧ RowI F F4 w0 w wr b rb wb (ts3) ns4 fl4 ∧ True) (fun i _ _ => k - (intOf i).toNat)
          case atStart => exact ⟨0, _, _, _, _, rfl, rfl, by omega, hL.out, trivial⟩
          case round =>
            obtain ⟨j, F4, ns4, fl4, root4, rfl, rfl, hj, hM, hrel4⟩ := hrel
            clear hL
            by_cases hjk : (j : Int) < (k : Int)
            · have had := hid (add_any (S := no) hM.rd (negNd root4) (.slice none 0 0) (Mat.ownM_nil _ _) (fun k h => by cases h))
              unfold ptr ndAgg at had
              replace hM := hid hM
              go_wp2_with fail
              refine had.out.mono ?_
              rintro e w5 ⟨rfl, r5⟩
              obtain ⟨F5, hN⟩ := hM.out.add r5
              replace hN := hid hN
              clear r5 had hM
              go_wp2
              exact ⟨⟨j + 1, F5, _, _, _, by simp, rfl, by omega, hN.out, trivial⟩, by simp [intOf]; omega⟩
            · obtain rfl : j = k := by omega
              replace hM := hid hM
              go_wp2
              go_ret2
              exact ⟨_, _, false, rfl, (fun _ => ⟨⟨_, _, hM.out.to⟩, hP.out⟩), fun e => by cases e⟩
        · obtain ⟨F4, hL⟩ := hK.out.call r3
          replace hL := hid hL
          obtain ⟨t, ht⟩ : ∃ t, t = Tree.leaf c := ⟨_, rfl⟩
          have hP : Hid (pE .one (keysT ts) = some (negs k t, keysT ts3)) := by show _ = _; rw [hpe.out, hno.out, hc, ht]; rfl
          have hS : Hid ((addN ns (cmpNd c), addF ns fl, addR ns) = addT (ns, fl, 0) t) := by show _ = _; rw [ht]; rfl
          have hsufE := hid (hs3.trans hsuf.out)
          clear hK r3 hc hcm hno hpe hih ht hs3
          go_wp2_with fail
          go_loopw [29, 4] (fun i r wr => ∃ j F4 ns4 fl4 root4, i = .int .i64 ((j : Nat) : Int) ∧ r = .int .i64 root4 ∧ j ≤ k ∧ RowI F F4 w0 w wr b rb wb (ts3) ns4 fl4 ∧ (ns4, fl4, root4) = addT (ns, fl, 0) (negs j t)) (fun i _ _ => k - (intOf i).toNat)
          case atStart => exact ⟨0, _, _, _, _, rfl, rfl, by omega, hL.out, by rw [negs]; exact hS.out⟩
          case round =>
            obtain ⟨j, F4, ns4, fl4, root4, rfl, rfl, hj, hM, hrel4⟩ := hrel
            clear hL
            by_cases hjk : (j : Int) < (k : Int)
            · have had := hid (add_any (S := no) hM.rd (negNd root4) (.slice none 0 0) (Mat.ownM_nil _ _) (fun k h => by cases h))
              unfold ptr ndAgg at had
              replace hM := hid hM
              go_wp2_with fail
              refine had.out.mono ?_
              rintro e w5 ⟨rfl, r5⟩
              obtain ⟨F5, hN⟩ := hM.out.add r5
              replace hN := hid hN
              clear r5 had hM
              go_wp2
              exact ⟨⟨j + 1, F5, _, _, _, by simp, rfl, by omega, hN.out, by rw [negs, addT, ← hrel4]; rfl⟩, by simp [intOf]; omega⟩
            · obtain rfl : j = k := by omega
              replace hM := hid hM
              go_wp2
              go_ret2
              exact ⟨_, _, true, rfl, (fun e => by cases e), fun _ => ⟨negs _ t, hP.out, hsufE.out, by rw [← hrel4]; exact hM.out.to, by rw [← hrel4]⟩⟩
      · rw [e2] at htk
        have hop := hid (hd_keys e2)
        have hl : ts1.tail.length + 1 = ts1.length := by
          cases ts1 with
          | nil => cases e2
          | cons t l => rfl
        go_wp2_with fail
        refine htk.out.mono ?_
        rintro e w2 ⟨rfl, r2⟩
        obtain ⟨F3, hI3⟩ := hK.out.call (ts2 := ts1.tail) r2
        replace hK := hid hI3
        clear hI3 htk r2 hno
        have hro := hid (hih.out F3 w2 ts1.tail (by omega) ((Suf.tail _).trans hsuf.out) hK.out.rd hK.out.env)
        unfold rowv
        go_wp2_with fail
        refine hro.out.mono ?_
        rintro e w3 ⟨ts3, root, ok, rfl, hbad, hgood⟩
        cases ok
        · obtain ⟨⟨ns3, fl3, r3⟩, hc⟩ := hbad rfl
          obtain ⟨F4, hL⟩ := hK.out.call r3
          replace hL := hid hL
          have hP : Hid (pE .one (keysT ts) = none) := by show _ = _; rw [hpe.out, hop.out, pE_open, hc]; rfl
          clear hK r3 hc hro hpe hih hbad hgood hop
          go_wp2_with fail
          go_loopw [29, 4] (fun i r wr => ∃ j F4 ns4 fl4 root4, i = .int .i64 ((j : Nat) : Int) ∧ r = .int .i64 root4 ∧ j ≤ k ∧ RowI F F4 w0 w wr b rb wb (ts3) ns4 fl4 ∧ True) (fun i _ _ => k - (intOf i).toNat)
          case atStart => exact ⟨0, _, _, _, _, rfl, rfl, by omega, hL.out, trivial⟩
          case round =>
            obtain ⟨j, F4, ns4, fl4, root4, rfl, rfl, hj, hM, hrel4⟩ := hrel
            clear hL
            by_cases hjk : (j : Int) < (k : Int)
            · have had := hid (add_any (S := no) hM.rd (negNd root4) (.slice none 0 0) (Mat.ownM_nil _ _) (fun k h => by cases h))
              unfold ptr ndAgg at had
              replace hM := hid hM
              go_wp2_with fail
              refine had.out.mono ?_
              rintro e w5 ⟨rfl, r5⟩
              obtain ⟨F5, hN⟩ := hM.out.add r5
              replace hN := hid hN
              clear r5 had hM
              go_wp2
              exact ⟨⟨j + 1, F5, _, _, _, by simp, rfl, by omega, hN.out, trivial⟩, by simp [intOf]; omega⟩
            · obtain rfl : j = k := by omega
              replace hM := hid hM
              go_wp2
              go_ret2
              exact ⟨_, _, false, rfl, (fun _ => ⟨⟨_, _, hM.out.to⟩, hP.out⟩), fun e => by cases e⟩
        · obtain ⟨t, hc, hs3, r3, hr3⟩ := hgood rfl
          obtain ⟨F4, hL0⟩ := hK.out.call r3
          replace hL0 := hid hL0
          replace hc := hid hc
          have hS0 : Hid (((addT (ns, fl, 0) t).1, (addT (ns, fl, 0) t).2.1, root) = addT (ns, fl, 0) t) := by show _ = _; rw [hr3]
          have hs3' := hid (hs3.trans ((Suf.tail _).trans hsuf.out))
          clear hK r3 hro hih hbad hgood hr3 hs3
          generalize (addT (ns, fl, 0) t).1 = ns3 at *
          generalize (addT (ns, fl, 0) t).2.1 = fl3 at *
          have htk : Hid (Calls Tryz.prog 43 #[.pointer (some ⟨b, 0, none⟩), .int .u8 4, .string ⟨#[41]⟩] w3 fun e w' => e = .returned (.bool (hd kEnd ts3)) ∧ RdTo F4 no w0 w3 w' b (rst (hd kEnd ts3) ts3) ns3 fl3) := takes_any no hL0.out.rd 4 [41]
          cases e3 : hd kEnd ts3
          · rw [e3] at htk
            have hP : Hid (pE .one (keysT ts) = none) := by
              show _ = _
              rw [hpe.out, hop.out, pE_open, hc.out]
              cases hk3 : keysT ts3 with
              | nil => rfl
              | cons x r => rw [closeF, if_neg (fun e => hd_not e3 r (by rw [hk3, e]))]; rfl
            go_wp2_with fail
            refine htk.out.mono ?_
            rintro e w4 ⟨rfl, r4⟩
            obtain ⟨F5, hL⟩ := hL0.out.call (ts2 := ts3) r4
            replace hL := hid hL
            clear hL0 htk r4 hpe hop hc hS0 hs3' 
            go_wp2_with fail
            go_loopw [29, 4] (fun i r wr => ∃ j F4 ns4 fl4 root4, i = .int .i64 ((j : Nat) : Int) ∧ r = .int .i64 root4 ∧ j ≤ k ∧ RowI F F4 w0 w wr b rb wb (ts3) ns4 fl4 ∧ True) (fun i _ _ => k - (intOf i).toNat)
            case atStart => exact ⟨0, _, _, _, _, rfl, rfl, by omega, hL.out, trivial⟩
            case round =>
              obtain ⟨j, F4, ns4, fl4, root4, rfl, rfl, hj, hM, hrel4⟩ := hrel
              clear hL
              by_cases hjk : (j : Int) < (k : Int)
              · have had := hid (add_any (S := no) hM.rd (negNd root4) (.slice none 0 0) (Mat.ownM_nil _ _) (fun k h => by cases h))
                unfold ptr ndAgg at had
                replace hM := hid hM
                go_wp2_with fail
                refine had.out.mono ?_
                rintro e w5 ⟨rfl, r5⟩
                obtain ⟨F5, hN⟩ := hM.out.add r5
                replace hN := hid hN
                clear r5 had hM
                go_wp2
                exact ⟨⟨j + 1, F5, _, _, _, by simp, rfl, by omega, hN.out, trivial⟩, by simp [intOf]; omega⟩
              · obtain rfl : j = k := by omega
                replace hM := hid hM
                go_wp2
                go_ret2
                exact ⟨_, _, false, rfl, (fun _ => ⟨⟨_, _, hM.out.to⟩, hP.out⟩), fun e => by cases e⟩
          · rw [e3] at htk
            have hP : Hid (pE .one (keysT ts) = some (negs k t, keysT ts3.tail)) := by
              show _ = _
              rw [hpe.out, hop.out, pE_open, hc.out, hd_keys e3, closeF, if_pos rfl]
              rfl
            go_wp2_with fail
            refine htk.out.mono ?_
            rintro e w4 ⟨rfl, r4⟩
            obtain ⟨F5, hL⟩ := hL0.out.call (ts2 := ts3.tail) r4
            replace hL := hid hL
            have hS := hS0
            have hsufE := hid ((Suf.tail _).trans hs3'.out)
            clear hL0 htk r4 hpe hop hc hS0 hs3' 
            go_wp2_with fail
            go_loopw [29, 4] (fun i r wr => ∃ j F4 ns4 fl4 root4, i = .int .i64 ((j : Nat) : Int) ∧ r = .int .i64 root4 ∧ j ≤ k ∧ RowI F F4 w0 w wr b rb wb (ts3.tail) ns4 fl4 ∧ (ns4, fl4, root4) = addT (ns, fl, 0) (negs j t)) (fun i _ _ => k - (intOf i).toNat)
            case atStart => exact ⟨0, _, _, _, _, rfl, rfl, by omega, hL.out, by rw [negs]; exact hS.out⟩
            case round =>
              obtain ⟨j, F4, ns4, fl4, root4, rfl, rfl, hj, hM, hrel4⟩ := hrel
              clear hL
              by_cases hjk : (j : Int) < (k : Int)
              · have had := hid (add_any (S := no) hM.rd (negNd root4) (.slice none 0 0) (Mat.ownM_nil _ _) (fun k h => by cases h))
                unfold ptr ndAgg at had
                replace hM := hid hM
                go_wp2_with fail
                refine had.out.mono ?_
                rintro e w5 ⟨rfl, r5⟩
                obtain ⟨F5, hN⟩ := hM.out.add r5
                replace hN := hid hN
                clear r5 had hM
                go_wp2
                exact ⟨⟨j + 1, F5, _, _, _, by simp, rfl, by omega, hN.out, by rw [negs, addT, ← hrel4]; rfl⟩, by simp [intOf]; omega⟩
              · obtain rfl : j = k := by omega
                replace hM := hid hM
                go_wp2
                go_ret2
                exact ⟨_, _, true, rfl, (fun e => by cases e), fun _ => ⟨negs _ t, hP.out, hsufE.out, by rw [← hrel4]; exact hM.out.to, by rw [← hrel4]⟩⟩
    · rw [e1] at htk
      have hnext := hid (hd_keys e1)
      go_wp2_with fail
      refine htk.out.mono ?_
      rintro e w1 ⟨rfl, r1⟩
      obtain ⟨F2, hK⟩ := hJ.out.call (ts2 := ts1.tail) r1
      replace hK := hid hK
      clear hJ htk r1
      have hl : ts1.tail.length + 1 = ts1.length := by
        cases ts1 with
        | nil => cases e1
        | cons t l => rfl
      have hk2 : (k : Int) + 1 ≤ 9223372036854775807 := by have := hcap.out; omega
      go_wp2
      refine ⟨⟨F2, ts1.tail, k + 1, by simp, hK.out, (Suf.tail _).trans hsuf.out, by omega, ?_⟩, by rw [hK.out.rd.restLen, hmeas.out]; omega⟩
      rw [hpe.out, hnext.out, pE_not, Option.map_map]
      refine congrArg (fun f => Option.map f _) (funext fun p => ?_)
      show (negs k (.neg p.1), p.2) = (negs (k + 1) p.1, p.2)
      rw [negs_in]
      rfl
end Go.Proofs.YtjhodmpgggaknaaGreatDoor
