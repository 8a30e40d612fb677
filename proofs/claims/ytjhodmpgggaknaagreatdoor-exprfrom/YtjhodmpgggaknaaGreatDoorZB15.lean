/- Rows of conditions: the closure at its three strengths. -/
import Derived.Test.YtjhodmpgggaknaaGreatDoorZB14
namespace Go.Proofs.YtjhodmpgggaknaaGreatDoor
open Go.RowKit Go.Shelf Go.Maps

set_option maxRecDepth 100000 in
set_option maxHeartbeats 4000000 in
theorem row2_any {F : Nat → Prop} {w0 w : World} {b rb wb : Nat} {ts : List Tk} {ns : List Nd} {fl : Bool} (h : RdAt F w0 w b ts ns fl) (he : RowEnv F w b rb wb) (hE : EnvE w0) (hsm : ∀ t ∈ ts, t.text.length ≤ 4096)
    (IH : ∀ {F1 : Nat → Prop} {w1 : World} {ts1 : List Tk}, ts1.length < ts.length → Suf ts1 ts → RdAt F1 w0 w1 b ts1 ns fl → RowEnv F1 w1 b rb wb → Calls Tryz.prog 41 #[.int .i64 0, .pointer (some ⟨rb, 0, none⟩), .pointer (some ⟨wb, 0, none⟩)] w1 (RowPost .or F1 w0 w1 b ts1 ns fl)) :
    Calls Tryz.prog 41 #[.int .i64 2, .pointer (some ⟨rb, 0, none⟩), .pointer (some ⟨wb, 0, none⟩)] w (RowPost .one F w0 w b ts ns fl) := by
  have ho := hid (one_any h he hE hsm IH)
  have c1 := he.c1
  have c2 := he.c2
  clear h he hE hsm IH
  unfold ptr at *
  go_enter Tryz.func41, Tryz.ntmps41
  go_wp2_with fail
  refine ho.out.mono ?_
  rintro e w1 ⟨ts', root, ok, rfl, h1, h2⟩
  replace h1 := hid h1
  replace h2 := hid h2
  go_wp2
  go_ret2
  exact ⟨_, _, _, rfl, h1.out, h2.out⟩
def okN : Value → Nat
  | .bool true => 1
  | _ => 0
/-- a loop's head in a row. -/
structure RowL (o : Bool) (lev : Lev) (F : Nat → Prop) (w0 w : World) (b rb wb : Nat) (ts : List Tk) (ns : List Nd) (fl : Bool) (root : Int) (ok : Bool) (F1 : Nat → Prop) (ts1 : List Tk) (ns1 : List Nd) (fl1 : Bool) (wr : World) : Prop where
  i : RowI F F1 w0 w wr b rb wb ts1 ns1 fl1
  bad : ok = false → pE lev (keysT ts) = none
  good : ok = true → Suf ts1 ts ∧ ∃ t, pE lev (keysT ts) = pE (.more o t) (keysT ts1) ∧ (ns1, fl1, root) = addT (ns, fl, 0) t
theorem RowL.post {o : Bool} {lev : Lev} {F : Nat → Prop} {w0 w : World} {b rb wb : Nat} {ts : List Tk} {ns : List Nd} {fl : Bool} {root : Int} {F1 : Nat → Prop} {ts1 : List Tk} {ns1 : List Nd} {fl1 : Bool} {wr : World} (h : RowL o lev F w0 w b rb wb ts ns fl root true F1 ts1 ns1 fl1 wr) (hs : hd (opKey o) ts1 = false) {F2 : Nat → Prop} {w2 : World} (h2 : RowI F F2 w0 w w2 b rb wb ts1 ns1 fl1) : RowPost lev F w0 w b ts ns fl (.returned (.tuple #[.int .i64 root, .bool true])) w2 := by
  obtain ⟨hs1, t, h3, h4⟩ := h.good rfl
  refine ⟨ts1, root, true, rfl, (fun e => by cases e), fun _ => ⟨t, ?_, hs1, by rw [← h4]; exact h2.to, by rw [← h4]⟩⟩
  rw [h3]
  cases hk : keysT ts1 with
  | nil => rfl
  | cons x r => exact pE_stop fun e => hd_not hs r (by rw [hk, e])
theorem RowL.fail {o : Bool} {lev : Lev} {F : Nat → Prop} {w0 w : World} {b rb wb : Nat} {ts : List Tk} {ns : List Nd} {fl : Bool} {root : Int} {F1 : Nat → Prop} {ts1 : List Tk} {ns1 : List Nd} {fl1 : Bool} {wr : World} (h : RowL o lev F w0 w b rb wb ts ns fl root false F1 ts1 ns1 fl1 wr) {w2 : World} (hb : Below wr.heap.size wr w2) : RowPost lev F w0 w b ts ns fl (.returned (.tuple #[.int .i64 root, .bool false])) w2 :=
  ⟨ts1, root, false, rfl, fun _ => ⟨⟨_, _, h.i.ch _ _ _ _ (h.i.rd.later no hb)⟩, h.bad rfl⟩, fun e => by cases e⟩
theorem RowI.below {F F1 : Nat → Prop} {w0 w w1 w2 : World} {b rb wb : Nat} {ts : List Tk} {ns : List Nd} {fl : Bool} (h : RowI F F1 w0 w w1 b rb wb ts ns fl) (hb : Below w1.heap.size w1 w2) : ∃ F2, RowI F F2 w0 w w2 b rb wb ts ns fl := h.call (h.rd.later no hb)
set_option maxRecDepth 100000 in
set_option maxHeartbeats 4000000 in
theorem rowB_any {F : Nat → Prop} {w0 w : World} {b rb wb : Nat} {ts : List Tk} {ns : List Nd} {fl : Bool} (h : RdAt F w0 w b ts ns fl) (he : RowEnv F w b rb wb) (hO : EnvO w0)
    (H : ∀ (F1 : Nat → Prop) (w1 : World) (ts1 : List Tk) (ns1 : List Nd) (fl1 : Bool), Suf ts1 ts → RdAt F1 w0 w1 b ts1 ns1 fl1 → RowEnv F1 w1 b rb wb → Calls Tryz.prog 41 #[.int .i64 2, .pointer (some ⟨rb, 0, none⟩), .pointer (some ⟨wb, 0, none⟩)] w1 (RowPost .one F1 w0 w1 b ts1 ns1 fl1)) :
    Calls Tryz.prog 41 #[.int .i64 1, .pointer (some ⟨rb, 0, none⟩), .pointer (some ⟨wb, 0, none⟩)] w (RowPost .and F w0 w b ts ns fl) := by
  have ho := hid (H F w ts ns fl (Suf.refl _) h he)
  have c1 := he.c1
  have c2 := he.c2
  have hI := hid (RowI.start h he)
  replace H := hid H
  replace hO := hid hO
  clear h he
  unfold ptr rowv at *
  go_enter Tryz.func41, Tryz.ntmps41
  go_wp2_with fail
  refine ho.out.mono ?_
  rintro e w1 ⟨ts', root, ok, rfl, h1, h2⟩
  have hL : Hid (∃ F1 ns1 fl1, RowL false .and F w0 w b rb wb ts ns fl root ok F1 ts' ns1 fl1 w1) := by
    show ∃ _ _ _, _
    cases ok
    · obtain ⟨⟨ns1, fl1, r1⟩, hc⟩ := h1 rfl
      obtain ⟨F1, hJ⟩ := hI.out.call r1
      exact ⟨F1, ns1, fl1, hJ, (fun _ => by rw [pE_and, hc]), fun e => by cases e⟩
    · obtain ⟨t, hc, hs, r1, hr⟩ := h2 rfl
      obtain ⟨F1, hJ⟩ := hI.out.call r1
      exact ⟨F1, _, _, hJ, (fun e => by cases e), fun _ => ⟨hs, t, by rw [pE_and, hc], by rw [hr]⟩⟩
  clear h1 h2 ho hI c1 c2
  go_wp2_with fail
  go_loopw [4, 5] (fun r okv wr => ∃ root ok F1 ts1 ns1 fl1, r = .int .i64 root ∧ okv = .bool ok ∧ RowL false .and F w0 w b rb wb ts ns fl root ok F1 ts1 ns1 fl1 wr) (fun _ okv wr => okN okv * (restLen wr b + 1))
  case atStart =>
    obtain ⟨F1, ns1, fl1, hJ⟩ := hL.out
    exact ⟨_, _, F1, _, ns1, fl1, rfl, rfl, hJ⟩
  case round =>
    obtain ⟨root, ok, F1, ts1, ns1, fl1, rfl, rfl, hJ⟩ := hrel
    clear hL
    have hmeas := hid hJ.i.rd.restLen
    cases ok
    · replace hJ := hid hJ
      go_wp2_with fail
      refine wp_region_any (by kernel_rfl) ?_; try (change wpAny _ _ _ _ _ _ _ (World.drew _))
      refine wpAny_take (i := 0) (v := ?v1) (by simp only [List.getElem?_toArray, List.getElem?_cons_zero]; rfl) (by kernel_rfl) (by kernel_rfl) (by kernel_rfl) (by exact fun _ _ _ h => h) (Or.inl ⟨by kernel_rfl, ?hy1⟩) ?rest1; (case hy1 => (intro w; go_simp) <;> with_reducible rfl); go_frame; refine wpAny_take (i := 1) (v := ?v2) (by simp only [List.getElem?_toArray, List.getElem?_cons_succ, List.getElem?_cons_zero]; rfl) (by kernel_rfl) (by kernel_rfl) (by kernel_rfl) (by exact fun _ _ _ h => h) (Or.inl ⟨by kernel_rfl, ?hy2⟩) ?rest2; (case hy2 => (intro w; go_simp) <;> with_reducible rfl); go_frame
      refine wpAny_take (i := 2) (v := undef) (by simp only [List.getElem?_toArray, List.getElem?_cons_succ, List.getElem?_cons_zero]; rfl) (by kernel_rfl) (by kernel_rfl) (by kernel_rfl) (by exact fun _ _ _ h => h) (Or.inr ⟨by kernel_rfl, rfl⟩) ?_; go_frame; refine wpAny_take (i := 3) (v := undef) (by simp only [List.getElem?_toArray, List.getElem?_cons_succ, List.getElem?_cons_zero]; rfl) (by kernel_rfl) (by kernel_rfl) (by kernel_rfl) (by exact fun _ _ _ h => h) (Or.inr ⟨by kernel_rfl, rfl⟩) ?_; go_frame; refine wpAny_take (i := 4) (v := undef) (by simp only [List.getElem?_toArray, List.getElem?_cons_succ, List.getElem?_cons_zero]; rfl) (by kernel_rfl) (by kernel_rfl) (by kernel_rfl) (by exact fun _ _ _ h => h) (Or.inr ⟨by kernel_rfl, rfl⟩) ?_; go_frame; refine wpAny_take (i := 5) (v := undef) (by simp only [List.getElem?_toArray, List.getElem?_cons_succ, List.getElem?_cons_zero]; rfl) (by kernel_rfl) (by kernel_rfl) (by kernel_rfl) (by exact fun _ _ _ h => h) (Or.inr ⟨by kernel_rfl, rfl⟩) ?_; go_frame; refine wpAny_take (i := 6) (v := undef) (by simp only [List.getElem?_toArray, List.getElem?_cons_succ, List.getElem?_cons_zero]; rfl) (by kernel_rfl) (by kernel_rfl) (by kernel_rfl) (by exact fun _ _ _ h => h) (Or.inr ⟨by kernel_rfl, rfl⟩) ?_; go_frame; refine wpAny_take (i := 7) (v := undef) (by simp only [List.getElem?_toArray, List.getElem?_cons_succ, List.getElem?_cons_zero]; rfl) (by kernel_rfl) (by kernel_rfl) (by kernel_rfl) (by exact fun _ _ _ h => h) (Or.inr ⟨by kernel_rfl, rfl⟩) ?_; go_frame
      refine wpAny_take (i := 8) (v := ?v3) (by simp only [List.getElem?_toArray, List.getElem?_cons_succ, List.getElem?_cons_zero]; rfl) (by kernel_rfl) (by kernel_rfl) (by kernel_rfl) (by exact fun _ _ _ h => h) (Or.inl ⟨by kernel_rfl, ?hy3⟩) ?rest3; (case hy3 => (intro w; go_simp) <;> with_reducible rfl); go_frame
      refine wpAny_done (by kernel_rfl) ?_ _
      go_wp2
      go_ret2
      exact hJ.out.fail (by first | exact Below.refl _ _ | exact below_drew (Below.refl _ _) | exact below_drewN (Below.refl _ _))
    · have c1 := hJ.i.env.c1
      have c2 := hJ.i.env.c2
      have g1 := (hO.out.below hJ.i.rd.low).c2
      unfold ptr at c1
      unfold rowv at c2
      have htk : Hid (∀ W, Below wr.heap.size wr W → Calls Tryz.prog 43 #[.pointer (some ⟨b, 0, none⟩), .int .u8 1, .string ⟨#[97, 110, 100]⟩] W fun e w' => e = .returned (.bool (hd (opKey false) ts1)) ∧ RdTo F1 no w0 wr w' b (rst (hd (opKey false) ts1) ts1) ns1 fl1 ∧ w'.cell? ⟨rb, 0, none⟩ = some (.pointer (some ⟨b, 0, none⟩)) ∧ w'.cell? ⟨0, 2, none⟩ = some (.string ⟨#[97, 110, 100]⟩)) := fun W hb => (takes_any no (hJ.i.rd.below hb) 1 [97, 110, 100]).mono (by
        rintro e w' ⟨rfl, r⟩
        have r' := r.after hb
        obtain ⟨F2, hK⟩ := hJ.i.call r'
        exact ⟨rfl, r', hK.env.c1, (hO.out.below hK.rd.low).c2⟩)
      replace hJ := hid hJ
      cases e1 : hd (opKey false) ts1
      · rw [e1] at htk
        go_wp2_with fail
        go_region_held3 (fun w' => w'.cell? ⟨rb, 0, none⟩ = some (.pointer (some ⟨b, 0, none⟩)) ∧ w'.cell? ⟨0, 2, none⟩ = some (.string ⟨#[97, 110, 100]⟩)) (go_keep) (first | (go_at_call 43; refine (htk.out _ (by first | exact Below.refl _ _ | exact below_drew (Below.refl _ _) | exact below_drewN (Below.refl _ _))).mono ?_; rintro e w2 ⟨rfl, r2, j1, j2⟩; replace r2 := hid r2))
        all_goals
          obtain ⟨F2, hK⟩ := hJ.out.i.call (ts2 := ts1) r2.out
          have hfin := hid (hJ.out.post e1 hK)
          clear hJ r2 htk hK
          go_wp2
          go_ret2
          exact hfin.out
      · rw [e1] at htk
        have hl : ts1.tail.length + 1 = ts1.length := by
          cases ts1 with
          | nil => cases e1
          | cons t l => rfl
        have hkey := hid (hd_keys e1)
        go_wp2_with fail
        go_region_held3 (fun w' => w'.cell? ⟨rb, 0, none⟩ = some (.pointer (some ⟨b, 0, none⟩)) ∧ w'.cell? ⟨0, 2, none⟩ = some (.string ⟨#[97, 110, 100]⟩)) (go_keep) (first | (go_at_call 43; refine (htk.out _ (by first | exact Below.refl _ _ | exact below_drew (Below.refl _ _) | exact below_drewN (Below.refl _ _))).mono ?_; rintro e w2 ⟨rfl, r2, j1, j2⟩; replace r2 := hid r2))
        all_goals
          obtain ⟨F2, hK⟩ := hJ.out.i.call (ts2 := ts1.tail) r2.out
          have d1 := hK.env.c1
          have d2 := hK.env.c2
          have hsf := hid ((Suf.tail ts1).trans (hJ.out.good rfl).1)
          have hro := hid (H.out F2 w2 ts1.tail ns1 fl1 hsf.out hK.rd hK.env)
          have g2 := (hO.out.below hK.rd.low).c3
          unfold ptr at d1
          unfold rowv at d2
          replace hK := hid hK
          clear r2 htk c1 c2 g1
          go_wp2_with fail
          refine hro.out.mono ?_
          rintro e w3 ⟨ts3, root3, ok3, rfl, h1, h2⟩
          have hM : Hid (∃ F4 ns3 fl3, RowI F F4 w0 w w3 b rb wb ts3 ns3 fl3 ∧ (ok3 = false → pE .and (keysT ts) = none) ∧ (ok3 = true → Suf ts3 ts ∧ ts3.length < ts1.length ∧ ∃ t, pE .and (keysT ts) = pE (.more false t) (keysT ts3) ∧ add3 (ns3, fl3, root3) (binNd false root root3) = addT (ns, fl, 0) t)) := by
            show ∃ _ _ _, _
            obtain ⟨-, t0, hpe, hst⟩ := hJ.out.good rfl
            rw [hkey.out, pE_more, show partOf false = .one from rfl] at hpe
            cases ok3
            · obtain ⟨⟨ns3, fl3, r3⟩, hc⟩ := h1 rfl
              obtain ⟨F4, hN⟩ := hK.out.call r3
              exact ⟨F4, _, _, hN, (fun _ => by rw [hpe, hc]), fun e => by cases e⟩
            · obtain ⟨u, hc, hs, r3, hr⟩ := h2 rfl
              obtain ⟨F4, hN⟩ := hK.out.call r3
              refine ⟨F4, _, _, hN, (fun e => by cases e), fun _ => ⟨hs.trans hsf.out, by have := hs.len; omega, .bin false t0 u, by rw [hpe, hc], ?_⟩⟩
              rw [addT, ← hst]
              have e5 : addT (ns1, fl1, root) u = addT (ns1, fl1, 0) u := addT_root _ _ _ _ _
              rw [e5, hr]
          clear h1 h2 hro hK d1 d2 hkey
          obtain ⟨F4, ns3, fl3, hN, hbad, hgood⟩ := hM.out
          replace hbad := hid hbad
          replace hgood := hid hgood
          have d1 := hN.env.c1
          have g2 := (hO.out.below hN.rd.low).c3
          have had : Hid (∀ W, Below w3.heap.size w3 W → Calls Tryz.prog 44 #[ptr b, ndAgg (binNd false root root3) (.slice none 0 0)] W fun e w' => e = .returned (.int .i64 (addR ns3)) ∧ RdAdd F4 no w0 w3 w' b ts3 (addN ns3 (binNd false root root3)) (addF ns3 fl3) ∧ w'.cell? ⟨rb, 0, none⟩ = some (.pointer (some ⟨b, 0, none⟩)) ∧ w'.cell? ⟨0, 3, none⟩ = some (.int .u8 1)) := fun W hb => (add_any (S := no) (hN.rd.below hb) (binNd false root root3) (.slice none 0 0) (Mat.ownM_nil _ _) (fun k h => by cases h)).mono (by
            rintro e w' ⟨rfl, r⟩
            have r' := r.after hb
            obtain ⟨F2, hK⟩ := hN.add r'
            exact ⟨rfl, r', hK.env.c1, (hO.out.below hK.rd.low).c3⟩)
          unfold ptr at d1
          unfold ptr ndAgg at had
          replace hN := hid hN
          clear hM hJ
          go_wp2_with fail
          go_region_held3 (fun w' => w'.cell? ⟨rb, 0, none⟩ = some (.pointer (some ⟨b, 0, none⟩)) ∧ w'.cell? ⟨0, 3, none⟩ = some (.int .u8 1)) (go_keep) (first | (go_at_call 44; refine (had.out _ (by first | exact Below.refl _ _ | exact below_drew (Below.refl _ _) | exact below_drewN (Below.refl _ _))).mono ?_; rintro e w5 ⟨rfl, r5, i1, i2⟩; replace r5 := hid r5))
          all_goals
            obtain ⟨F5, hQ⟩ := hN.out.add r5.out
            have hmeas2 := hid hQ.rd.restLen
            replace hQ := hid hQ
            clear r5 had hN d1 g2
            go_wp2
            refine ⟨⟨_, ok3, F5, ts3, _, _, rfl, rfl, hQ.out, hbad.out, fun e => ?_⟩, ?_⟩
            · obtain ⟨k1, -, t, k2, k3⟩ := hgood.out e
              exact ⟨k1, t, k2, k3⟩
            · rw [hmeas.out, hmeas2.out]
              cases ok3
              · simp [okN]
              · have := (hgood.out rfl).2.1
                simp [okN]; omega
set_option maxRecDepth 100000 in
set_option maxHeartbeats 4000000 in
theorem rowA_any {F : Nat → Prop} {w0 w : World} {b rb wb : Nat} {ts : List Tk} {ns : List Nd} {fl : Bool} (h : RdAt F w0 w b ts ns fl) (he : RowEnv F w b rb wb) (hO : EnvO w0)
    (H : ∀ (F1 : Nat → Prop) (w1 : World) (ts1 : List Tk) (ns1 : List Nd) (fl1 : Bool), Suf ts1 ts → RdAt F1 w0 w1 b ts1 ns1 fl1 → RowEnv F1 w1 b rb wb → Calls Tryz.prog 41 #[.int .i64 1, .pointer (some ⟨rb, 0, none⟩), .pointer (some ⟨wb, 0, none⟩)] w1 (RowPost .and F1 w0 w1 b ts1 ns1 fl1)) :
    Calls Tryz.prog 41 #[.int .i64 0, .pointer (some ⟨rb, 0, none⟩), .pointer (some ⟨wb, 0, none⟩)] w (RowPost .or F w0 w b ts ns fl) := by
  have ho := hid (H F w ts ns fl (Suf.refl _) h he)
  have c1 := he.c1
  have c2 := he.c2
  have hI := hid (RowI.start h he)
  replace H := hid H
  replace hO := hid hO
  clear h he
  unfold ptr rowv at *
  go_enter Tryz.func41, Tryz.ntmps41
  go_wp2_with fail
  refine ho.out.mono ?_
  rintro e w1 ⟨ts', root, ok, rfl, h1, h2⟩
  have hL : Hid (∃ F1 ns1 fl1, RowL true .or F w0 w b rb wb ts ns fl root ok F1 ts' ns1 fl1 w1) := by
    show ∃ _ _ _, _
    cases ok
    · obtain ⟨⟨ns1, fl1, r1⟩, hc⟩ := h1 rfl
      obtain ⟨F1, hJ⟩ := hI.out.call r1
      exact ⟨F1, ns1, fl1, hJ, (fun _ => by rw [pE_or, hc]), fun e => by cases e⟩
    · obtain ⟨t, hc, hs, r1, hr⟩ := h2 rfl
      obtain ⟨F1, hJ⟩ := hI.out.call r1
      exact ⟨F1, _, _, hJ, (fun e => by cases e), fun _ => ⟨hs, t, by rw [pE_or, hc], by rw [hr]⟩⟩
  clear h1 h2 ho hI c1 c2
  go_wp2_with fail
  go_loopw [4, 5] (fun r okv wr => ∃ root ok F1 ts1 ns1 fl1, r = .int .i64 root ∧ okv = .bool ok ∧ RowL true .or F w0 w b rb wb ts ns fl root ok F1 ts1 ns1 fl1 wr) (fun _ okv wr => okN okv * (restLen wr b + 1))
  case atStart =>
    obtain ⟨F1, ns1, fl1, hJ⟩ := hL.out
    exact ⟨_, _, F1, _, ns1, fl1, rfl, rfl, hJ⟩
  case round =>
    obtain ⟨root, ok, F1, ts1, ns1, fl1, rfl, rfl, hJ⟩ := hrel
    clear hL
    have hmeas := hid hJ.i.rd.restLen
    cases ok
    · replace hJ := hid hJ
      go_wp2_with fail
      refine wp_region_any (by kernel_rfl) ?_; try (change wpAny _ _ _ _ _ _ _ (World.drew _))
      refine wpAny_take (i := 0) (v := ?v4) (by simp only [List.getElem?_toArray, List.getElem?_cons_zero]; rfl) (by kernel_rfl) (by kernel_rfl) (by kernel_rfl) (by exact fun _ _ _ h => h) (Or.inl ⟨by kernel_rfl, ?hy4⟩) ?rest4; (case hy4 => (intro w; go_simp) <;> with_reducible rfl); go_frame; refine wpAny_take (i := 1) (v := ?v5) (by simp only [List.getElem?_toArray, List.getElem?_cons_succ, List.getElem?_cons_zero]; rfl) (by kernel_rfl) (by kernel_rfl) (by kernel_rfl) (by exact fun _ _ _ h => h) (Or.inl ⟨by kernel_rfl, ?hy5⟩) ?rest5; (case hy5 => (intro w; go_simp) <;> with_reducible rfl); go_frame
      refine wpAny_take (i := 2) (v := undef) (by simp only [List.getElem?_toArray, List.getElem?_cons_succ, List.getElem?_cons_zero]; rfl) (by kernel_rfl) (by kernel_rfl) (by kernel_rfl) (by exact fun _ _ _ h => h) (Or.inr ⟨by kernel_rfl, rfl⟩) ?_; go_frame; refine wpAny_take (i := 3) (v := undef) (by simp only [List.getElem?_toArray, List.getElem?_cons_succ, List.getElem?_cons_zero]; rfl) (by kernel_rfl) (by kernel_rfl) (by kernel_rfl) (by exact fun _ _ _ h => h) (Or.inr ⟨by kernel_rfl, rfl⟩) ?_; go_frame; refine wpAny_take (i := 4) (v := undef) (by simp only [List.getElem?_toArray, List.getElem?_cons_succ, List.getElem?_cons_zero]; rfl) (by kernel_rfl) (by kernel_rfl) (by kernel_rfl) (by exact fun _ _ _ h => h) (Or.inr ⟨by kernel_rfl, rfl⟩) ?_; go_frame; refine wpAny_take (i := 5) (v := undef) (by simp only [List.getElem?_toArray, List.getElem?_cons_succ, List.getElem?_cons_zero]; rfl) (by kernel_rfl) (by kernel_rfl) (by kernel_rfl) (by exact fun _ _ _ h => h) (Or.inr ⟨by kernel_rfl, rfl⟩) ?_; go_frame; refine wpAny_take (i := 6) (v := undef) (by simp only [List.getElem?_toArray, List.getElem?_cons_succ, List.getElem?_cons_zero]; rfl) (by kernel_rfl) (by kernel_rfl) (by kernel_rfl) (by exact fun _ _ _ h => h) (Or.inr ⟨by kernel_rfl, rfl⟩) ?_; go_frame; refine wpAny_take (i := 7) (v := undef) (by simp only [List.getElem?_toArray, List.getElem?_cons_succ, List.getElem?_cons_zero]; rfl) (by kernel_rfl) (by kernel_rfl) (by kernel_rfl) (by exact fun _ _ _ h => h) (Or.inr ⟨by kernel_rfl, rfl⟩) ?_; go_frame
      refine wpAny_take (i := 8) (v := ?v6) (by simp only [List.getElem?_toArray, List.getElem?_cons_succ, List.getElem?_cons_zero]; rfl) (by kernel_rfl) (by kernel_rfl) (by kernel_rfl) (by exact fun _ _ _ h => h) (Or.inl ⟨by kernel_rfl, ?hy6⟩) ?rest6; (case hy6 => (intro w; go_simp) <;> with_reducible rfl); go_frame
      refine wpAny_done (by kernel_rfl) ?_ _
      go_wp2
      go_ret2
      exact hJ.out.fail (by first | exact Below.refl _ _ | exact below_drew (Below.refl _ _) | exact below_drewN (Below.refl _ _))
    · have c1 := hJ.i.env.c1
      have c2 := hJ.i.env.c2
      have g1 := (hO.out.below hJ.i.rd.low).c0
      unfold ptr at c1
      unfold rowv at c2
      have htk : Hid (∀ W, Below wr.heap.size wr W → Calls Tryz.prog 43 #[.pointer (some ⟨b, 0, none⟩), .int .u8 1, .string ⟨#[111, 114]⟩] W fun e w' => e = .returned (.bool (hd (opKey true) ts1)) ∧ RdTo F1 no w0 wr w' b (rst (hd (opKey true) ts1) ts1) ns1 fl1 ∧ w'.cell? ⟨rb, 0, none⟩ = some (.pointer (some ⟨b, 0, none⟩)) ∧ w'.cell? ⟨0, 0, none⟩ = some (.string ⟨#[111, 114]⟩)) := fun W hb => (takes_any no (hJ.i.rd.below hb) 1 [111, 114]).mono (by
        rintro e w' ⟨rfl, r⟩
        have r' := r.after hb
        obtain ⟨F2, hK⟩ := hJ.i.call r'
        exact ⟨rfl, r', hK.env.c1, (hO.out.below hK.rd.low).c0⟩)
      replace hJ := hid hJ
      cases e1 : hd (opKey true) ts1
      · rw [e1] at htk
        go_wp2_with fail
        go_region_held3 (fun w' => w'.cell? ⟨rb, 0, none⟩ = some (.pointer (some ⟨b, 0, none⟩)) ∧ w'.cell? ⟨0, 0, none⟩ = some (.string ⟨#[111, 114]⟩)) (go_keep) (first | (go_at_call 43; refine (htk.out _ (by first | exact Below.refl _ _ | exact below_drew (Below.refl _ _) | exact below_drewN (Below.refl _ _))).mono ?_; rintro e w2 ⟨rfl, r2, j1, j2⟩; replace r2 := hid r2))
        all_goals
          obtain ⟨F2, hK⟩ := hJ.out.i.call (ts2 := ts1) r2.out
          have hfin := hid (hJ.out.post e1 hK)
          clear hJ r2 htk hK
          go_wp2
          go_ret2
          exact hfin.out
      · rw [e1] at htk
        have hl : ts1.tail.length + 1 = ts1.length := by
          cases ts1 with
          | nil => cases e1
          | cons t l => rfl
        have hkey := hid (hd_keys e1)
        go_wp2_with fail
        go_region_held3 (fun w' => w'.cell? ⟨rb, 0, none⟩ = some (.pointer (some ⟨b, 0, none⟩)) ∧ w'.cell? ⟨0, 0, none⟩ = some (.string ⟨#[111, 114]⟩)) (go_keep) (first | (go_at_call 43; refine (htk.out _ (by first | exact Below.refl _ _ | exact below_drew (Below.refl _ _) | exact below_drewN (Below.refl _ _))).mono ?_; rintro e w2 ⟨rfl, r2, j1, j2⟩; replace r2 := hid r2))
        all_goals
          obtain ⟨F2, hK⟩ := hJ.out.i.call (ts2 := ts1.tail) r2.out
          have d1 := hK.env.c1
          have d2 := hK.env.c2
          have hsf := hid ((Suf.tail ts1).trans (hJ.out.good rfl).1)
          have hro := hid (H.out F2 w2 ts1.tail ns1 fl1 hsf.out hK.rd hK.env)
          have g2 := (hO.out.below hK.rd.low).c1
          unfold ptr at d1
          unfold rowv at d2
          replace hK := hid hK
          clear r2 htk c1 c2 g1
          go_wp2_with fail
          refine hro.out.mono ?_
          rintro e w3 ⟨ts3, root3, ok3, rfl, h1, h2⟩
          have hM : Hid (∃ F4 ns3 fl3, RowI F F4 w0 w w3 b rb wb ts3 ns3 fl3 ∧ (ok3 = false → pE .or (keysT ts) = none) ∧ (ok3 = true → Suf ts3 ts ∧ ts3.length < ts1.length ∧ ∃ t, pE .or (keysT ts) = pE (.more true t) (keysT ts3) ∧ add3 (ns3, fl3, root3) (binNd true root root3) = addT (ns, fl, 0) t)) := by
            show ∃ _ _ _, _
            obtain ⟨-, t0, hpe, hst⟩ := hJ.out.good rfl
            rw [hkey.out, pE_more, show partOf true = .and from rfl] at hpe
            cases ok3
            · obtain ⟨⟨ns3, fl3, r3⟩, hc⟩ := h1 rfl
              obtain ⟨F4, hN⟩ := hK.out.call r3
              exact ⟨F4, _, _, hN, (fun _ => by rw [hpe, hc]), fun e => by cases e⟩
            · obtain ⟨u, hc, hs, r3, hr⟩ := h2 rfl
              obtain ⟨F4, hN⟩ := hK.out.call r3
              refine ⟨F4, _, _, hN, (fun e => by cases e), fun _ => ⟨hs.trans hsf.out, by have := hs.len; omega, .bin true t0 u, by rw [hpe, hc], ?_⟩⟩
              rw [addT, ← hst]
              have e5 : addT (ns1, fl1, root) u = addT (ns1, fl1, 0) u := addT_root _ _ _ _ _
              rw [e5, hr]
          clear h1 h2 hro hK d1 d2 hkey
          obtain ⟨F4, ns3, fl3, hN, hbad, hgood⟩ := hM.out
          replace hbad := hid hbad
          replace hgood := hid hgood
          have d1 := hN.env.c1
          have g2 := (hO.out.below hN.rd.low).c1
          have had : Hid (∀ W, Below w3.heap.size w3 W → Calls Tryz.prog 44 #[ptr b, ndAgg (binNd true root root3) (.slice none 0 0)] W fun e w' => e = .returned (.int .i64 (addR ns3)) ∧ RdAdd F4 no w0 w3 w' b ts3 (addN ns3 (binNd true root root3)) (addF ns3 fl3) ∧ w'.cell? ⟨rb, 0, none⟩ = some (.pointer (some ⟨b, 0, none⟩)) ∧ w'.cell? ⟨0, 1, none⟩ = some (.int .u8 2)) := fun W hb => (add_any (S := no) (hN.rd.below hb) (binNd true root root3) (.slice none 0 0) (Mat.ownM_nil _ _) (fun k h => by cases h)).mono (by
            rintro e w' ⟨rfl, r⟩
            have r' := r.after hb
            obtain ⟨F2, hK⟩ := hN.add r'
            exact ⟨rfl, r', hK.env.c1, (hO.out.below hK.rd.low).c1⟩)
          unfold ptr at d1
          unfold ptr ndAgg at had
          replace hN := hid hN
          clear hM hJ
          go_wp2_with fail
          go_region_held3 (fun w' => w'.cell? ⟨rb, 0, none⟩ = some (.pointer (some ⟨b, 0, none⟩)) ∧ w'.cell? ⟨0, 1, none⟩ = some (.int .u8 2)) (go_keep) (first | (go_at_call 44; refine (had.out _ (by first | exact Below.refl _ _ | exact below_drew (Below.refl _ _) | exact below_drewN (Below.refl _ _))).mono ?_; rintro e w5 ⟨rfl, r5, i1, i2⟩; replace r5 := hid r5))
          all_goals
            obtain ⟨F5, hQ⟩ := hN.out.add r5.out
            have hmeas2 := hid hQ.rd.restLen
            replace hQ := hid hQ
            clear r5 had hN d1 g2
            go_wp2
            refine ⟨⟨_, ok3, F5, ts3, _, _, rfl, rfl, hQ.out, hbad.out, fun e => ?_⟩, ?_⟩
            · obtain ⟨k1, -, t, k2, k3⟩ := hgood.out e
              exact ⟨k1, t, k2, k3⟩
            · rw [hmeas.out, hmeas2.out]
              cases ok3
              · simp [okN]
              · have := (hgood.out rfl).2.1
                simp [okN]; omega
end Go.Proofs.YtjhodmpgggaknaaGreatDoor
