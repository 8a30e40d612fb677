/- The walk of FilesCrash. -/
import Derived.Test.YtinnegkkfaaceaaCrM
import Derived.Test.YtinnegkkfaaceaaRows
namespace Go.Proofs.Ytinnegkkfaaceaa
namespace filesCrash
open Go.RowKit Go.Maps Go.MapKept Go.Shelf

theorem sumw_le (l : List ActD) : ∀ k, k ≤ l.length → sumw l k ≤ sumw l l.length := by
  intro k hk
  unfold sumw
  rw [List.take_length]
  have := congrArg List.sum (congrArg (List.map wt) (List.take_append_drop k l))
  rw [List.map_append, List.sum_append] at this
  omega
theorem Fit.at {l : List ActD} (h : Fit l) (k : Nat) (hk : k < l.length) : l[k].b.length ≤ 30000 ∧ l[k].name.length ≤ 30000 ∧ l[k].other.length ≤ 30000 := by
  have h1 := sumw_succ l k hk
  have h2 := sumw_le l (k + 1) hk
  have h3 := h.2
  unfold wt at h1
  omega
set_option maxHeartbeats 1000000 in
theorem begins_any {w : World} {a a' : Option Addr} {c c' m : Nat} {bs : List UInt8} (h : IsB w (.slice a bs.length c) bs) (hm : m ≤ bs.length) (h' : IsB w (.slice a' m c') (bs.take m)) (hcap1 : bs.length ≤ c) (_ : c ≤ 9223372036854775807) :
    Calls Try.prog 29 #[.slice a bs.length c, .slice a' m c'] w fun e w' => e = .returned (.bool true) ∧ ∃ q, w' = w.drewN q := by
  have hm' : (m : Int) ≤ (bs.length : Int) := by omega
  have cv1 : ∀ q, (convert 30 9 (.slice a m c)).run Try.prog (w.drewN q) = .ok (.string ⟨(bs.take m).toArray⟩) (w.drewN q) := fun q => conv_str (w := w.drewN q) (IsB.take h m hm)
  have cv2 : ∀ q, (convert 30 9 (.slice a' m c')).run Try.prog (w.drewN q) = .ok (.string ⟨(bs.take m).toArray⟩) (w.drewN q) := fun q => conv_str (w := w.drewN q) h'
  have hml := h.1
  unfold maxLen at hml
  clear h h'
  generalize bs.take m = bt at *
  go_enter Try.func29, Try.ntmps29
  go_wp2
  go_quiet (fail)
  go_wp2
  go_ret
  exact ⟨rfl, _, rfl⟩
/-- how a round of calls ends. -/
def Done (w : World) (sb k : Nat) (e : Ending) (w4 : World) : Prop := ∃ r : Int, e = .returned (.int .i64 r) ∧ ∃ g' t', Is w.heap.size w4 sb g' t' ∧ Calm (k + 1) t' ∧ Below w.heap.size w w4
section
variable {w W : World} {sb k : Nat} {g : Gs} {t : St}
theorem sync_d (h : Is w.heap.size W sb g t) (hL : Below w.heap.size w W) (hc : Calm k t) (n : List UInt8) (hn : n.length ≤ 30000) (ha : t.acts < 4611686018427387904) : Calls Try.prog 25 #[ptr sb, str n] W (Done w sb k) := by
  refine (sync_t (r := (t.sync n).1) (t' := (t.sync n).2) W h n (by unfold maxLen; omega) ha rfl).mono ?_
  rintro e w4 ⟨rfl, g', hs, h'⟩
  exact ⟨_, rfl, g', _, h', hc.sync n, hL.trans (hs.low h)⟩
theorem remove_d (h : Is w.heap.size W sb g t) (hL : Below w.heap.size w W) (hc : Calm k t) (n : List UInt8) (hn : n.length ≤ 30000) (ha : t.acts < 4611686018427387904) : Calls Try.prog 28 #[ptr sb, str n] W (Done w sb k) := by
  refine (remove_t (r := (t.remove n).1) (t' := (t.remove n).2) W h n (by unfold maxLen; omega) ha rfl).mono ?_
  rintro e w4 ⟨rfl, g', hs, h'⟩
  exact ⟨_, rfl, g', _, h', hc.remove n, hL.trans (hs.low h)⟩
theorem truncate_d (h : Is w.heap.size W sb g t) (hL : Below w.heap.size w W) (hc : Calm k t) (n : List UInt8) (hn : n.length ≤ 30000) (x : Int) (ha : t.acts < 4611686018427387904) : Calls Try.prog 26 #[ptr sb, str n, .int .i64 x] W (Done w sb k) := by
  refine (truncate_t (r := (t.truncate n x).1) (t' := (t.truncate n x).2) W h n (by unfold maxLen; omega) x ha rfl).mono ?_
  rintro e w4 ⟨rfl, g', hs, h'⟩
  exact ⟨_, rfl, g', _, h', hc.truncate n x, hL.trans (hs.low h)⟩
theorem rename_d (h : Is w.heap.size W sb g t) (hL : Below w.heap.size w W) (hc : Calm k t) (o n : List UInt8) (ho : o.length ≤ 30000) (hn : n.length ≤ 30000) (ha : t.acts < 4611686018427387904) : Calls Try.prog 27 #[ptr sb, str o, str n] W (Done w sb k) := by
  refine (rename_t (r := (t.rename o n).1) (t' := (t.rename o n).2) W h o n (by unfold maxLen; omega) (by omega) ha rfl).mono ?_
  rintro e w4 ⟨rfl, g', hs, h'⟩
  exact ⟨_, rfl, g', _, h', hc.rename o n, hL.trans (hs.low h)⟩
theorem append_d (h : Is w.heap.size W sb g t) (hL : Below w.heap.size w W) (hc : Calm k t) (n : List UInt8) (hn : n.length ≤ 30000) {v : Value} {bs : List UInt8} (hB : IsB W v bs) (ha : t.acts < 4611686018427387904) : Calls Try.prog 18 #[ptr sb, str n, v] W (Done w sb k) := by
  refine (append_t (r := (t.append n bs).1) (t' := (t.append n bs).2) W h n (by omega) v bs hB ha rfl).mono ?_
  rintro e w4 ⟨rfl, g', hs, h'⟩
  exact ⟨_, rfl, g', _, h', hc.append n bs, hL.trans (hs.low h)⟩
end
set_option maxRecDepth 100000 in
set_option maxHeartbeats 4000000 in
theorem walk (v : Value) (l : List ActD) (vk : Value) (keep : List Int) (w : World) (hA : IsActs w v l) (hI : IsI w vk keep) :
    Calls Try.prog 6 #[v, vk] w fun e w' => e = .returned (.bool true) ∧ Below w.heap.size w w' := by
  have haw := hid awake_any
  have hml := hA.1
  unfold maxLen at hml
  have hg := hid (great_any v l w hA)
  obtain ⟨av, cv, hv⟩ : ∃ a c, v = .slice a l.length c := by obtain ⟨_, a, c, e, _⟩ := hA; exact ⟨a, c, e⟩
  obtain ⟨ka, kc, hkv⟩ : ∃ a c, vk = .slice a keep.length c := by obtain ⟨_, _, a, c, e, _⟩ := hI; exact ⟨a, c, e⟩
  rw [hv] at hA hg ⊢
  rw [hkv] at hI ⊢
  replace hA := hid hA
  replace hI := hid hI
  clear hv hkv
  go_enter Try.func6, Try.ntmps6
  go_wp2_with fail
  refine hg.out.mono ?_
  rintro e w3 ⟨r, rfl, hfit, q, rfl⟩
  clear hg
  cases r with
  | true =>
    go_wp2_with (go_at_call 20; refine (haw.out _).mono ?_; rintro e w9 ⟨rfl, hb9⟩; replace hb9 := hid hb9)
    go_ret
    exact ⟨rfl, hb9.out.os, hb9.out.tape, hb9.out.output, hb9.out.size, hb9.out.block⟩
  | false =>
    replace hfit := hid (hfit rfl)
    go_wp2_with fail
    refine (new_t _).mono ?_
    rintro e w1 ⟨rfl, h1, hb1, hs1⟩
    have L1 : Hid (Below w.heap.size w w1) := ⟨hb1.os, hb1.tape, hb1.output, hb1.size, hb1.block⟩
    have h1' : Hid (Is w.heap.size w1 (w.heap.size + 1) (g0 w.heap.size) ⟨[], 0, -1⟩) := h1
    clear h1 hb1 hs1
    generalize g0 w.heap.size = g1 at h1'
    have hsz : (w.drewN q).heap.size + 1 = w.heap.size + 1 := rfl
    rw [hsz]
    clear hsz
    generalize w.heap.size + 1 = sb at h1' ⊢
    unfold ptr
    go_wp2_with fail
    go_loopw [6] (fun iv wr => ∃ (k : Nat) (g : Gs) (t : St), k ≤ l.length ∧ iv = .int .i64 k ∧ Is w.heap.size wr sb g t ∧ Calm k t ∧ Below w.heap.size w wr) (fun iv _ => l.length - (intOf iv).toNat)
    case atStart => exact ⟨0, g1, _, by omega, rfl, h1'.out, ⟨rfl, Nat.le_refl _⟩, L1.out⟩
    case round =>
      rename_i wr
      obtain ⟨k, g, t, hk, rfl, hIs, hcalm, hL⟩ := hrel
      replace hIs := hid hIs
      replace hL := hid hL
      replace hcalm := hid hcalm
      clear h1' L1
      by_cases hlt : k < l.length
      · have hlt' : (k : Int) < (l.length : Int) := by omega
        obtain ⟨b, off, vb, vk, rfl, hok, hB, hI2, c0, c1, c2, c3, c4, c5⟩ := hA.out.at k hlt
        have hx := Fit.at hfit.out k hlt
        have hlow : ∀ j u, w.cell? ⟨b, off + k * 6 + j, none⟩ = some u → wr.cell? ⟨b, off + k * 6 + j, none⟩ = some u := fun j u hu => (hL.out.cell (p := ⟨b, off + k * 6 + j, none⟩) (World.block_lt_of_cell? w ⟨b, off + k * 6 + j, none⟩ hu)).trans hu
        replace c0 : wr.cell? ⟨b, off + k * 6, none⟩ = some (.int .u8 (l[k].kind : Int)) := hlow 0 _ c0
        replace c1 := hlow 1 _ c1
        replace c2 := hlow 2 _ c2
        replace c3 := hlow 3 _ c3
        replace c4 := hlow 4 _ c4
        replace c5 := hlow 5 _ c5
        obtain ⟨va, vc, rfl⟩ : ∃ a c, vb = .slice a l[k].b.length c := by obtain ⟨_, a, c, e, _⟩ := hB; exact ⟨a, c, e⟩
        obtain ⟨xa, xc, rfl⟩ : ∃ a c, vk = .slice a l[k].keep.length c := by obtain ⟨_, _, a, c, e, _⟩ := hI2; exact ⟨a, c, e⟩
        have hBr := hid (hB.below hL.out)
        have hok1 := hok.kind
        have hok2 := hok.n
        clear hlow hB hI2
        have hW := hIs.out.below (alloc_below wr (.cells #[.int .u8 (l[k].kind : Int), str l[k].name, str l[k].other, .slice va l[k].b.length vc, .int .i64 l[k].n, .slice xa l[k].keep.length xc] 33))
        have hLW := low' hL.out hIs.out.2.2 (alloc_below wr (.cells #[.int .u8 (l[k].kind : Int), str l[k].name, str l[k].other, .slice va l[k].b.length vc, .int .i64 l[k].n, .slice xa l[k].keep.length xc] 33))
        have hBW := hBr.out.below (alloc_below wr (.cells #[.int .u8 (l[k].kind : Int), str l[k].name, str l[k].other, .slice va l[k].b.length vc, .int .i64 l[k].n, .slice xa l[k].keep.length xc] 33))
        have h100 := hfit.out.1
        have hac : t.acts < 4611686018427387904 := by have := hcalm.out.2; omega
        have sy := hid (sync_d hW hLW hcalm.out l[k].name hx.2.1 hac)
        have tr := hid (truncate_d hW hLW hcalm.out l[k].name hx.2.1 l[k].n hac)
        have rn := hid (rename_d hW hLW hcalm.out l[k].name l[k].other hx.2.1 hx.2.2 hac)
        have rm := hid (remove_d hW hLW hcalm.out l[k].name hx.2.1 hac)
        have ap := hid (append_d hW hLW hcalm.out l[k].name hx.2.1 hBW hac)
        have sk : Hid (∃ g' t', Is w.heap.size (wr.alloc (.cells #[.int .u8 (l[k].kind : Int), str l[k].name, str l[k].other, .slice va l[k].b.length vc, .int .i64 l[k].n, .slice xa l[k].keep.length xc] 33)) sb g' t' ∧ Calm (k + 1) t' ∧ Below w.heap.size w (wr.alloc (.cells #[.int .u8 (l[k].kind : Int), str l[k].name, str l[k].other, .slice va l[k].b.length vc, .int .i64 l[k].n, .slice xa l[k].keep.length xc] 33))) := ⟨g, t, hW, hcalm.out.up, hLW⟩
        clear hW hLW hBW hx hBr hac hcalm hIs hL
        generalize l[k] = x at *
        unfold ptr str at sy tr rn rm ap
        unfold str at c1 c2 sk
        go_wp2_with (first | (go_at_call 25; refine sy.out.mono ?_; rintro e w4 ⟨r, rfl, h4⟩; replace h4 := hid h4) | (go_at_call 26; refine tr.out.mono ?_; rintro e w4 ⟨r, rfl, h4⟩; replace h4 := hid h4) | (go_at_call 27; refine rn.out.mono ?_; rintro e w4 ⟨r, rfl, h4⟩; replace h4 := hid h4) | (go_at_call 28; refine rm.out.mono ?_; rintro e w4 ⟨r, rfl, h4⟩; replace h4 := hid h4) | (go_at_call 18; refine ap.out.mono ?_; rintro e w4 ⟨r, rfl, h4⟩; replace h4 := hid h4))
        all_goals first
          | (obtain ⟨g4, t4, q1, q2, q3⟩ := h4.out; exact ⟨⟨k + 1, g4, t4, by omega, by go_num, q1, q2, q3⟩, by simp [intOf]; omega⟩)
          | (obtain ⟨g4, t4, q1, q2, q3⟩ := sk.out; exact ⟨⟨k + 1, g4, t4, by omega, by go_num, q1, q2, q3⟩, by simp [intOf]; omega⟩)
      · have hge : ¬ (k : Int) < (l.length : Int) := by omega
        have hleft := hcalm.out.1
        replace hleft := hid hleft
        have hnm := names_any wr hIs.out.1
        rw [Is.names hIs.out] at hnm
        have hfew := Is.few hIs.out
        have hris := hid (Is.rising hIs.out)
        have hfile := hid (fun f hf => Is.file hIs.out (f := f) hf)
        replace hnm := hid hnm
        unfold ptr at hnm
        clear hcalm hfit hk hA
        go_wp2_with fail
        refine hnm.out.mono ?_
        rintro e w5 ⟨na, nc, rfl, hrow, hb5⟩
        have bes0 := hid (Bes.start (hIs.out.below hb5) (low' hL.out hIs.out.2.2 hb5) (ownsRow_base hrow fun k hk => Nat.le_trans hIs.out.2.2 (hrow.lt k hk).1) (fun b hb => hIs.out.fresh (hrow.lt b hb).1))
        clear hnm hrow hb5 hIs hL
        have elen : (t.l.map Ent.name).length = t.l.length := by simp
        rw [elen] at bes0 ⊢
        clear elen
        go_wp2_with fail
        go_loopw [9, 10, 11] (fun wv sv iv wr => ∃ (j : Nat) (wa : Option Addr) (wc : Nat) (vs : List Value) (sa : Option Addr) (sc : Nat), j ≤ t.l.length ∧ iv = .int .i64 j ∧ wv = .slice wa j wc ∧ sv = .slice sa j sc ∧ Bes w.heap.size w wr sb g t (.slice na t.l.length nc) (t.l.map Ent.name) (.slice wa j wc) vs ((t.l.map Ent.b).take j) (.slice sa j sc) ((t.l.map Ent.s).take j)) (fun _ _ iv _ => t.l.length - (intOf iv).toNat)
        case atStart => exact ⟨0, none, 0, [], none, 0, by omega, rfl, rfl, rfl, bes0.out⟩
        case round =>
          obtain ⟨j, wa, wc, vs, sa, sc, hj, rfl, rfl, rfl, hbes⟩ := hrel
          replace hbes := hid hbes
          clear bes0
          by_cases hlt : j < t.l.length
          · have hlt' : (j : Int) < (t.l.length : Int) := by omega
            have hjf := List.getElem?_eq_getElem hlt
            have hfl := hfile.out _ (List.getElem_mem hlt)
            obtain ⟨nb, nc', en, hcell, hz1, hz2, hz3⟩ := row_at hbes.out.nrow (j := j) (u := str t.l[j].name) (by simp [hlt])
            injection en with en1 en2 en3
            clear en2
            subst en1 en3
            clear hz1 hz2 hz3
            have hnow : Hid (∀ W, Below wr.heap.size wr W → W.cell? ⟨nb, j, none⟩ = some (str t.l[j].name)) := fun W hW => (hW.cell (p := ⟨nb, j, none⟩) (World.block_lt_of_cell? wr ⟨nb, j, none⟩ hcell)).trans hcell
            have rd := hid (read_t wr hbes.out.is t.l[j].name (by unfold maxLen; omega) (read_at hleft.out hris.out hjf))
            have sn := hid (fun W hW => synced_t W (hbes.out.is.below hW) t.l[j].name (by unfold maxLen; omega) (get_at hleft.out hris.out (fun f => f.s) hjf))
            have tk1 : Hid ((t.l.map Ent.b).take (j + 1) = (t.l.map Ent.b).take j ++ [t.l[j].b]) := by show _ = _; rw [List.take_succ_eq_append_getElem (by simpa using hlt)]; simp
            have tk2 : Hid ((t.l.map Ent.s).take (j + 1) = (t.l.map Ent.s).take j ++ [t.l[j].s]) := by show _ = _; rw [List.take_succ_eq_append_getElem (by simpa using hlt)]; simp
            have ln1 : Hid (((t.l.map Ent.b).take j).length = j) := by show _ = _; simp; omega
            have ln2 : Hid (((t.l.map Ent.s).take j).length = j) := by show _ = _; simp; omega
            clear hjf hfl
            generalize t.l[j] = f at *
            unfold ptr at rd sn
            unfold str at hcell hnow rd sn
            go_wp2_with fail
            refine rd.out.mono ?_
            rintro e w6 ⟨ra, rc, rfl, hr6, hb6⟩
            have b6 := hid (hbes.out.below hb6)
            have hc6 := hnow.out w6 hb6
            have r6 := hid (And.intro (ownsRow_base hr6 fun k hk => Nat.le_trans hbes.out.is.2.2 (hr6.lt k hk).1) (fun b hb => hbes.out.is.fresh (hr6.lt b hb).1))
            have sn6 := hid (sn.out w6 hb6)
            clear hr6 hb6 rd sn hbes hcell hnow
            go_wp2_with fail
            refine sn6.out.mono ?_
            rintro e w7 ⟨rfl, hb7⟩
            obtain ⟨wa', wc', w8, hrun, b8⟩ := (b6.out.below hb7).pushW (ownsRow_block r6.out.1 fun k hk => hb7.block k (r6.out.1.lt k hk).2) (fun b hb => r6.out.2 b hb) (by rw [ln1.out]; omega)
            obtain ⟨sa', sc', w9, hrun2, b9⟩ := b8.pushS f.s (by rw [ln2.out]; omega)
            rw [ln1.out] at hrun b9
            rw [ln2.out] at hrun2 b9
            replace b9 := hid b9
            clear b6 r6 sn6 hb7 b8
            go_wp2_with (first | (at_builtin; refine wpList_append_run _ rfl _ _ 61 rfl _ _ _ _ rfl rfl hrun ?_) | (at_builtin; refine wpList_append_run _ rfl _ _ 31 rfl _ _ _ _ rfl rfl hrun2 ?_))
            have b9' := b9.out
            rw [← tk1.out, ← tk2.out] at b9'
            exact ⟨⟨j + 1, wa', wc', _, sa', sc', by omega, by go_num, rfl, rfl, b9'⟩, by simp [intOf]; omega⟩
          · have hge2 : ¬ (j : Int) < (t.l.length : Int) := by omega
            obtain rfl : j = t.l.length := by omega
            have e1 : (t.l.map Ent.b).take t.l.length = t.l.map Ent.b := List.take_of_length_le (by simp)
            have e2 : (t.l.map Ent.s).take t.l.length = t.l.map Ent.s := List.take_of_length_le (by simp)
            rw [e1, e2] at hbes
            have hkn := hid (Known.start (l := t.l) fun f hf => (hfile.out f hf).1)
            have hS : (t.l.map Ent.s).length = t.l.length := by simp
            have hN : (t.l.map Ent.name).length = t.l.length := by simp
            replace hS := hid hS
            replace hN := hid hN
            have hst : Hid (∃ (g' : Gs) (t' : St) (vs : List Value), t'.left = -1 ∧ Known 0 (t.l.map Ent.s) (t.l.map Ent.name) t'.l ∧ Bes w.heap.size w wr sb g' t' (.slice na t.l.length nc) (t.l.map Ent.name) (.slice wa t.l.length wc) vs (t'.l.map Ent.b) (.slice sa t.l.length sc) (t.l.map Ent.s)) := ⟨g, t, vs, hleft.out, hkn.out, hbes.out⟩
            clear e1 e2 hkn hbes hris hfile hleft
            generalize t.l.map Ent.s = S at *
            generalize t.l.map Ent.name = ns at *
            generalize t.l.length = n at *
            have hcr : Hid (∀ wr g' t', Is w.heap.size wr sb g' t' → Below w.heap.size w wr → Calls Try.prog 22 #[.pointer (some ⟨sb, 0, none⟩), .slice ka keep.length kc] wr fun e w' => e = .returned (.tuple #[]) ∧ ∃ g4, Step w.heap.size sb wr w' g' g4 ∧ Is w.heap.size w' sb g4 (t'.crash keep)) := by
              intro wr g' t' h hL
              refine crash_t wr h _ keep (hI.out.kept fun hne b hb hl => hL.block b hl) fun hne b hb hf => ?_
              have := hI.out.lt hne hb
              have := h.1.base b hf
              omega
            clear hge hge2 hfew hlt hj
            go_wp2_with fail
            go_loopw [16] (fun iv wr => ∃ (k : Nat) (g' : Gs) (t' : St) (vs : List Value), k ≤ 2 ∧ iv = .int .i64 k ∧ t'.left = -1 ∧ Known k S ns t'.l ∧ Bes w.heap.size w wr sb g' t' (.slice na n nc) ns (.slice wa n wc) vs (t'.l.map Ent.b) (.slice sa n sc) S) (fun iv _ => 2 - (intOf iv).toNat)
            case atStart =>
              obtain ⟨g', t', vs, q1, q2, q3⟩ := hst.out
              exact ⟨0, g', t', vs, by omega, rfl, q1, q2, q3⟩
            case round =>
              obtain ⟨k, g', t', vs, hk, rfl, hleft, hkn, hbes⟩ := hrel
              replace hbes := hid hbes
              replace hkn := hid hkn
              replace hleft := hid hleft
              clear hst
              by_cases hk2 : k < 2
              · have hk2' : (k : Int) < 2 := by omega
                have hcr1 := hid (hcr.out _ _ _ hbes.out.is hbes.out.low)
                go_wp2_with fail
                refine hcr1.out.mono ?_
                rintro e w6 ⟨rfl, g4, hs4, h4⟩
                have b6 := hid (hbes.out.step hs4 h4)
                have hnm := names_any w6 h4.1
                rw [Is.names h4] at hnm
                have hkn4 := hid (hkn.out.next keep)
                have enm : (t'.crash keep).l.map Ent.name = ns := hkn4.out.nm
                rw [enm] at hnm
                unfold ptr at hnm
                replace hnm := hid hnm
                clear hs4 h4 enm hcr1 hbes
                have hl4 : Hid ((t'.crash keep).left = -1) := rfl
                have hfall := hid (hkn.out.fall keep)
                have hlen4 : Hid ((t'.crash keep).l.length = t'.l.length) := crashL_length _ _
                have hl' : Hid (t'.l.length = n) := by show _ = _; rw [← hkn.out.len, hS.out]
                change Hid (∀ (j : Nat) (f : Ent), t'.l[j]? = some f → ∃ m, S.getD j 0 ≤ m ∧ m ≤ f.b.length ∧ (t'.crash keep).l[j]? = some ⟨f.name, f.b.take m, m⟩ ∧ (0 < k → m = f.b.length)) at hfall
                change Hid (Known (k + 1) S ns (t'.crash keep).l) at hkn4
                generalize t'.crash keep = t4 at *
                go_wp2_with fail
                refine hnm.out.mono ?_
                rintro e w7 ⟨ma, mc, rfl, hrow, hb7⟩
                have b7 := hid (b6.out.below hb7)
                have now7 := hid (And.intro (ownsRow_base hrow fun k hk => Nat.le_trans b6.out.is.2.2 (hrow.lt k hk).1) (fun b hb => b6.out.is.fresh (hrow.lt b hb).1))
                rw [hN.out] at now7 ⊢
                have hris := hid (Is.rising b7.out.is)
                have hfile := hid (fun f hf => Is.file b7.out.is (f := f) hf)
                have hn64 : n ≤ 64 := by have := Is.few b7.out.is; rw [hlen4.out, hl'.out] at this; exact this
                have est : (t4.l.map Ent.b).take 0 ++ (t'.l.map Ent.b).drop 0 = t'.l.map Ent.b := by simp
                have elb : Hid ((t4.l.map Ent.b).length = (t'.l.map Ent.b).length) := by show _ = _; simp [hlen4.out]
                have ela : Hid ((t'.l.map Ent.b).length = n) := by show _ = _; simp [hl'.out]
                have b7' := b7.out
                rw [← est] at b7'
                replace b7' := hid b7'
                clear hrow hb7 b6 hnm est b7
                go_wp2_with fail
                go_loopw [18] (fun iv wr => ∃ (j : Nat) (vs : List Value), j ≤ n ∧ iv = .int .i64 j ∧ Bes w.heap.size w wr sb g4 t4 (.slice na n nc) ns (.slice wa n wc) vs ((t4.l.map Ent.b).take j ++ (t'.l.map Ent.b).drop j) (.slice sa n sc) S ∧ wr.ownsRow w.heap.size 9 1 (.slice ma n mc) ns.length (ns.map str) ∧ ∀ b, (Value.slice ma n mc).ownBlock = some b → ¬ foot sb g4 b) (fun iv _ => n - (intOf iv).toNat)
                case atStart => exact ⟨0, vs, by omega, rfl, b7'.out, by rw [hN.out]; exact now7.out.1, now7.out.2⟩
                case round =>
                  obtain ⟨j, us, hj, rfl, hbes, hnow, hfar⟩ := hrel
                  replace hbes := hid hbes
                  replace hnow := hid hnow
                  replace hfar := hid hfar
                  clear b7' now7
                  by_cases hlt : j < n
                  · have hlt' : (j : Int) < (n : Int) := by omega
                    obtain ⟨f, hf⟩ : ∃ f, t'.l[j]? = some f := ⟨_, List.getElem?_eq_getElem (by rw [hl'.out]; exact hlt)⟩
                    obtain ⟨m, hm1, hm2, hf4, hm3⟩ := hfall.out j f hf
                    have hbig : f.name.length ≤ 32 := (hfile.out _ (List.mem_of_getElem? hf4)).2.2.2
                    have hnj : ns[j]? = some f.name := by rw [← hkn.out.nm, List.getElem?_map, hf]; rfl
                    have hSj : S[j]? = some (S.getD j 0) := by
                      have : j < S.length := by rw [hS.out]; exact hlt
                      simp [List.getD, this]
                    obtain ⟨nb, nc', en, k1, hz1, hz2, hz3⟩ := row_at hbes.out.nrow (j := j) (u := str f.name) (by rw [List.getElem?_map, hnj]; rfl)
                    injection en with en1 en2 en3
                    subst en1 en3
                    clear hz1 hz2 hz3 en2
                    obtain ⟨mb, mc', en, k2, hz1, hz2, hz3⟩ := row_at hnow.out (j := j) (u := str f.name) (by rw [List.getElem?_map, hnj]; rfl)
                    injection en with en1 en2 en3
                    subst en1 en3
                    clear hz1 hz2 hz3 en2
                    obtain ⟨sb2, sc', en, k3, hz1, hz2, hz3⟩ := row_at hbes.out.srow (j := j) (u := .int .i64 ((S.getD j 0 : Nat) : Int)) (by rw [List.getElem?_map, hSj]; rfl)
                    injection en with en1 en2 en3
                    subst en1 en3
                    clear hz1 hz2 hz3 en2
                    have hmid := mid_at (t'.l.map Ent.b) (t4.l.map Ent.b) elb.out j f.b (by rw [List.getElem?_map, hf]; rfl)
                    have hmidl := mid_length (t'.l.map Ent.b) (t4.l.map Ent.b) elb.out j (by rw [ela.out]; exact hj)
                    rw [ela.out] at hmidl
                    have hset := set_step (t'.l.map Ent.b) (t4.l.map Ent.b) elb.out j (f.b.take m) (by rw [List.getElem?_map, hf4]; rfl)
                    replace hset := hid hset
                    obtain ⟨u, hu, hurow, hufar⟩ := hbes.out.els j f.b hmid
                    obtain ⟨ua, uc, rfl⟩ := row_slice hurow
                    have hcap : f.b.length ≤ uc ∧ uc ≤ 9223372036854775807 := by
                      rcases row_form hurow with ⟨e1, e2⟩ | ⟨gg, cc, e1, e2, e3⟩
                      · rw [e2] at e1 ⊢; cases e1; simp
                      · cases e1; unfold maxLen at e3; omega
                    obtain ⟨wb, wc', en, k4, k5, hz2, hz3⟩ := row_at hbes.out.wrow (j := j) hu
                    injection en with en1 en2 en3
                    subst en1 en3
                    clear hz2 hz3 en2 hmid
                    have etk : (f.b.take m).length = m := by simp; omega
                    have rd := read_t (bs := f.b.take m) (r := 0) wr hbes.out.is f.name (by unfold maxLen; omega) (read_at (f := ⟨f.name, f.b.take m, m⟩) hl4.out hris.out hf4)
                    have sn := hid (fun W hW => synced_t (x := (m : Int)) (r := 0) W (hbes.out.is.below hW) f.name (by unfold maxLen; omega) (get_at (f := ⟨f.name, f.b.take m, m⟩) hl4.out hris.out (fun f => f.s) hf4))
                    rw [etk] at rd
                    replace rd := hid rd
                    -- what every later world has
                    have NX : Hid (∀ W, Below wr.heap.size wr W → W.cell? ⟨nb, j, none⟩ = some (str f.name) ∧ W.cell? ⟨mb, j, none⟩ = some (str f.name) ∧ W.cell? ⟨sb2, j, none⟩ = some (.int .i64 ((S.getD j 0 : Nat) : Int)) ∧ W.cell? ⟨wb, j, none⟩ = some (.slice ua f.b.length uc) ∧ W.frozen? ⟨wb, j, none⟩ = false) := fun W hW => ⟨(hW.cell (p := ⟨nb, j, none⟩) (World.block_lt_of_cell? wr ⟨nb, j, none⟩ k1)).trans k1, (hW.cell (p := ⟨mb, j, none⟩) (World.block_lt_of_cell? wr ⟨mb, j, none⟩ k2)).trans k2, (hW.cell (p := ⟨sb2, j, none⟩) (World.block_lt_of_cell? wr ⟨sb2, j, none⟩ k3)).trans k3, (hW.cell (p := ⟨wb, j, none⟩) (World.block_lt_of_cell? wr ⟨wb, j, none⟩ k4)).trans k4, (World.frozen?_of_block (a := ⟨wb, j, none⟩) (hW.block wb (World.block_lt_of_cell? wr ⟨wb, j, none⟩ k4))).trans k5⟩
                    have fin : Hid (∀ ra rc w6 w7, w6.ownsRow wr.heap.size 5 1 (.slice ra m rc) m ((f.b.take m).map bv) → Below wr.heap.size wr w6 → Below w6.heap.size w6 w7 →
                        (∀ q, Calls Try.prog 29 #[.slice ua f.b.length uc, .slice ra m rc] (w7.drewN q) fun e w' => e = .returned (.bool true) ∧ ∃ q', w' = (w7.drewN q).drewN q') ∧
                        ∀ q, Bes w.heap.size w ((w7.drewN q).setCell ⟨wb, j, none⟩ (.slice ra m rc)) sb g4 t4 (.slice (some ⟨nb, 0, none⟩) n nc) ns (.slice (some ⟨wb, 0, none⟩) n wc) (us.set j (.slice ra m rc)) ((t4.l.map Ent.b).take (j + 1) ++ (t'.l.map Ent.b).drop (j + 1)) (.slice (some ⟨sb2, 0, none⟩) n sc) S ∧ ((w7.drewN q).setCell ⟨wb, j, none⟩ (.slice ra m rc)).ownsRow w.heap.size 9 1 (.slice (some ⟨mb, 0, none⟩) n mc) ns.length (ns.map str)) := by
                      intro ra rc w6 w7 hr hb6 hb7
                      have hb67 : Below wr.heap.size wr w7 := hb6.trans (hb7.mono hb6.size)
                      have hr7 := ownsRow_block hr fun k hk => hb7.block k (hr.lt k hk).2
                      have hur7 := ownsRow_block hurow fun k hk => hb67.block k (hurow.lt k hk).2
                      have hr7' : w7.ownsRow w.heap.size 5 1 (.slice ra (f.b.take m).length rc) (f.b.take m).length ((f.b.take m).map bv) := by rw [etk]; exact ownsRow_base hr7 fun k hk => Nat.le_trans hbes.out.is.2.2 (hr7.lt k hk).1
                      refine ⟨fun q => ?_, fun q => ?_⟩
                      · have i2 := isB_row hr7'
                        rw [etk] at i2
                        exact begins_any (w := w7.drewN q) (isB_row hur7) hm2 i2 hcap.1 hcap.2
                      · have hbq : Below wr.heap.size wr (w7.drewN q) := ⟨hb67.os, hb67.tape, hb67.output, hb67.size, hb67.block⟩
                        have bq := hbes.out.below hbq
                        rw [← hmidl] at bq
                        have bs := bq.setW (bs := f.b.take m) (a' := ra) (c' := rc) j hr7' (fun k hk => hbes.out.is.fresh (hr.lt k (by rw [etk] at hk; exact hk)).1)
                        rw [hset.out, etk] at bs
                        have hl2 : ((t4.l.map Ent.b).take (j + 1) ++ (t'.l.map Ent.b).drop (j + 1)).length = n := by rw [mid_length _ _ elb.out _ (by rw [ela.out]; exact hlt), ela.out]
                        rw [hl2, hmidl] at bs
                        refine ⟨bs, ?_⟩
                        have hn7 : (w7.drewN q).ownsRow w.heap.size 9 1 (.slice (some ⟨mb, 0, none⟩) n mc) ns.length (ns.map str) := ownsRow_block hnow.out fun k hk => hbq.block k (hnow.out.lt k hk).2
                        exact ownsRow_block hn7 fun k hk => heap_set _ _ _ _ _ fun e => rows_apart hn7 (bq.wrow) (by decide) hk (by rw [e]; rfl)
                    have hm1' : decide (m < S.getD j 0) = false := by simp only [decide_eq_false_iff_not]; omega
                    have hm2' : Hid (m ≤ f.b.length) := hm2
                    have hfar' := hid hfar.out
                    generalize S.getD j 0 = sj at *
                    unfold str at NX k1 k2
                    unfold ptr str at rd sn
                    replace hm3 := hid hm3
                    clear hbes hnow hurow hufar hu hcap k3 k4 k5 hmidl hf hf4 hbig hnj hSj etk hm2 hm1
                    go_wp2_with fail
                    refine rd.out.mono ?_
                    rintro e w6 ⟨ra, rc, rfl, hr6, hb6⟩
                    obtain ⟨p1, p2, p3, p4, p5⟩ := NX.out w6 hb6
                    have sn6 := hid (sn.out w6 hb6)
                    replace hr6 := hid (And.intro hr6 hb6)
                    clear rd sn hb6 k1 k2
                    go_wp2_with fail
                    refine sn6.out.mono ?_
                    rintro e w7 ⟨rfl, hb7⟩
                    obtain ⟨r1, r2⟩ := fin.out ra rc w6 w7 hr6.out.1 hr6.out.2 hb7
                    obtain ⟨q1, q2, q3, q4, q5⟩ := NX.out w7 (hr6.out.2.trans (hb7.mono hr6.out.2.size))
                    replace r1 := hid r1
                    replace r2 := hid r2
                    clear fin NX hr6 hb7 sn6 p1 p2 p3 p4 p5
                    go_wp2
                    go_quiet ((go_at_call 29; exact Calls.quiet_of (r1.out _)))
                    replace r2 := hid (r2.out nq)
                    by_cases hk0 : k = 0
                    · subst hk0
                      go_wp2
                      exact ⟨⟨j + 1, _, by omega, by go_num, r2.out.1, r2.out.2, hfar'.out⟩, by simp [intOf]; omega⟩
                    · obtain rfl : k = 1 := by omega
                      have em : m = f.b.length := hm3.out (by decide)
                      subst em
                      go_wp2
                      exact ⟨⟨j + 1, _, by omega, by go_num, r2.out.1, r2.out.2, hfar'.out⟩, by simp [intOf]; omega⟩
                  · have hge : ¬ (j : Int) < (n : Int) := by omega
                    obtain rfl : j = n := by omega
                    have e1 : (t4.l.map Ent.b).take j ++ (t'.l.map Ent.b).drop j = t4.l.map Ent.b := by
                      rw [List.take_of_length_le (by rw [elb.out, ela.out]; exact Nat.le_refl _), List.drop_of_length_le (by rw [ela.out]; exact Nat.le_refl _), List.append_nil]
                    rw [e1] at hbes
                    clear e1 hnow hfar
                    go_wp2
                    exact ⟨⟨k + 1, g4, t4, us, by omega, by go_num, hl4.out, hkn4.out, hbes.out⟩, by simp [intOf]; omega⟩
              · have hk2' : ¬ (k : Int) < 2 := by omega
                have L9 := hid hbes.out.low
                clear hbes hkn hcr
                go_wp2_with (go_at_call 20; refine (haw.out _).mono ?_; rintro e w9 ⟨rfl, hb9⟩; replace hb9 := hid (low' L9.out L9.out.size hb9))
                go_ret
                exact ⟨rfl, hb9.out⟩
end filesCrash
end Go.Proofs.Ytinnegkkfaaceaa
