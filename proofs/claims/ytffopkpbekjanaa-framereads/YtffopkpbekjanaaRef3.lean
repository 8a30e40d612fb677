/- Contract of the document's All. -/
import Derived.Test.YtffopkpbekjanaaRef2
import Derived.Test.YtffopkpbekjanaaFd
namespace Go.Proofs.Ytffopkpbekjanaa
open Go.RowKit

theorem sliceInfo : (Try.prog.info? 22).map (fun i => (i.zero, i.size, i.bytes)) = some (some (.slice none 0 0), 1, 24) := by kernel_rfl
/-- values that are rows of one's own. -/
def HoldsO (B : Nat) (w : World) (vs : List Value) (l : List (List Int)) : Prop := vs.length = l.length ∧ ∀ i, i < l.length → ∃ u, vs[i]? = some u ∧ Own B w u (l.getD i [])
theorem HoldsO.keep {B : Nat} {w w' : World} {vs : List Value} {l : List (List Int)} (h : HoldsO B w vs l) (hk : ∀ (b : Nat) (c : Array Value), w.heap[b]? = some (Obj.cells c 5) → w'.heap[b]? = w.heap[b]?) : HoldsO B w' vs l := by
  refine ⟨h.1, fun i hi => ?_⟩
  obtain ⟨u, h1, h2⟩ := h.2 i hi
  refine ⟨u, h1, h2.keep fun b hb => ?_⟩
  obtain ⟨c, hc⟩ := row_type h2.2 hb
  exact hk b c hc
theorem HoldsO.snoc {B : Nat} {w : World} {vs : List Value} {l : List (List Int)} (h : HoldsO B w vs l) {u : Value} {p : List Int} (hu : Own B w u p) : HoldsO B w (vs ++ [u]) (l ++ [p]) := by
  refine ⟨by simp [h.1], fun i hi => ?_⟩
  simp at hi
  by_cases hl : i < l.length
  · obtain ⟨x, h1, h2⟩ := h.2 i hl
    refine ⟨x, by rw [List.getElem?_append_left (by rw [h.1]; exact hl)]; exact h1, ?_⟩
    have : (l ++ [p]).getD i [] = l.getD i [] := by simp [List.getD, List.getElem?_append_left hl]
    rw [this]; exact h2
  · obtain rfl : i = l.length := by omega
    refine ⟨u, by rw [List.getElem?_append_right (by rw [h.1]; exact Nat.le_refl _), h.1]; simp, ?_⟩
    have : (l ++ [p]).getD l.length [] = p := by simp [List.getD]
    rw [this]; exact hu
theorem isP_rowO {w : World} {B B' n : Nat} {v : Value} {vs : List Value} {l : List (List Int)} (hr : w.ownsRow B 22 1 v n vs) (h : HoldsO B' w vs l) : IsP w v l := by
  have hn : n = l.length := by have := hr.1; rw [h.1] at this; omega
  subst hn
  rcases hr.2 with ⟨e, h0⟩ | ⟨g, cap, cur, e, _, _, h1, h2, _⟩
  · exact ⟨by rw [h0]; simp, none, 0, by rw [e, h0], .inl (List.eq_nil_of_length_eq_zero h0)⟩
  · refine ⟨by omega, _, cap, e, .inr ⟨g, 0, rfl, fun i hi => ?_⟩⟩
    obtain ⟨u, h3, h4⟩ := h.2 i hi
    have := hr.cells (g := g) (by rw [e]; rfl) i u h3
    rw [Addr.add_lit] at this
    exact ⟨u, this, h4.isB⟩
/-- append of one slice to a row of one's own. -/
theorem pushS_run {w : World} {base n : Nat} {v : Value} {xs : List Value} (hr : w.ownsRow base 22 1 v n xs) (a : Option Addr) (m c : Nat) (hn : n ≤ 1000000) (hb : base ≤ w.heap.size) :
    ∃ a' c' w', (∀ ty, (Builtin.append_ #[33, 33] ty #[v, .slice (some ⟨w.heap.size, 0, none⟩) 1 1]).run Try.prog (w.alloc (.cells #[.slice a m c] 22)) = .ok (.slice a' (n + 1) c') w') ∧ w'.ownsRow base 22 1 (.slice a' (n + 1) c') (n + 1) (xs ++ [.slice a m c]) ∧ (w.alloc (.cells #[.slice a m c] 22)).grownBy w' v.ownBlock := by
  obtain ⟨i0, hi, hz0, hz1, hz2⟩ := info_parts sliceInfo
  obtain ⟨v', w', hrun, h3, h4, _, _⟩ := run_append_own_at (P := Try.prog) (w.alloc (.cells #[.slice a m c] 22)) base 33 0 22 i0 (.slice none 0 0) 1 24 Try.underlying33 hi hz0 hz1 hz2 rfl (by decide) v n xs (hr.alloc _) ⟨w.heap.size, 0, none⟩ 1 1 [.slice a m c] rfl (cell_one_new _ _ _) (by intro u hu; simp at hu; subst hu; rfl) (by unfold maxLen; omega) (by omega) (by simp; omega)
  obtain ⟨a', c', rfl⟩ := row_slice h3
  exact ⟨a', c', w', fun ty => hrun, h3, h4⟩
theorem rows_ge (l : List (List Int)) : l.length ≤ (rows l).length := by
  induction l with
  | nil => simp
  | cons p l ih => rw [rows_cons, List.length_append, List.length_cons]; have := fr_pos p; omega
theorem take_one (l : List (List Int)) (k : Nat) (hk : k < l.length) : l.take (k + 1) = l.take k ++ [l.getD k []] := by
  rw [List.take_succ_eq_append_getElem hk]
  simp [List.getD, List.getElem?_eq_getElem hk]
set_option maxHeartbeats 2000000 in
theorem rall (a : Option Addr) (c : Nat) (zs : List Int) (w : World) (h : IsB w (.slice a zs.length c) zs) (hl : zs.length ≤ 1000000) {l : List (List Int)} {r : List Int} (hr : Reads zs l r) :
    Calls Try.prog 15 #[.slice a zs.length c] w fun e w' => ∃ a' c' vs, e = .returned (.tuple #[.slice a' l.length c', .int .i64 ((rows l).length : Int)]) ∧ w'.ownsRow w.heap.size 22 1 (.slice a' l.length c') l.length vs ∧ HoldsO w.heap.size w' vs l ∧ Below w.heap.size w w' := by
  obtain ⟨_, hmc, hcm⟩ := h.bound
  have hzl : (rows l).length ≤ zs.length := by
    have := congrArg List.length hr.1
    rw [List.length_append] at this; omega
  have hge := rows_ge l
  have HL := hid (fun k => rows_take_le l k)
  replace h := hid h
  replace hr := hid hr
  go_enter Try.func15, Try.ntmps15
  go_wp2
  go_loopw [4, 5] (fun ov av wr => ∃ (k : Nat) (oa : Option Addr) (oc : Nat) (vs : List Value), k ≤ l.length ∧ av = .int .i64 ((rows (l.take k)).length : Int) ∧ ov = .slice oa k oc ∧ wr.ownsRow w.heap.size 22 1 (.slice oa k oc) k vs ∧ HoldsO w.heap.size wr vs (l.take k) ∧ Below w.heap.size w wr) (fun _ av _ => zs.length - (intOf av).toNat)
  case atStart => exact ⟨0, none, 0, [], by omega, by simp [rows], rfl, World.ownsRow_nil _ _ _ _, ⟨rfl, by simp⟩, Below.refl _ _⟩
  case round =>
    obtain ⟨k, oa, oc, vs, hk, rfl, rfl, hO, hH, hb⟩ := hrel
    have hle := HL.out k
    have hwr := h.out.below hb
    have hcut := hwr.cut (rows (l.take k)).length (by omega)
    have hcl : (zs.drop (rows (l.take k)).length).length = zs.length - (rows (l.take k)).length := by simp
    rw [← hcl] at hcut
    have hrn := hid (rnext _ _ _ _ hcut (by rw [hcl]; omega))
    rw [hcl] at hrn
    by_cases hlt : k < l.length
    · have hn := reads_at hr.out k hlt
      have hsu := congrArg List.length (rows_take_succ l k hlt)
      rw [List.length_append] at hsu
      have hle1 := HL.out (k + 1)
      have hp5 := fr_pos (l.getD k [])
      have fin : Hid (∀ w1 a' c', Own wr.heap.size w1 (.slice a' (l.getD k []).length c') (l.getD k []) → Below wr.heap.size wr w1 → ∃ a3 c3 w3, (∀ ty, (Builtin.append_ #[33, 33] ty #[.slice oa k oc, .slice (some ⟨w1.heap.size, 0, none⟩) 1 1]).run Try.prog (w1.alloc (.cells #[.slice a' (l.getD k []).length c'] 22)) = .ok (.slice a3 (k + 1) c3) w3) ∧ w3.ownsRow w.heap.size 22 1 (.slice a3 (k + 1) c3) (k + 1) (vs ++ [.slice a' (l.getD k []).length c']) ∧ HoldsO w.heap.size w3 (vs ++ [.slice a' (l.getD k []).length c']) (l.take (k + 1)) ∧ Below w.heap.size w w3) := by
        intro w1 a' c' o1 b1
        have hO1 := ownsRow_block hO fun j hj => b1.block j (hO.lt j hj).2
        have hH1 := hH.keep (w' := w1) fun b c hc => b1.block b (lt_of_block hc)
        have hb1 := low' hb b1
        obtain ⟨a3, c3, w3, r3, x3, g3⟩ := pushS_run hO1 a' (l.getD k []).length c' (by omega) hb1.size
        have hb2 := low' hb1 (alloc_below w1 (.cells #[.slice a' (l.getD k []).length c'] 22))
        have kp : ∀ (b : Nat) (c : Array Value), w1.heap[b]? = some (Obj.cells c 5) → w3.heap[b]? = w1.heap[b]? := fun b c hc => by
          rw [g3.block b (by have := lt_of_block hc; simp; omega) (fun e => ?_), (alloc_below w1 _).block b (lt_of_block hc)]
          obtain ⟨c2, h2⟩ := row_type hO1 e.symm
          rw [hc] at h2
          simp at h2
        refine ⟨a3, c3, w3, r3, x3, ?_, hb2.grown g3 hb2.size (fun j hj => (hO1.lt j hj).1)⟩
        rw [take_one l k hlt]
        exact (hH1.snoc (o1.base hb.size)).keep kp
      replace hn := hid hn
      generalize hpe : l.getD k [] = p at *
      replace hpe := hid hpe
      obtain ⟨u, hu⟩ : ∃ u, u = (fr p).length := ⟨_, rfl⟩
      rw [← hu] at hsu hp5 hn
      replace hu := hid hu
      generalize hs : (rows (l.take k)).length = s at *
      generalize hs1 : (rows (l.take (k + 1))).length = s1 at *
      replace hs := hid hs
      replace hs1 := hid hs1
      replace hsu := hid hsu
      replace hb := hid hb
      clear hO hH hcut hwr hcl
      have hcs : ¬ c = s := by have := hsu.out; omega
      rw [if_neg hcs] at hrn
      have hrn' : Hid (Calls Try.prog 13 #[.slice (a.map fun q => ⟨q.block, q.off + s, q.spot⟩) (zs.length - s) (c - s)] wr fun e w' => ∃ a' c', e = .returned (.tuple #[.slice a' p.length c', .int .i64 (u : Int), .int .i64 0]) ∧ Own wr.heap.size w' (.slice a' p.length c') p ∧ Below wr.heap.size wr w') := by
        refine hrn.out.mono ?_
        rintro e w' ⟨hbw, ⟨h1, _⟩ | ⟨p', u', a', c', h1, h2, h3⟩⟩
        · rw [hn.out] at h1; cases h1
        · rw [hn.out] at h1; cases h1; exact ⟨a', c', h2, h3, hbw⟩
      obtain ⟨ab, ao, rfl, _⟩ := (h.out.at).2.2.2 (by have := hsu.out; omega)
      have hsc : (s : Int) ≤ (zs.length : Int) := by omega
      clear hrn
      have hrn2 := hrn'.out
      simp only [Option.map_some] at hrn2
      replace hrn2 := hid hrn2
      clear hrn'
      go_wp2_with fail
      refine hrn2.out.mono ?_
      rintro e w1 ⟨a', c', rfl, o1, b1⟩
      obtain ⟨a3, c3, w3, hrun, x3, H3, b3⟩ := fin.out w1 a' c' o1 b1
      have hu1 := hsu.out
      have hsum : (s : Int) + (u : Int) = (s1 : Int) := by omega
      replace hsum := hid hsum
      have hb9 : (s : Int) + (u : Int) ≤ 9223372036854775807 := by omega
      replace x3 := hid x3
      replace H3 := hid H3
      replace b3 := hid b3
      clear o1 b1 fin hrn2 hu1
      go_wp2_with (at_builtin; refine wpList_append_run _ rfl _ _ 33 rfl _ _ _ _ rfl rfl hrun ?_)
      refine ⟨⟨k + 1, a3, c3, _, by omega, ?_, rfl, x3.out, H3.out, b3.out⟩, ?_⟩
      · rw [hs1.out, hsum.out]
      · have := hsum.out; have := hsu.out; simp [intOf]; omega
    · obtain rfl : k = l.length := by omega
      have hn := hid (reads_end hr.out)
      simp only [List.take_length] at hO hH hle hcut hrn ⊢
      have hrn' : Hid (Calls Try.prog 13 #[.slice (if c = (rows l).length then a else a.map fun q => ⟨q.block, q.off + (rows l).length, q.spot⟩) (zs.length - (rows l).length) (c - (rows l).length)] wr fun e w' => e = .returned (.tuple #[.slice none 0 0, .int .i64 0, .int .i64 40]) ∧ Below wr.heap.size wr w') := by
        refine hrn.out.mono ?_
        rintro e w' ⟨hbw, ⟨h1, h2⟩ | ⟨p', u', a', c', h1, _⟩⟩
        · exact ⟨h2, hbw⟩
        · rw [hn.out] at h1; cases h1
      have fin : Hid (∀ w1, Below wr.heap.size wr w1 → w1.ownsRow w.heap.size 22 1 (.slice oa l.length oc) l.length vs ∧ HoldsO w.heap.size w1 vs l ∧ Below w.heap.size w w1) := fun w1 b1 => ⟨ownsRow_block hO fun j hj => b1.block j (hO.lt j hj).2, hH.keep (w' := w1) fun b c hc => b1.block b (lt_of_block hc), low' hb b1⟩
      clear hO hH hcut hrn hwr hcl hb
      generalize hs : (rows l).length = s at *
      have hsc : (s : Int) ≤ (zs.length : Int) := by omega
      replace hs := hid hs
      by_cases hcs : c = s
      · subst hcs
        have hrn2 := hrn'.out
        rw [if_pos rfl, show zs.length - c = 0 by omega, Nat.sub_self] at hrn2
        replace hrn2 := hid hrn2
        clear hrn'
        go_wp2_with fail
        refine hrn2.out.mono ?_
        rintro e w1 ⟨rfl, b1⟩
        obtain ⟨q1, q2, q3⟩ := fin.out w1 b1
        replace q1 := hid q1
        replace q2 := hid q2
        replace q3 := hid q3
        clear b1 fin hrn2
        go_wp2
        go_ret2
        exact ⟨oa, oc, vs, by rw [hs.out]; rfl, q1.out, q2.out, q3.out⟩
      · have hrn2 := hrn'.out
        rw [if_neg hcs] at hrn2
        have hfe : a.map (fun q : Addr => (⟨q.block, q.off + s, q.spot⟩ : Addr)) = a.map fun x => x.add s := by
          by_cases hs0 : s = 0
          · subst hs0; congr 1
          · obtain ⟨ab, ao, rfl, _⟩ := (h.out.at).2.2.2 (by omega)
            simp only [Option.map_some, Addr.add_lit]
        rw [hfe] at hrn2
        clear hfe
        replace hrn2 := hid hrn2
        clear hrn'
        go_wp2_with fail
        refine hrn2.out.mono ?_
        rintro e w1 ⟨rfl, b1⟩
        obtain ⟨q1, q2, q3⟩ := fin.out w1 b1
        replace q1 := hid q1
        replace q2 := hid q2
        replace q3 := hid q3
        clear b1 fin hrn2
        go_wp2
        go_ret2
        exact ⟨oa, oc, vs, by rw [hs.out]; rfl, q1.out, q2.out, q3.out⟩
end Go.Proofs.Ytffopkpbekjanaa
