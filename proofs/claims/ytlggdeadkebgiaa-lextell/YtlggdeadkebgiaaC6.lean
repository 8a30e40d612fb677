/- Contracts: Tell, and the functions that it makes, as what they go over. -/
import Derived.Test.YtlggdeadkebgiaaC5
import Derived.Test.YtlggdeadkebgiaaL3
import Derived.Test.YtlggdeadkebgiaaTM
import Derived.Test.YtlggdeadkebgiaaRL
namespace Go.Proofs.Ytlggdeadkebgiaa
open Go.RowKit Go.Shelf
attribute [local go_sem] Oper.semAt_some

def tkA (x : Tk) : Value := .agg #[.int .u8 (x.kind : Int), .string ⟨x.text.toArray⟩, .int .i64 (x.at_ : Int)]
/-- what the k-th round is handed. -/
def rowOf (r : List (Tk × Nat)) (k : Nat) (args : Array Value) : Prop := ∃ x e, r[k]? = some (x, e) ∧ args = #[tkA x, .int .i64 (e : Int)]
set_option maxRecDepth 100000 in
set_option maxHeartbeats 1000000 in
theorem tell1_gives (w0 : World) : Gives2 Try.prog 18 #[] 1 (rowOf [(⟨0, [], 0⟩, 3)]) (fun _ => True) w0 := by
  intro lp J Jx W hW hJ hJx hY hDat h0
  have hY' := hid (hY W.heap.size 0 #[.agg #[.int .u8 0, .string ⟨#[]⟩, .int .i64 0], .int .i64 3] W (by omega) (Nat.le_refl _) (Nat.le_refl _) (h0 _ (Nat.le_refl _)) ⟨⟨0, [], 0⟩, 3, rfl, rfl⟩ 8)
  clear hY h0
  refine (callsIn_wide (n := 9)).1 ?_
  refine callsIn_of_wp Try.func18 rfl trivial ?_ rfl
  simp only [Try.ntmps18, List.size_toArray, List.length_cons, List.length_nil, Nat.reduceAdd, Nat.reduceSub, Array.replicate_succ, Array.replicate_zero, List.push_toArray, List.append_toArray, List.nil_append, List.cons_append]
  obtain ⟨fn, tmps, assign, body, hy, hR⟩ := hY'.out
  clear hY'
  gi_wp2
  refine hR.mono ?_
  rintro e W3 ⟨hk3, (⟨rfl, hJ3⟩ | ⟨rfl, hJ3⟩)⟩
  · gi_wp2
    go_end0
    exact ⟨⟨_, rfl⟩, W.heap.size, Nat.le_refl _, hk3.1, .inl hJ3⟩
  · gi_wp2
    go_end0
    exact ⟨⟨_, rfl⟩, W.heap.size, Nat.le_refl _, hk3.1, .inr ⟨1, by omega, hJ3⟩⟩
theorem pos_lt {l : List Tk} {b : Option Nat} {k p : Nat} (h : l.drop k = []) (hk : k ≤ l.length) (hb : b = some p) : k < (told l b).length ∧ (told l b)[k]? = some (⟨0, [], p⟩, 90) ∧ k + 1 = (told l b).length := by
  obtain rfl := drop_nil h hk
  subst hb
  have := told_bad (l := l) (p := p)
  exact ⟨(List.getElem?_eq_some_iff.1 this).1, this, by rw [told_len]; rfl⟩
set_option maxRecDepth 100000 in
set_option maxHeartbeats 4000000 in
theorem tell2_gives (w0 : World) (bx : Nat) (s : Tx) (l : List Tk) (b : Option Nat) (hl : s.length ≤ 4096) (hs : Scan 0 s l b) :
    Gives2 Try.prog 20 #[.pointer (some ⟨bx, 0, none⟩)] (told l b).length (rowOf (told l b)) (fun W => W.cell? ⟨bx, 0, none⟩ = some (.string ⟨s.toArray⟩)) w0 := by
  intro lp J Jx W hW hJ hJx hY hDat h0
  have cb := hDat _ _ _ (h0 _ (Nat.le_refl _))
  have hJ0 := h0 _ (Nat.le_refl _)
  have hg0 := hid (between_any s (by omega) W)
  have hp0 := hid (pos_start hs)
  clear hW hs h0
  refine (callsIn_wide (n := 9)).1 ?_
  refine callsIn_of_wp Try.func20 rfl trivial ?_ rfl
  simp only [Try.ntmps20, List.size_toArray, List.length_cons, List.length_nil, Nat.reduceAdd, Nat.reduceSub, Array.replicate_succ, Array.replicate_zero, List.push_toArray, List.append_toArray, List.nil_append, List.cons_append]
  unfold str at *
  gi_wp2_with fail
  refine ⟨trivial, (callsIn_wide.2 hg0.out).mono ?_⟩
  rintro e w1 ⟨rfl, hw'⟩
  have hw2 := hw'.symm
  subst hw2
  clear hg0
  gi_wp2
  gi_loopw [3] (fun av wr => ∃ (k a : Nat), k ≤ l.length ∧ av = .int .i64 (a : Int) ∧ Hid (Pos s l b k a) ∧ J W.heap.size k wr ∧ W.heap.size ≤ wr.heap.size)
    (fun av _ => s.length - (intOf av).toNat)
  case atStart => exact ⟨0, gap s, by omega, rfl, hp0, hJ0, Nat.le_refl _⟩
  case round =>
    obtain ⟨k, a, hk, rfl, hp, hJk, hK⟩ := hrel
    have hal := hp.out.le
    have cr := hDat _ _ _ hJk
    by_cases hlt : a < s.length
    · have hlt' : (a : Int) < (s.length : Int) := by omega
      have e2 := ext_from s a s.length rfl
      have hdl : (s.drop a).length = s.length - a := by simp
      have hfa := hid (first_any (s.drop a) (by omega) (by omega) wr)
      have hfF := first_F (s.drop a)
      have c3 : (0 : Int) ≤ (a : Int) := by omega
      have c4 : (a : Int) ≤ (s.length : Int) := by omega
      generalize hq : firstF (s.drop a) = q at *
      obtain ⟨kd, x, u⟩ := q
      simp only [] at hfF
      by_cases hu : u = 0
      · rw [if_pos hu] at hfF
        have hb := hp.out.bad hlt hfF
        obtain ⟨h1, h2, h3⟩ := pos_lt hb.1 hk hb.2
        have hyy := hid (fun (w1 : World) (hb1 : Below wr.heap.size wr w1) => hY W.heap.size k #[.agg #[.int .u8 0, .string ⟨#[]⟩, .int .i64 (a : Int)], .int .i64 90] w1 h1 (Nat.le_refl _) (Nat.le_trans hK hb1.size) (hJ _ k _ _ hJk hb1) ⟨⟨0, [], a⟩, 90, h2, rfl⟩ 8)
        have hm := hid h3
        have hmk : k + 1 ≤ (told l b).length := by omega
        clear hb h1 h2 h3 hfF hp hY hJ0 hp0 hq
        subst hu
        unfold tokV str at hfa
        gi_wp2_with fail
        refine ⟨trivial, (callsIn_wide.2 hfa.out).mono ?_⟩
        rintro e w2 ⟨rfl, hB2⟩
        have cr2 : w2.cell? ⟨bx, 0, none⟩ = some (.string ⟨s.toArray⟩) := (hB2.cell (p := ⟨bx, 0, none⟩) (World.block_lt_of_cell? wr ⟨bx, 0, none⟩ cr)).trans cr
        obtain ⟨fn, tmps, assign, body, hy, hR⟩ := hyy.out w2 hB2
        have hK2 := Nat.le_trans hK hB2.size
        clear hyy hB2 hfa
        gi_wp2
        refine hR.mono ?_
        rintro e W3 ⟨hk3, (⟨rfl, hJ3⟩ | ⟨rfl, hJ3⟩)⟩
        · gi_wp2
          refine bodyPost_ret (results_none rfl _ _ _) rfl ?_
          exact ⟨⟨_, rfl⟩, _, Nat.le_refl _, Nat.le_trans hK2 hk3.1, .inl (by rw [← hm.out]; exact hJ3)⟩
        · gi_wp2
          refine bodyPost_ret (results_none rfl _ _ _) rfl ?_
          exact ⟨⟨_, rfl⟩, _, Nat.le_refl _, Nat.le_trans hK2 hk3.1, .inr ⟨k + 1, hmk, hJ3⟩⟩
      · rw [if_neg hu] at hfF
        obtain ⟨h1, h2, h3⟩ := hp.out.tok hlt hfF
        have h4 := told_at (b := b) h1
        have h5 := (List.getElem?_eq_some_iff.1 h4).1
        have h6 := (List.getElem?_eq_some_iff.1 h1).1
        have hyy := hid (fun (w1 : World) (hb1 : Below wr.heap.size wr w1) => hY W.heap.size k #[.agg #[.int .u8 (kd : Int), .string ⟨x.toArray⟩, .int .i64 (a : Int)], .int .i64 0] w1 h5 (Nat.le_refl _) (Nat.le_trans hK hb1.size) (hJ _ k _ _ hJk hb1) ⟨⟨kd, x, a⟩, 0, h4, rfl⟩ 8)
        have h3' := hid h3
        have hgap := gap_le (s.drop (a + u))
        simp only [List.length_drop] at hgap
        have e3 := ext_from s (a + u) s.length rfl
        have hbt := hid (between_any (s.drop (a + u)) (by simp; omega))
        have c5 : IntKind.i64.wrap ((a : Int) + (u : Int)) = (a : Int) + (u : Int) := by rw [IntKind.wrap_i64]; omega
        have c6 : IntKind.i64.wrap ((a : Int) + (u : Int) + (gap (s.drop (a + u)) : Int)) = (a : Int) + (u : Int) + (gap (s.drop (a + u)) : Int) := by rw [IntKind.wrap_i64]; omega
        have c7 : (0 : Int) ≤ (a : Int) + (u : Int) := by omega
        have c8 : (a : Int) + (u : Int) ≤ (s.length : Int) := by omega
        have hu0 : ((u : Int) == 0) = false := by simp; omega
        clear h1 h3 h4 hfF hp hY hJ0 hp0 hq hdl
        unfold tokV str at hfa
        unfold str at hbt
        generalize gap (s.drop (a + u)) = g at *
        gi_wp2_with fail
        refine ⟨trivial, (callsIn_wide.2 hfa.out).mono ?_⟩
        rintro e w2 ⟨rfl, hB2⟩
        have cr2 : w2.cell? ⟨bx, 0, none⟩ = some (.string ⟨s.toArray⟩) := (hB2.cell (p := ⟨bx, 0, none⟩) (World.block_lt_of_cell? wr ⟨bx, 0, none⟩ cr)).trans cr
        obtain ⟨fn, tmps, assign, body, hy, hR⟩ := hyy.out w2 hB2
        have hK2 := Nat.le_trans hK hB2.size
        clear hyy hB2 hfa
        gi_wp2
        refine hR.mono ?_
        rintro e W3 ⟨hk3, (⟨rfl, hJ3⟩ | ⟨rfl, hJ3⟩)⟩
        · have hK3 := Nat.le_trans hK2 hk3.1
          have cr3 := hDat _ _ _ hJ3
          clear hk3 hy hR
          gi_wp2_with fail
          refine ⟨trivial, (callsIn_wide.2 (hbt.out W3)).mono ?_⟩
          rintro e w4 ⟨rfl, hw'⟩
          have hw2 := hw'.symm
          subst hw2
          gi_wp2
          exact ⟨⟨k + 1, a + u + g, by omega, by go_num, h3', hJ3, hK3⟩, by simp [intOf]; omega⟩
        · gi_wp2
          refine bodyPost_ret (results_none rfl _ _ _) rfl ?_
          exact ⟨⟨_, rfl⟩, _, Nat.le_refl _, Nat.le_trans hK2 hk3.1, .inr ⟨k + 1, by omega, hJ3⟩⟩
    · have hlt' : ¬ (a : Int) < (s.length : Int) := by omega
      have hend := hp.out.end (by omega)
      have hJ1 : Hid (J W.heap.size (told l b).length wr) := by
        unfold Hid
        rw [hend.2, told_len, ← drop_nil hend.1 hk]
        exact hJk
      clear hp hend hY hJ0
      gi_wp2
      go_end0
      exact ⟨⟨_, rfl⟩, _, Nat.le_refl _, hK, .inl hJ1.out⟩
end Go.Proofs.Ytlggdeadkebgiaa
