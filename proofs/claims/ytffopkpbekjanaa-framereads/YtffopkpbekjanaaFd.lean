/- Contracts of the statements' own great, framed. -/
import Derived.Test.YtffopkpbekjanaaTe
namespace Go.Proofs.Ytffopkpbekjanaa
open Go.RowKit Go.Shelf

def big (l : List (List Int)) : Bool := decide (100 < l.length) || decide (20000 < l.flatten.length)
theorem piece_le (l : List (List Int)) (k : Nat) (hk : k < l.length) : (l.getD k []).length ≤ l.flatten.length := by
  have h1 := flat_le l (k + 1)
  rw [flat_take l k hk, List.length_append] at h1
  omega
theorem rows_le : ∀ (l : List (List Int)), l.flatten.length ≤ 20000 → (rows l).length ≤ l.flatten.length + 7 * l.length
  | [], _ => by simp [rows]
  | p :: l, h => by
    simp only [List.flatten_cons, List.length_append] at h
    have := rows_le l (by omega)
    rw [rows_cons, List.length_append, fr_len, vi_len (by omega)]
    have hw : wide p.length ≤ 3 := by unfold wide; split <;> (try split) <;> omega
    simp only [List.flatten_cons, List.length_append, List.length_cons]
    omega
set_option maxHeartbeats 1000000 in
theorem great_any (v : Value) (l : List (List Int)) (w : World) (h : IsP w v l) :
    Calls Try.prog 19 #[v] w fun e w' => e = .returned (.bool (big l)) ∧ w' = w := by
  obtain ⟨a, c, rfl⟩ : ∃ a c, v = .slice a l.length c := by obtain ⟨_, a, c, e, _⟩ := h; exact ⟨a, c, e⟩
  have hm := h.1
  unfold maxLen at hm
  replace h := hid h
  by_cases h100 : 100 < l.length
  · have h100' : (100 : Int) < (l.length : Int) := by omega
    have e : big l = true := by simp [big, h100]
    rw [e]
    clear e
    go_enter Try.func19, Try.ntmps19
    go_wp2
    go_ret
    exact ⟨rfl, rfl⟩
  have h100' : ¬ (100 : Int) < (l.length : Int) := by omega
  go_enter Try.func19, Try.ntmps19
  go_wp2
  go_loop [3, 4] (fun lv iv => ∃ k : Nat, k ≤ l.length ∧ iv = .int .i64 (k : Int) ∧ (l.take k).flatten.length ≤ 20000 ∧ lv = .int .i64 (20000 - ((l.take k).flatten.length : Int))) (fun _ iv => l.length - (intOf iv).toNat)
  case atStart => exact ⟨0, by omega, rfl, by simp, by simp⟩
  case round =>
    obtain ⟨k, hk, rfl, hle, rfl⟩ := hrel
    by_cases hlt : k < l.length
    · have hlt' : (k : Int) < (l.length : Int) := by omega
      obtain ⟨b, off, a1, c1, rfl, hcell, hB⟩ := h.out.at k hlt
      have hbd := hB.bound
      have hft := congrArg List.length (flat_take l k hlt)
      rw [List.length_append] at hft
      have hfl := flat_le l (k + 1)
      generalize hp : (l.getD k []).length = p at *
      generalize hs : (l.take k).flatten.length = s at *
      replace hp := hid hp
      replace hs := hid hs
      replace hft := hid hft
      clear hB
      by_cases hgt : 20000 - s < p
      · have hgt' : (20000 : Int) - (s : Int) < (p : Int) := by omega
        have e : Hid (big l = true) := by
          have := hft.out
          show _ = _
          simp only [big, Bool.or_eq_true, decide_eq_true_eq]
          right
          omega
        go_wp2
        go_ret
        exact ⟨by rw [e.out]; rfl, rfl⟩
      · have hgt' : ¬ (20000 : Int) - (s : Int) < (p : Int) := by omega
        go_wp2
        exact ⟨⟨k + 1, by omega, by go_num, by rw [hft.out]; omega, by rw [hft.out]; congr 1; omega⟩, by simp [intOf]; omega⟩
    · have hlt' : ¬ (k : Int) < (l.length : Int) := by omega
      obtain rfl : k = l.length := by omega
      rw [List.take_length] at hle
      have e : Hid (big l = false) := by
        show _ = _
        simp only [big, Bool.or_eq_false_iff, decide_eq_false_iff_not]
        omega
      go_wp2
      go_ret
      exact ⟨by rw [e.out]; rfl, rfl⟩
theorem intInfo : (Try.prog.info? 3).map (fun i => (i.zero, i.size, i.bytes)) = some (some (.int .i64 0), 1, 8) := by kernel_rfl
/-- append of one number to a row of one's own. -/
theorem pushInt_run {w : World} {base n : Nat} {v : Value} {xs : List Value} (hr : w.ownsRow base 3 1 v n xs) (z : Int) (hn : n ≤ 1000000) (hb : base ≤ w.heap.size) :
    ∃ a' c' w', (∀ ty, (Builtin.append_ #[42, 42] ty #[v, .slice (some ⟨w.heap.size, 0, none⟩) 1 1]).run Try.prog (w.alloc (.cells #[.int .i64 z] 3)) = .ok (.slice a' (n + 1) c') w') ∧ w'.ownsRow base 3 1 (.slice a' (n + 1) c') (n + 1) (xs ++ [.int .i64 z]) ∧ (w.alloc (.cells #[.int .i64 z] 3)).grownBy w' v.ownBlock := by
  obtain ⟨i0, hi, hz0, hz1, hz2⟩ := info_parts intInfo
  obtain ⟨v', w', hrun, h3, h4, _, _⟩ := run_append_own_at (P := Try.prog) (w.alloc (.cells #[.int .i64 z] 3)) base 42 0 3 i0 (.int .i64 0) 1 8 Try.underlying42 hi hz0 hz1 hz2 rfl (by decide) v n xs (hr.alloc _) ⟨w.heap.size, 0, none⟩ 1 1 [.int .i64 z] rfl (cell_one_new _ _ _) (by intro u hu; simp at hu; subst hu; rfl) (by unfold maxLen; omega) (by omega) (by simp; omega)
  obtain ⟨a', c', rfl⟩ := row_slice h3
  exact ⟨a', c', w', fun ty => hrun, h3, h4⟩
theorem row_type {w : World} {base : Nat} {e : TypeId} {s : Nat} {v : Value} {n : Nat} {xs : List Value} (h : w.ownsRow base e s v n xs) {k : Nat} (hk : v.ownBlock = some k) : ∃ c, w.heap[k]? = some (.cells c e) := by
  rcases h.2 with ⟨e1, _⟩ | ⟨g, cap, cur, e1, _, h2, _⟩
  · rw [e1] at hk; cases hk
  · rw [e1] at hk; cases hk; exact ⟨cur, h2⟩
theorem apart {w : World} {base base' : Nat} {e e' : TypeId} {s s' : Nat} {v v' : Value} {n n' : Nat} {xs xs' : List Value} (h : w.ownsRow base e s v n xs) (h' : w.ownsRow base' e' s' v' n' xs') (hne : e ≠ e') {k : Nat} (hk : v.ownBlock = some k) : v'.ownBlock ≠ some k := by
  intro hk'
  obtain ⟨c, h1⟩ := row_type h hk
  obtain ⟨c', h2⟩ := row_type h' hk'
  rw [h1] at h2
  simp at h2
  exact hne h2.2
/-- where the first so many frames end. -/
def endsOf (l : List (List Int)) (k : Nat) : List Value := (List.range k).map fun j => .int .i64 ((rows (l.take (j + 1))).length : Int)
theorem endsOf_succ (l : List (List Int)) (k : Nat) : endsOf l (k + 1) = endsOf l k ++ [.int .i64 ((rows (l.take (k + 1))).length : Int)] := by
  unfold endsOf; rw [List.range_succ, List.map_append]; rfl
set_option maxHeartbeats 2000000 in
theorem framed_any (v : Value) (l : List (List Int)) (w : World) (h : IsP w v l) (hbig : big l = false) :
    Calls Try.prog 20 #[v] w fun e w' => ∃ a c ea ec, e = .returned (.tuple #[.slice a (rows l).length c, .slice ea l.length ec, .bool true]) ∧ Own w.heap.size w' (.slice a (rows l).length c) (rows l) ∧ w'.ownsRow w.heap.size 3 1 (.slice ea l.length ec) l.length (endsOf l l.length) ∧ Below w.heap.size w w' := by
  obtain ⟨a, c, rfl⟩ : ∃ a c, v = .slice a l.length c := by obtain ⟨_, a, c, e, _⟩ := h; exact ⟨a, c, e⟩
  simp only [big, Bool.or_eq_false_iff, decide_eq_false_iff_not] at hbig
  obtain ⟨h100, h20k⟩ := hbig
  have hrl := rows_le l (by omega)
  have HP := hid (fun k (hk : k < l.length) => piece_le l k hk)
  have HT := hid (fun k => rows_take_le l k)
  replace h := hid h
  go_enter Try.func20, Try.ntmps20
  go_wp2
  go_loopw [5, 6, 7] (fun bv ev iv wr => ∃ (k : Nat) (ba : Option Addr) (bc : Nat) (ea : Option Addr) (ec : Nat), k ≤ l.length ∧ iv = .int .i64 (k : Int) ∧ bv = .slice ba (rows (l.take k)).length bc ∧ ev = .slice ea k ec ∧ Own w.heap.size wr (.slice ba (rows (l.take k)).length bc) (rows (l.take k)) ∧ wr.ownsRow w.heap.size 3 1 (.slice ea k ec) k (endsOf l k) ∧ Below w.heap.size w wr) (fun _ _ iv _ => l.length - (intOf iv).toNat)
  case atStart => exact ⟨0, none, 0, none, 0, by omega, rfl, rfl, rfl, own_nil _ _, World.ownsRow_nil _ _ _ _, Below.refl _ _⟩
  case round =>
    obtain ⟨k, ba, bc, ea, ec, hk, rfl, rfl, rfl, hO, hE, hb⟩ := hrel
    by_cases hlt : k < l.length
    · have hlt' : (k : Int) < (l.length : Int) := by omega
      obtain ⟨b, off, a1, c1, rfl, hcell, hB⟩ := (h.out.below hb).at k hlt
      have hpl := HP.out k hlt
      have hlast := HT.out (k + 1)
      have hsu := rows_take_succ l k hlt
      have hsl := congrArg List.length hsu
      rw [List.length_append] at hsl
      have hen := hid (encode_any _ _ _ hB (by omega))
      have fin : Hid (∀ w1 a2 c2, Own wr.heap.size w1 (.slice a2 (fr (l.getD k [])).length c2) (fr (l.getD k [])) → Below wr.heap.size wr w1 → ∃ a' c' w' a3 c3 w3, (∀ ty, (Builtin.append_ #[22, 22] ty #[.slice ba (rows (l.take k)).length bc, .slice a2 (fr (l.getD k [])).length c2]).run Try.prog w1 = .ok (.slice a' (rows (l.take (k + 1))).length c') w') ∧ (∀ ty, (Builtin.append_ #[42, 42] ty #[.slice ea k ec, .slice (some ⟨w'.heap.size, 0, none⟩) 1 1]).run Try.prog (w'.alloc (.cells #[.int .i64 ((rows (l.take (k + 1))).length : Int)] 3)) = .ok (.slice a3 (k + 1) c3) w3) ∧
          Own w.heap.size w3 (.slice a' (rows (l.take (k + 1))).length c') (rows (l.take (k + 1))) ∧ w3.ownsRow w.heap.size 3 1 (.slice a3 (k + 1) c3) (k + 1) (endsOf l (k + 1)) ∧ Below w.heap.size w w3) := by
        intro w1 a2 c2 o1 b1
        have hO1 := hO.below b1
        have hE1 := ownsRow_block hE fun j hj => b1.block j (hE.lt j hj).2
        have hb1 := low' hb b1
        obtain ⟨a', c', w', r1, o2, g2, _⟩ := app_run hO1 o1.isB (by omega) hb1.size
        rw [← hsl] at r1 o2
        rw [← hsu] at o2
        have hb2 := hb1.trans (app_low hO1 hb1.size g2)
        have hE2 := ownsRow_block hE1 fun j hj => g2.block j (hE1.lt j hj).2 fun e => apart hE1 hO1.2 (by decide) hj e.symm
        obtain ⟨a3, c3, w3, r3, e3, g3⟩ := pushInt_run hE2 ((rows (l.take (k + 1))).length : Int) (by omega) hb2.size
        have hO3 : Own w.heap.size w3 (.slice a' (rows (l.take (k + 1))).length c') (rows (l.take (k + 1))) := (o2.below (alloc_below w' _)).keep fun j hj => g3.block j (by have := (o2.lt hj).2; simp; omega) fun e => apart o2.2 hE2 (by decide) hj e.symm
        refine ⟨a', c', w', a3, c3, w3, r1, r3, hO3, by rw [endsOf_succ]; exact e3, ?_⟩
        have hb3 := low' hb2 (alloc_below w' (.cells #[.int .i64 ((rows (l.take (k + 1))).length : Int)] 3))
        exact hb3.grown g3 hb3.size (fun j hj => (hE2.lt j hj).1)
      have hmx : (rows (l.take (k + 1))).length ≤ 30000 := by omega
      clear hO hE hB hsu hsl hpl hlast
      replace hb := hid hb
      generalize (fr (l.getD k [])).length = u at *
      generalize l.getD k [] = p at *
      generalize hs : (rows (l.take k)).length = s at *
      generalize hs1 : (rows (l.take (k + 1))).length = s1 at *
      replace hs := hid hs
      replace hs1 := hid hs1
      go_wp2_with (first | (go_at_call 10; refine hen.out.mono ?_; rintro e w1 ⟨a2, c2, rfl, o1, b1⟩; obtain ⟨a3, c3, w2, a4, c4, w3, r1, r2, q1, q2, q3⟩ := fin.out w1 a2 c2 o1 b1; replace q1 := hid q1; replace q2 := hid q2; replace q3 := hid q3; clear o1 b1) | (at_builtin; refine wpList_append_run _ rfl _ _ 22 rfl _ _ _ _ rfl rfl r1 ?_; clear r1) | (at_builtin; refine wpList_append_run _ rfl _ _ 42 rfl _ _ _ _ rfl rfl r2 ?_))
      refine ⟨⟨k + 1, a3, c3, a4, c4, by omega, by go_num, by rw [hs1.out], rfl, ?_, q2.out, q3.out⟩, by simp [intOf]; omega⟩
      rw [hs1.out]
      exact q1.out
    · have hlt' : ¬ (k : Int) < (l.length : Int) := by omega
      obtain rfl : k = l.length := by omega
      rw [List.take_length] at hO ⊢
      replace hO := hid hO
      replace hE := hid hE
      replace hb := hid hb
      generalize hs : (rows l).length = s at *
      go_wp2
      exact bodyPost_ret (v := .tuple #[.slice ba s bc, .slice ea l.length ec, .bool true]) (by simp [results, Try.results20, go_sem]) rfl ⟨_, _, _, _, rfl, hO.out, hE.out, hb.out⟩
end Go.Proofs.Ytffopkpbekjanaa
