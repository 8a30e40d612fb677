import Derived.Test.YtjhodmpgggaknaaGreatDoorZD4
import Derived.Test.YtjhodmpgggaknaaGreatDoorZTD
/- Contract of the document's own All. -/
namespace Go.Proofs.YtjhodmpgggaknaaGreatDoor
open Go.RowKit Go.Shelf

theorem kind_pos {r : Tx} {k : Nat} {x : Tx} {u : Nat} (h : first r = some (k, x, u)) : 1 ≤ k ∧ k ≤ 4 := by
  obtain ⟨_, _, _, _, h1, h2, _⟩ := first_form h
  exact ⟨h1, h2⟩
/-- where the document stands: k tokens are taken; between them and the place stand blanks and remarks alone. -/
def Stand (s : Tx) (l : List Tk) (b : Option Nat) (k at_ : Nat) : Prop :=
  ∃ p, p ≤ s.length ∧ at_ ≤ s.length ∧ p + gap (s.drop p) = at_ + gap (s.drop at_) ∧ Scan p (s.drop p) (l.drop k) b
theorem Stand.start {s : Tx} {l : List Tk} {b : Option Nat} (h : Scan 0 s l b) : Stand s l b 0 0 := ⟨0, by omega, by omega, rfl, by simpa using h⟩
theorem Stand.blank {s : Tx} {l : List Tk} {b : Option Nat} {k i : Nat} (h : Stand s l b k i) (hlt : i < s.length) (hb : blk (s.getD i 0) = true) : Stand s l b k (i + 1) := by
  obtain ⟨p, h1, h2, h3, h4⟩ := h
  refine ⟨p, h1, by omega, ?_, h4⟩
  rw [drop_at hlt, gap_blank _ hb] at h3
  omega
theorem Stand.note {s : Tx} {l : List Tk} {b : Option Nat} {k i : Nat} (h : Stand s l b k i) (hlt : i < s.length) (hc : s.getD i 0 = 35) : Stand s l b k (i + cnt rmk (s.drop i)) ∧ 0 < cnt rmk (s.drop i) := by
  obtain ⟨p, h1, h2, h3, h4⟩ := h
  have hd := drop_at hlt
  rw [hc] at hd
  have hg := gap_remark (s.drop (i + 1))
  rw [← hd, List.drop_drop] at hg
  have hl := cnt_le rmk (s.drop i)
  rw [List.length_drop] at hl
  refine ⟨⟨p, h1, by omega, by omega, h4⟩, ?_⟩
  rw [hd, cnt_pos (by decide)]
  omega
theorem Stand.pos {s : Tx} {l : List Tk} {b : Option Nat} {k i : Nat} (h : Stand s l b k i) (hg : gap (s.drop i) = 0) : Pos s l b k i := by
  obtain ⟨p, h1, h2, h3, h4⟩ := h
  exact ⟨p, by omega, h1, h4⟩
theorem Stand.next {s : Tx} {l : List Tk} {b : Option Nat} {k i : Nat} (h : Pos s l b k i) (hlt : i < s.length) {kd : Nat} {x : Tx} {u : Nat} (hf : first (s.drop i) = some (kd, x, u)) : Stand s l b (k + 1) (i + u) := by
  obtain ⟨p, rfl, hp, hs⟩ := h
  have hl : (s.drop p).length = s.length - p := by simp
  obtain ⟨hu, hul, _⟩ := first_form hf
  rw [List.length_drop] at hul
  rw [← List.drop_drop] at hf
  rcases scan_step hs with ⟨h1, _⟩ | ⟨_, h1, _⟩ | ⟨_, k', x', u', l', h1, h2, h3⟩
  · omega
  · rw [hf] at h1; cases h1
  · rw [hf] at h1
    cases h1
    refine ⟨p + gap (s.drop p) + u, by omega, by omega, rfl, ?_⟩
    have hd : l.drop (k + 1) = l' := by
      rw [← List.drop_drop, h2]; rfl
    rw [hd]
    rw [List.drop_drop, ← Nat.add_assoc] at h3
    exact h3
theorem pushD_run2 {w : World} {base : Nat} {v : Value} {l : List Tk} (hr : OwnD base w v l) (t : Tk) (ht : t.text.length ≤ maxLen) (hl : l.length + 1 ≤ 3000000000) (hb : base ≤ w.heap.size) :
    ∃ a' c' w', (∀ ty, (Builtin.append_ #[41, 41] ty #[v, .slice (some ⟨w.heap.size, 0, none⟩) 1 1]).run Tryz.prog (w.alloc (.cells #[kv t.kind, str t.text, nv t.at_, nv t.end_] 50)) = .ok (.slice a' (l.length + 1) c') w') ∧ OwnD base w' (.slice a' (l.length + 1) c') (l ++ [t]) ∧ Below base w w' ∧ ∀ b, b < w.heap.size → v.ownBlock ≠ some b → w'.heap[b]? = w.heap[b]? := by
  have hr' := hr.below (alloc_below w (.cells #[kv t.kind, str t.text, nv t.at_, nv t.end_] 50))
  obtain ⟨a', c', w', h1, h2, h3, _⟩ := appD_run hr' (ownD_one w t ht).isD hl (by simp; omega)
  exact ⟨a', c', w', h1, h2, ((Below.refl base w).alloc hb _).trans (appD_low hr' (by simp; omega) h3), fun b hb2 hne => (h3.block b (by simp; omega) (fun e => hne e.symm)).trans ((alloc_below w _).block b hb2)⟩
/-- what the document's All tells. -/
def RefPost (l : List Tk) (b : Option Nat) (w : World) (e : Ending) (w' : World) : Prop :=
  Below w.heap.size w w' ∧ ((∃ p, b = some p ∧ e = .returned (.tuple #[.slice none 0 0, .int .i64 (p : Int), .int .i64 90])) ∨ (b = none ∧ ∃ a c, e = .returned (.tuple #[.slice a l.length c, .int .i64 0, .int .i64 0]) ∧ OwnD w.heap.size w' (.slice a l.length c) l))
theorem getD_drop (s : Tx) (i q : Nat) : (s.drop i).getD q 0 = s.getD (i + q) 0 := by
  simp [List.getD, List.getElem?_drop]
theorem cnt_from {s : Tx} {i j : Nat} (hij : i ≤ j) (hj : j ≤ s.length) (h : ∀ q, i ≤ q → q < j → rmk (s.getD q 0) = true) (he : j < s.length → rmk (s.getD j 0) = false) : i + cnt rmk (s.drop i) = j := by
  have := cnt_eq (f := rmk) (s.drop i) (j - i) (by simp; omega) (fun q hq => by rw [getD_drop]; exact h _ (by omega) (by omega)) (fun hq => by
    rw [getD_drop, show i + (j - i) = j by omega]
    exact he (by simp at hq; omega))
  omega
set_option maxRecDepth 100000 in
set_option maxHeartbeats 4000000 in
theorem refAll_any (s : Tx) (l : List Tk) (b : Option Nat) (hsc : Scan 0 s l b) (hs : s.length ≤ 4096) (w : World) : Calls Tryz.prog 19 #[.string ⟨s.toArray⟩] w (RefPost l b w) := by
  have hlo := hid (fun p hp W => longest_any s p hp (by omega) W)
  have hmem := hid (scan_mem hsc)
  have hl4 := hmem.out.1
  have h4' : ¬ (4096 : Int) < (s.length : Int) := by omega
  have hst := hid (Stand.start hsc)
  clear hsc
  go_enter Tryz.func19, Tryz.ntmps19
  go_wp2
  go_loopw [5, 6] (fun ov iv wr => ∃ (k i : Nat) (a : Option Addr) (c : Nat), k ≤ l.length ∧ ov = .slice a k c ∧ iv = .int .i64 (i : Int) ∧ i ≤ s.length ∧ Hid (Stand s l b k i) ∧ Hid (OwnD w.heap.size wr (.slice a k c) (l.take k)) ∧ Hid (Below w.heap.size w wr)) (fun _ iv _ => s.length - (intOf iv).toNat)
  case atStart => exact ⟨0, 0, none, 0, by omega, rfl, rfl, by omega, hst, ownD_nil _ _, Below.refl _ _⟩
  case round =>
    obtain ⟨k, i, a, c, hk, rfl, rfl, hi, hS, hO, hB⟩ := hrel
    obtain ⟨V, rfl⟩ : ∃ V : World, V = wr := ⟨_, rfl⟩
    clear hst
    by_cases hlt : i < s.length
    · have hlt' : (i : Int) < (s.length : Int) := by omega
      have hget := get_at hlt
      obtain ⟨ch, hcd⟩ : ∃ ch, ch = s.getD i 0 := ⟨_, rfl⟩
      rw [← hcd] at hget
      have hbl := hid (blank_any ch)
      have c5 : IntKind.i64.wrap ((i : Int) + 1) = (i : Int) + 1 := by rw [IntKind.wrap_i64]; omega
      cases hb : blk ch with
      | true =>
        rw [hb] at hbl
        have hS2 := hid (hS.out.blank hlt (by rw [← hcd]; exact hb))
        clear hS hb hcd hlo hmem
        go_wp2_with (go_at_call 38; refine (hbl.out _).mono ?_; rintro e w' ⟨rfl, hw'⟩; have hw2 := hw'.symm; subst hw2)
        exact ⟨⟨k, i + 1, a, c, hk, rfl, by go_num, by omega, hS2, hO, hB⟩, by simp [intOf]; omega⟩
      | false =>
        rw [hb] at hbl
        by_cases h35 : ch.toNat = 35
        · have hc : ch = 35 := UInt8.toNat_inj.1 h35
          have t35 : ((ch.toNat : Int) == 35) = true := by simp; omega
          obtain ⟨hS1, hpos⟩ := hS.out.note hlt (by rw [← hcd]; exact hc)
          have hS2 := hid hS1
          have hrc : rmk (s.getD i 0) = true := by rw [← hcd, hc]; decide
          replace hrc := hid hrc
          replace hpos := hid hpos
          clear hS hS1 hb hcd hlo hmem hc h35
          go_wp2_with (go_at_call 38; refine (hbl.out _).mono ?_; rintro e w' ⟨rfl, hw'⟩; have hw2 := hw'.symm; subst hw2)
          go_loop [6] (fun jv => ∃ j : Nat, i ≤ j ∧ j ≤ s.length ∧ jv = .int .i64 (j : Int) ∧ Hid (∀ q, i ≤ q → q < j → rmk (s.getD q 0) = true)) (fun jv => s.length - (intOf jv).toNat)
          case atStart => exact ⟨i, by omega, by omega, rfl, fun q h1 h2 => by omega⟩
          case round =>
            obtain ⟨j, hij, hj, rfl, hq⟩ := hrel
            by_cases hlj : j < s.length
            · have hlj' : (j : Int) < (s.length : Int) := by omega
              have hgj := get_at hlj
              obtain ⟨cj, hcj⟩ : ∃ cj, cj = s.getD j 0 := ⟨_, rfl⟩
              rw [← hcj] at hgj
              have c6 : IntKind.i64.wrap ((j : Int) + 1) = (j : Int) + 1 := by rw [IntKind.wrap_i64]; omega
              by_cases h10 : cj.toNat = 10
              · have t1 : ((cj.toNat : Int) != 10) = false := by simp; omega
                have hend := cnt_from hij hj hq.out (fun _ => by rw [← hcj]; unfold rmk; simp [h10])
                have hne : i < j := by have := hpos.out; omega
                rw [hend] at hS2
                clear hq hcj h10 hend hpos hrc
                go_wp2
                exact ⟨⟨k, j, a, c, hk, rfl, rfl, hj, hS2, hO, hB⟩, by simp [intOf]; omega⟩
              · have t1 : ((cj.toNat : Int) != 10) = true := by simp; omega
                have hq' : Hid (∀ q, i ≤ q → q < j + 1 → rmk (s.getD q 0) = true) := fun q h1 h2 => by
                  by_cases h : q = j
                  · subst h; rw [← hcj]; unfold rmk; simp [h10]
                  · exact hq.out q h1 (by omega)
                clear hq hcj h10
                go_wp2
                exact ⟨⟨j + 1, by omega, by omega, by go_num, hq'⟩, by simp [intOf]; omega⟩
            · have hlj' : ¬ (j : Int) < (s.length : Int) := by omega
              obtain rfl : j = s.length := by omega
              have hend := cnt_from hij hj hq.out (fun h => absurd h (by omega))
              rw [hend] at hS2
              clear hq hend hpos hrc
              go_wp2
              exact ⟨⟨k, s.length, a, c, hk, rfl, rfl, hj, hS2, hO, hB⟩, by simp [intOf]; omega⟩
        · have t35 : ((ch.toNat : Int) == 35) = false := by simp; omega
          have hg0 : gap (s.drop i) = 0 := by
            rw [drop_at hlt, ← hcd]
            exact gap_stop _ hb (fun e => h35 (by rw [e]; rfl))
          have hP := hS.out.pos hg0
          have hlg := hid (hlo.out i hlt V)
          cases hf : first (s.drop i) with
          | none =>
            rw [hf] at hlg
            have hbad := hP.bad hlt hf
            have fin : Hid (∀ W, Below w.heap.size w W → RefPost l b w (.returned (.tuple #[.slice none 0 0, .int .i64 (i : Int), .int .i64 90])) W) := fun W hW => ⟨hW, .inl ⟨i, hbad.2, rfl⟩⟩
            unfold longR zcells at hlg
            clear hS hP hg0 hf hbad hb hcd hlo hmem h35 hO
            go_wp2_with (go_at_call 38; refine (hbl.out _).mono ?_; rintro e w' ⟨rfl, hw'⟩; have hw2 := hw'.symm; subst hw2)
            refine hlg.out.mono ?_
            rintro e V2 ⟨rfl, hb2⟩
            have hB2 := hid (low' hB.out hb2)
            have hB3 := hid (low' hB2.out (alloc_below V2 (.cells #[.int .u8 0, .string ⟨#[]⟩, .int .i64 0, .int .i64 0] 50)))
            clear hb2 hlg hB
            go_wp2
            go_ret3
            exact fin.out _ hB3.out
          | some q =>
            obtain ⟨kq, x, u⟩ := q
            rw [hf] at hlg
            obtain ⟨h1, h2, h3⟩ := hP.tok hlt hf
            have hnx := hid (Stand.next hP hlt hf)
            have hkq := kind_pos hf
            obtain ⟨hu0, hul, _, hfl, _⟩ := first_form hf
            have hkl := (List.getElem?_eq_some_iff.1 h1).1
            have htx : x.length ≤ maxLen := by
              have := (hmem.out.2.1 _ (List.mem_of_getElem? h1)).1
              simp only [] at this
              unfold maxLen; omega
            have hend : (nv (Tk.end_ ⟨kq, x, i⟩)) = .int .i64 ((i : Int) + (u : Int)) := by
              unfold nv Tk.end_ Tk.form
              simp only [hfl]
              congr 1
            have htk2 : l.take (k + 1) = l.take k ++ [⟨kq, x, i⟩] := by rw [List.take_add_one, h1]; rfl
            have t1 : ((kq : Int) == 0) = false := by simp; omega
            unfold longR dcells at hlg
            simp only [] at hlg
            have hpq : (((i + u : Nat)) : Int) = (i : Int) + (u : Int) := by omega
            rw [hpq] at hlg
            replace h1 := hid h1
            clear hS hP hg0 hf hb hcd hlo hmem h35 h3 hfl hul
            go_wp2_with (go_at_call 38; refine (hbl.out _).mono ?_; rintro e w' ⟨rfl, hw'⟩; have hw2 := hw'.symm; subst hw2)
            refine hlg.out.mono ?_
            rintro e V2 ⟨rfl, hb2⟩
            have hB2 := hid (low' hB.out hb2)
            obtain ⟨V3, hV3⟩ : ∃ V3, V2.alloc (.cells #[.int .u8 (kq : Int), .string ⟨x.toArray⟩, .int .i64 (i : Int), .int .i64 ((i : Int) + (u : Int))] 50) = V3 := ⟨_, rfl⟩
            have hnb := new_block V2 (.cells #[.int .u8 (kq : Int), .string ⟨x.toArray⟩, .int .i64 (i : Int), .int .i64 ((i : Int) + (u : Int))] 50)
            have hab := alloc_below V2 (.cells #[.int .u8 (kq : Int), .string ⟨x.toArray⟩, .int .i64 (i : Int), .int .i64 ((i : Int) + (u : Int))] 50)
            rw [hV3] at hnb hab
            have hB3 := hid (low' hB2.out hab)
            have hO3 := (hO.out.below hb2).below hab
            have hlk : (l.take k).length = k := by simp; omega
            have hO3' : OwnD w.heap.size V3 (.slice a k c) (l.take k) := hO3
            obtain ⟨a', c', w', hrun, ho', hbw, hkeep⟩ := pushD_run2 hO3' ⟨kq, x, i⟩ htx (by rw [hlk]; omega) hB3.out.size
            rw [hlk] at hrun ho'
            rw [← htk2] at ho'
            rw [hend] at hrun
            unfold kv str nv at hrun
            simp only [] at hrun
            have x0 := cell_of hnb 0
            have x1 := cell_of hnb 1
            have x2 := cell_of hnb 2
            have x3 := cell_of hnb 3
            simp at x0 x1 x2 x3
            have hxb := lt_of_block hnb
            have y0 : w'.cell? ⟨V2.heap.size, 3, none⟩ = some (.int .i64 ((i : Int) + (u : Int))) := by
              rw [cell_block (hkeep V2.heap.size hxb (fun e => by have := ((hO.out.below hb2).lt e).2; omega))]
              exact x3
            have O4 := hid ho'
            have B4 := hid (hB3.out.trans (hbw.mono (Nat.le_refl _)))
            clear hb2 hlg hB hO hO3 hO3' ho' hbw hnb hab htk2 hend hkeep
            go_wp2_with (at_builtin; refine wpList_append_run _ rfl _ _ 41 rfl _ _ _ _ rfl rfl hrun ?_)
            exact ⟨⟨k + 1, i + u, a', c', by omega, rfl, by go_num, by omega, hnx, O4, B4⟩, by simp [intOf]; omega⟩
    · have hlt' : ¬ (i : Int) < (s.length : Int) := by omega
      obtain rfl : i = s.length := by omega
      have hP := hS.out.pos (by rw [List.drop_length]; rfl)
      have hend := hP.end rfl
      obtain rfl := drop_nil hend.1 hk
      rw [List.take_length] at hO
      have fin : Hid (RefPost l b w (.returned (.tuple #[.slice a l.length c, .int .i64 0, .int .i64 0])) V) := ⟨hB.out, .inr ⟨hend.2, a, c, rfl, hO.out⟩⟩
      clear hS hP hend hO hlo hmem
      go_wp2
      go_ret3
      exact fin.out
end Go.Proofs.YtjhodmpgggaknaaGreatDoor
