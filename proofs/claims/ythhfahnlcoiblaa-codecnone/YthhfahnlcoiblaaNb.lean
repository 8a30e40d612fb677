/- Writers and readers that are nil, or that nobody made: nothing is written or told. -/
import Derived.Test.YthhfahnlcoiblaaO3
namespace Go.Proofs.Ythhfahnlcoiblaa
open Go.RowKit

/-- a pointer to none, or to a struct that nobody made. -/
def Nob (w : World) (v : Value) : Prop := v = .pointer none ∨ ∃ p, v = ptr p ∧ w.cell? ⟨p, 0, none⟩ = some (.pointer none)
theorem Nob.below {w w' : World} {v : Value} (h : Nob w v) (hb : Below w.heap.size w w') : Nob w' v := by
  rcases h with rfl | ⟨p, rfl, h⟩
  · exact .inl rfl
  · exact .inr ⟨p, rfl, (hb.cell (p := ⟨p, 0, none⟩) (World.block_lt_of_cell? w _ h)).trans h⟩
theorem nwmade {w : World} {v : Value} (h : Nob w v) : Calls Try.prog 32 #[v] w fun e w' => e = .returned (.bool false) ∧ w' = w := by
  rcases h with rfl | ⟨p, rfl, h⟩
  · exact wmade_nil w
  · exact wmade_no w h
theorem nerr {w : World} {v : Value} (h : Nob w v) : Calls Try.prog 20 #[v] w fun e w' => e = .returned (.int .i64 1) ∧ w' = w := by
  rcases h with rfl | ⟨p, rfl, h⟩
  · exact rerr_nil w
  · exact rerr_no w h
theorem nfail {w : World} {v : Value} (h : Nob w v) : Calls Try.prog 47 #[v] w fun e w' => e = .returned (.tuple #[]) ∧ w' = w := by
  rcases h with rfl | ⟨p, rfl, h⟩
  · exact rfail_nil w
  · exact rfail_no w h
set_option maxHeartbeats 400000 in
theorem nuint (n : Int) (w : World) (v : Value) (h : Nob w v) : Calls Try.prog 24 #[v, .int .u64 n] w fun e w' => e = .returned (.tuple #[]) ∧ w' = w := by
  go_enter Try.func24, Try.ntmps24
  go_wp2_with (first | (go_at_call 32; refine (nwmade h).mono ?_; rintro e w' ⟨rfl, rfl⟩))
  go_end0
  exact ⟨rfl, rfl⟩
set_option maxHeartbeats 400000 in
theorem nint (n : Int) (hn : -9223372036854775808 ≤ n ∧ n ≤ 9223372036854775807) (w : World) (v : Value) (h : Nob w v) : Calls Try.prog 26 #[v, .int .i64 n] w fun e w' => e = .returned (.tuple #[]) ∧ w' = w := by
  obtain ⟨hn0, hn1⟩ := hn
  by_cases hz : n < 0
  · go_enter Try.func26, Try.ntmps26
    go_wp2_with (go_at_call 24; refine (nuint _ _ _ h).mono ?_; rintro e w' ⟨rfl, rfl⟩)
    ((try simp only [Exit.inBlock, Exit.then]); refine bodyPost_ret (results_none rfl _ _ _) rfl ?_)
    exact ⟨rfl, rfl⟩
  · go_enter Try.func26, Try.ntmps26
    go_wp2_with (go_at_call 24; refine (nuint _ _ _ h).mono ?_; rintro e w' ⟨rfl, rfl⟩)
    go_end0
    exact ⟨rfl, rfl⟩
set_option maxHeartbeats 400000 in
theorem nbool (b : Bool) (w : World) (v : Value) (h : Nob w v) : Calls Try.prog 27 #[v, .bool b] w fun e w' => e = .returned (.tuple #[]) ∧ w' = w := by
  cases b
  · go_enter Try.func27, Try.ntmps27
    go_wp2_with (go_at_call 24; refine (nuint _ _ _ h).mono ?_; rintro e w' ⟨rfl, rfl⟩)
    go_end0
    exact ⟨rfl, rfl⟩
  · go_enter Try.func27, Try.ntmps27
    go_wp2_with (go_at_call 24; refine (nuint _ _ _ h).mono ?_; rintro e w' ⟨rfl, rfl⟩)
    ((try simp only [Exit.inBlock, Exit.then]); refine bodyPost_ret (results_none rfl _ _ _) rfl ?_)
    exact ⟨rfl, rfl⟩
set_option maxHeartbeats 400000 in
theorem nlen (n : Int) (hn : -9223372036854775808 ≤ n ∧ n ≤ 9223372036854775807) (w : World) (v : Value) (h : Nob w v) : Calls Try.prog 30 #[v, .int .i64 n] w fun e w' => e = .returned (.tuple #[]) ∧ w' = w := by
  obtain ⟨hn0, hn1⟩ := hn
  by_cases hz : n < 0
  · go_enter Try.func30, Try.ntmps30
    go_wp2_with (go_at_call 24; refine (nuint _ _ _ h).mono ?_; rintro e w' ⟨rfl, rfl⟩)
    go_end0
    exact ⟨rfl, rfl⟩
  · obtain ⟨m, rfl⟩ : ∃ m : Nat, n = (m : Int) := ⟨n.toNat, by omega⟩
    go_enter Try.func30, Try.ntmps30
    go_wp2_with (go_at_call 24; refine (nuint _ _ _ h).mono ?_; rintro e w' ⟨rfl, rfl⟩)
    go_end0
    exact ⟨rfl, rfl⟩
set_option maxHeartbeats 400000 in
theorem nbytes (a : Option Addr) (n c : Nat) (w : World) (v : Value) (h : Nob w v) : Calls Try.prog 28 #[v, .slice a n c] w fun e w' => e = .returned (.tuple #[]) ∧ w' = w := by
  go_enter Try.func28, Try.ntmps28
  go_wp2_with (go_at_call 32; refine (nwmade h).mono ?_; rintro e w' ⟨rfl, rfl⟩)
  go_end0
  exact ⟨rfl, rfl⟩
set_option maxHeartbeats 400000 in
theorem ntext (s : List UInt8) (w : World) (v : Value) (h : Nob w v) : Calls Try.prog 29 #[v, str s] w fun e w' => e = .returned (.tuple #[]) ∧ Below w.heap.size w w' := by
  have hc := text_conv s w
  have hw := hid (text_below s w)
  have hb := hid (nbytes (some ⟨w.heap.size, 0, none⟩) s.length (grownCap w s.length 0 5) _ v (h.below (text_below s w)))
  unfold str at *
  clear h
  generalize Lib.bytesWorld w 5 ⟨s.toArray⟩ = w1 at *
  generalize grownCap w s.length 0 5 = cp at *
  go_enter Try.func29, Try.ntmps29
  go_wp2_with (go_at_call 28; refine hb.out.mono ?_; rintro e w' ⟨rfl, rfl⟩)
  go_end0
  exact ⟨rfl, hw.out⟩
set_option maxHeartbeats 400000 in
theorem nout (w : World) (v : Value) (h : Nob w v) : Calls Try.prog 15 #[v] w fun e w' => e = .returned (.slice none 0 0) ∧ w' = w := by
  go_enter Try.func15, Try.ntmps15
  go_wp2_with (go_at_call 32; refine (nwmade h).mono ?_; rintro e w' ⟨rfl, rfl⟩)
  go_ret
  exact ⟨rfl, rfl⟩
set_option maxHeartbeats 400000 in
theorem ndone (w : World) (v : Value) (h : Nob w v) : Calls Try.prog 22 #[v] w fun e w' => e = .returned (.int .i64 1) ∧ w' = w := by
  go_enter Try.func22, Try.ntmps22
  go_wp2_with (go_at_call 20; refine (nerr h).mono ?_; rintro e w' ⟨rfl, rfl⟩)
  go_ret
  exact ⟨rfl, rfl⟩
set_option maxHeartbeats 400000 in
theorem nupTo (m : Int) (w : World) (v : Value) (h : Nob w v) : Calls Try.prog 45 #[v, .int .u64 m] w fun e w' => e = .returned (.int .u64 0) ∧ w' = w := by
  go_enter Try.func45, Try.ntmps45
  go_wp2_with (go_at_call 20; refine (nerr h).mono ?_; rintro e w' ⟨rfl, rfl⟩)
  go_ret
  exact ⟨rfl, rfl⟩
set_option maxHeartbeats 400000 in
theorem nruint (w : World) (v : Value) (h : Nob w v) : Calls Try.prog 34 #[v] w fun e w' => e = .returned (.int .u64 0) ∧ w' = w := by
  go_enter Try.func34, Try.ntmps34
  go_wp2_with (go_at_call 45; refine (nupTo _ _ _ h).mono ?_; rintro e w' ⟨rfl, rfl⟩)
  go_ret
  exact ⟨rfl, rfl⟩
set_option maxHeartbeats 400000 in
theorem nrint (w : World) (v : Value) (h : Nob w v) : Calls Try.prog 35 #[v] w fun e w' => e = .returned (.int .i64 0) ∧ w' = w := by
  go_enter Try.func35, Try.ntmps35
  go_wp2_with (go_at_call 34; refine (nruint _ _ h).mono ?_; rintro e w' ⟨rfl, rfl⟩)
  go_ret
  exact ⟨rfl, rfl⟩
set_option maxHeartbeats 400000 in
theorem nrbool (w : World) (v : Value) (h : Nob w v) : Calls Try.prog 36 #[v] w fun e w' => e = .returned (.bool false) ∧ w' = w := by
  go_enter Try.func36, Try.ntmps36
  go_wp2_with (go_at_call 45; refine (nupTo _ _ _ h).mono ?_; rintro e w' ⟨rfl, rfl⟩)
  go_ret
  exact ⟨rfl, rfl⟩
set_option maxHeartbeats 400000 in
theorem npiece (w : World) (v : Value) (h : Nob w v) : Calls Try.prog 46 #[v] w fun e w' => e = .returned (.slice none 0 0) ∧ w' = w := by
  go_enter Try.func46, Try.ntmps46
  go_wp2_with (first | (go_at_call 34; refine (nruint _ _ h).mono ?_; rintro e w' ⟨rfl, rfl⟩) | (go_at_call 20; refine (nerr h).mono ?_; rintro e w' ⟨rfl, rfl⟩))
  go_ret
  exact ⟨rfl, rfl⟩
set_option maxHeartbeats 400000 in
theorem clone_nil (w : World) : Calls Try.prog 33 #[.slice none 0 0] w fun e w' => e = .returned (.slice none 0 0) ∧ w' = w := by
  have q : ∀ (w : World) (a : Option Addr) (n c n' c' : Nat), (binOp .eql 26 (.slice a n c) (.slice none n' c')).run Try.prog w = .ok (.bool a.isNone) w := fun w a n c n' c' => Lib.run_eql_slice_nil w _ _ a n c n' c' Try.underlying26
  go_enter Try.func33, Try.ntmps33
  go_wp2
  go_ret
  exact ⟨rfl, rfl⟩
set_option maxHeartbeats 400000 in
theorem nrbytes (w : World) (v : Value) (h : Nob w v) : Calls Try.prog 37 #[v] w fun e w' => e = .returned (.slice none 0 0) ∧ w' = w := by
  go_enter Try.func37, Try.ntmps37
  go_wp2_with (first | (go_at_call 46; refine (npiece _ _ h).mono ?_; rintro e w' ⟨rfl, rfl⟩) | (go_at_call 33; refine (clone_nil _).mono ?_; rintro e w' ⟨rfl, rfl⟩))
  go_ret
  exact ⟨rfl, rfl⟩
set_option maxHeartbeats 400000 in
theorem nrtext (w : World) (v : Value) (h : Nob w v) : Calls Try.prog 38 #[v] w fun e w' => e = .returned (.string ⟨#[]⟩) ∧ w' = w := by
  have hc : ∀ w : World, (convert 26 9 (.slice none 0 0)).run Try.prog w = .ok (.string ⟨#[]⟩) w := fun w => conv_str (own_nil 0 w).isB
  go_enter Try.func38, Try.ntmps38
  go_wp2_with (go_at_call 46; refine (npiece _ _ h).mono ?_; rintro e w' ⟨rfl, rfl⟩)
  go_ret
  exact ⟨rfl, rfl⟩
set_option maxHeartbeats 400000 in
theorem nrlen (m : Int) (hm : m ≤ 9223372036854775807) (w : World) (v : Value) (h : Nob w v) : Calls Try.prog 39 #[v, .int .i64 m] w fun e w' => e = .returned (.int .i64 0) ∧ w' = w := by
  by_cases hz : m < 0
  · go_enter Try.func39, Try.ntmps39
    go_wp2_with (go_at_call 47; refine (nfail h).mono ?_; rintro e w' ⟨rfl, rfl⟩)
    go_ret
    exact ⟨rfl, rfl⟩
  · obtain ⟨n, rfl⟩ : ∃ n : Nat, m = (n : Int) := ⟨m.toNat, by omega⟩
    go_enter Try.func39, Try.ntmps39
    go_wp2_with (go_at_call 45; refine (nupTo _ _ _ h).mono ?_; rintro e w' ⟨rfl, rfl⟩)
    go_ret
    exact ⟨rfl, rfl⟩
set_option maxHeartbeats 1000000 in
theorem nwrite (x : Vl) (a : Option Addr) (c : Nat) (hx : x.Ok) (h5 : x.k ≤ 5) (w : World) (v : Value) (h : Nob w v) : Calls Try.prog 12 #[v, agg x (.slice a x.l.length c)] w fun e w' => e = .returned (.tuple #[]) ∧ Below w.heap.size w w' := by
  obtain ⟨k, u, i, b, l, s, n⟩ := x
  have hxi := hx.i
  have hn := hx.n
  simp only at hxi hn h5
  have hw := alloc_below w (.cells #[.int .u8 (k : Int), .int .u64 (u : Int), .int .i64 i, .bool b, .slice a l.length c, .string ⟨s.toArray⟩, .int .i64 n] 29)
  have h1 := h.below hw
  replace hw := hid hw
  clear h hx
  unfold agg
  obtain rfl | rfl | rfl | rfl | rfl | rfl : k = 0 ∨ k = 1 ∨ k = 2 ∨ k = 3 ∨ k = 4 ∨ k = 5 := by omega
  · have hc := hid (nuint (u : Int) _ _ h1)
    unfold str at *
    go_enter Try.func12, Try.ntmps12
    go_wp2_with (go_at_call 24; refine hc.out.mono ?_; rintro e w' ⟨rfl, rfl⟩)
    go_end0
    exact ⟨rfl, hw.out⟩
  · have hc := hid (nint i hxi _ _ h1)
    unfold str at *
    go_enter Try.func12, Try.ntmps12
    go_wp2_with (go_at_call 26; refine hc.out.mono ?_; rintro e w' ⟨rfl, rfl⟩)
    go_end0
    exact ⟨rfl, hw.out⟩
  · have hc := hid (nbool b _ _ h1)
    unfold str at *
    go_enter Try.func12, Try.ntmps12
    go_wp2_with (go_at_call 27; refine hc.out.mono ?_; rintro e w' ⟨rfl, rfl⟩)
    go_end0
    exact ⟨rfl, hw.out⟩
  · have hc := hid (nbytes a l.length c _ _ h1)
    unfold str at *
    go_enter Try.func12, Try.ntmps12
    go_wp2_with (go_at_call 28; refine hc.out.mono ?_; rintro e w' ⟨rfl, rfl⟩)
    go_end0
    exact ⟨rfl, hw.out⟩
  · have hc := hid (ntext s _ _ h1)
    unfold str at *
    go_enter Try.func12, Try.ntmps12
    go_wp2_with (go_at_call 29; refine hc.out.mono ?_; rintro e w' ⟨rfl, b⟩)
    go_end0
    exact ⟨rfl, hw.out.trans (b.mono hw.out.size)⟩
  · have hc := hid (nlen n hn _ _ h1)
    unfold str at *
    go_enter Try.func12, Try.ntmps12
    go_wp2_with (go_at_call 30; refine hc.out.mono ?_; rintro e w' ⟨rfl, rfl⟩)
    go_end0
    exact ⟨rfl, hw.out⟩
set_option maxHeartbeats 1000000 in
theorem nread (k : Nat) (most : Int) (hk : k ≤ 5) (hm : most ≤ 9223372036854775807) (w : World) (v : Value) (h : Nob w v) : Calls Try.prog 17 #[v, .int .u8 (k : Int), .int .i64 most] w fun e w' => e = .returned (agg (zeroV k) (.slice none 0 0)) ∧ Below w.heap.size w w' := by
  have hw := ((Below.refl w.heap.size w).alloc (Nat.le_refl _) (.cells (zcells 0) 29)).alloc (by simp) (.cells (zcells (k : Int)) 29)
  have h1 := h.below hw
  replace hw := hid hw
  clear h
  obtain rfl | rfl | rfl | rfl | rfl | rfl : k = 0 ∨ k = 1 ∨ k = 2 ∨ k = 3 ∨ k = 4 ∨ k = 5 := by omega
  · have hc := hid (nruint _ _ h1)
    clear h1 hw
    unfold zcells at hc
    go_enter Try.func17, Try.ntmps17
    go_wp2_with (go_at_call 34; refine hc.out.mono ?_; rintro e w' ⟨rfl, rfl⟩)
    refine bodyPost_ret (v := agg (zeroV _) (.slice none 0 0)) ?_ rfl ⟨rfl, ((Below.refl _ _).alloc (Nat.le_refl _) _).alloc (by simp) _⟩
    simp [results, Try.results17, go_sem]
    rfl
  · have hc := hid (nrint _ _ h1)
    clear h1 hw
    unfold zcells at hc
    go_enter Try.func17, Try.ntmps17
    go_wp2_with (go_at_call 35; refine hc.out.mono ?_; rintro e w' ⟨rfl, rfl⟩)
    refine bodyPost_ret (v := agg (zeroV _) (.slice none 0 0)) ?_ rfl ⟨rfl, ((Below.refl _ _).alloc (Nat.le_refl _) _).alloc (by simp) _⟩
    simp [results, Try.results17, go_sem]
    rfl
  · have hc := hid (nrbool _ _ h1)
    clear h1 hw
    unfold zcells at hc
    go_enter Try.func17, Try.ntmps17
    go_wp2_with (go_at_call 36; refine hc.out.mono ?_; rintro e w' ⟨rfl, rfl⟩)
    refine bodyPost_ret (v := agg (zeroV _) (.slice none 0 0)) ?_ rfl ⟨rfl, ((Below.refl _ _).alloc (Nat.le_refl _) _).alloc (by simp) _⟩
    simp [results, Try.results17, go_sem]
    rfl
  · have hc := hid (nrbytes _ _ h1)
    clear h1 hw
    unfold zcells at hc
    go_enter Try.func17, Try.ntmps17
    go_wp2_with (go_at_call 37; refine hc.out.mono ?_; rintro e w' ⟨rfl, rfl⟩)
    refine bodyPost_ret (v := agg (zeroV _) (.slice none 0 0)) ?_ rfl ⟨rfl, ((Below.refl _ _).alloc (Nat.le_refl _) _).alloc (by simp) _⟩
    simp [results, Try.results17, go_sem]
    rfl
  · have hc := hid (nrtext _ _ h1)
    clear h1 hw
    unfold zcells at hc
    go_enter Try.func17, Try.ntmps17
    go_wp2_with (go_at_call 38; refine hc.out.mono ?_; rintro e w' ⟨rfl, rfl⟩)
    refine bodyPost_ret (v := agg (zeroV _) (.slice none 0 0)) ?_ rfl ⟨rfl, ((Below.refl _ _).alloc (Nat.le_refl _) _).alloc (by simp) _⟩
    simp [results, Try.results17, go_sem]
    rfl
  · have hc := hid (nrlen most hm _ _ h1)
    clear h1 hw
    unfold zcells at hc
    go_enter Try.func17, Try.ntmps17
    go_wp2_with (go_at_call 39; refine hc.out.mono ?_; rintro e w' ⟨rfl, rfl⟩)
    refine bodyPost_ret (v := agg (zeroV _) (.slice none 0 0)) ?_ rfl ⟨rfl, ((Below.refl _ _).alloc (Nat.le_refl _) _).alloc (by simp) _⟩
    simp [results, Try.results17, go_sem]
    rfl
end Go.Proofs.Ythhfahnlcoiblaa
