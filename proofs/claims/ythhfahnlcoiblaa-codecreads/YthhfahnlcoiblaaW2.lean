/- Contracts of the writer's Text, of the law's write. -/
import Derived.Test.YthhfahnlcoiblaaW1
import Derived.Lib.ConvBytes
namespace Go.Proofs.Ythhfahnlcoiblaa
open Go.RowKit

theorem ints_getD (s : List UInt8) (i : Nat) (hi : i < s.length) : (ints s).getD i 0 = ((s.getD i 0).toNat : Int) := by
  simp [ints, List.getD, List.getElem?_map, List.getElem?_eq_getElem hi]
theorem text_conv (s : List UInt8) (w : World) : (convert 9 26 (.string ⟨s.toArray⟩)).run Try.prog w = .ok (.slice (some ⟨w.heap.size, 0, none⟩) s.length (grownCap w s.length 0 5)) (Lib.bytesWorld w 5 ⟨s.toArray⟩) := by
  have := Lib.run_convert_string_bytes (P := Try.prog) w 9 26 5 ⟨s.toArray⟩ Try.underlying9 Try.underlying26 Try.underlying5
  simpa [ByteArray.size] using this
theorem text_below (s : List UInt8) (w : World) : Below w.heap.size w (Lib.bytesWorld w 5 ⟨s.toArray⟩) :=
  ⟨rfl, rfl, rfl, by rw [Lib.bytesWorld_size]; omega, fun k hk => Lib.bytesWorld_at_old _ _ _ k hk⟩
theorem text_isB (s : List UInt8) (w : World) (hs : s.length ≤ 70368744177664) : IsB (Lib.bytesWorld w 5 ⟨s.toArray⟩) (.slice (some ⟨w.heap.size, 0, none⟩) s.length (grownCap w s.length 0 5)) (ints s) := by
  have hm : s.length ≤ maxLen := by unfold maxLen; omega
  refine ⟨by rw [ints_len]; exact hm, ints_byt s, _, _, by rw [ints_len], by rw [ints_len]; exact grownCap_ge w s.length 0 5, grownCap_le_maxLen w s.length 0 5 (by unfold maxLen; omega), .inr ⟨_, 0, rfl, fun i hi => ?_⟩⟩
  rw [ints_len] at hi
  rw [Nat.zero_add, Lib.bytesWorld_cell _ _ _ _ (by simpa [ByteArray.size] using hi), ints_getD s i hi]
set_option maxHeartbeats 400000 in
theorem wtext {F : Nat → Prop} {p q : Nat} {sv : Value} {zs : List Int} (s : List UInt8) (w : World) (h : WAt F w p q sv zs) (hs : s.length ≤ 70368744177664) (hl : zs.length ≤ 35184372088832) :
    Calls Try.prog 29 #[ptr p, str s] w fun e w' => e = .returned (.tuple #[]) ∧ WTo F w w' p (zs ++ (vi s.length ++ ints s)) := by
  have hc := text_conv s w
  have hb := hid (wbytes _ _ (h.below (text_below s w)) (fun w' k' => (text_isB s w hs).block fun b hb hl => k'.block b hl fun hf => by have e : w.heap.size = b := Option.some.inj hb; have := h.row.lt _ hf; omega) (by rw [ints_len]; omega) hl)
  rw [ints_len] at hb
  have hw := hid (text_below s w)
  unfold ptr str at *
  clear h
  generalize Lib.bytesWorld w 5 ⟨s.toArray⟩ = w1 at *
  generalize grownCap w s.length 0 5 = cp at *
  go_enter Try.func29, Try.ntmps29
  go_wp2_with (go_at_call 28; refine hb.out.mono ?_; rintro e w' ⟨rfl, t⟩)
  go_end0
  exact ⟨rfl, WTo.after hw.out t⟩
/-- a value, as it is handed over. -/
def agg (x : Vl) (lv : Value) : Value := .agg #[.int .u8 (x.k : Int), .int .u64 (x.u : Int), .int .i64 x.i, .bool x.b, lv, str x.s, .int .i64 x.n]
/-- .. its cells. -/
def cellsV (x : Vl) (lv : Value) : Array Value := #[.int .u8 (x.k : Int), .int .u64 (x.u : Int), .int .i64 x.i, .bool x.b, lv, str x.s, .int .i64 x.n]
theorem WTo.same {F : Nat → Prop} {w w' : World} {p : Nat} {zs zs' : List Int} (h : WTo F w w' p zs) (e : zs = zs') : WTo F w w' p zs' := e ▸ h
set_option maxHeartbeats 1000000 in
theorem write_any {F : Nat → Prop} {p q : Nat} {sv : Value} {zs : List Int} (x : Vl) (lv : Value) (w : World) (h : WAt F w p q sv zs) (hx : x.Ok) (hv : ∀ w', Kept F w w' → IsB w' lv x.l) (hls : x.l.length ≤ 70368744177664) (hss : x.s.length ≤ 70368744177664) (hl : zs.length ≤ 35184372088832) :
    Calls Try.prog 12 #[ptr p, agg x lv] w fun e w' => e = .returned (.tuple #[]) ∧ WTo F w w' p (zs ++ form x) := by
  obtain ⟨a, c, rfl⟩ := (hv w (Kept.refl _ _)).slice
  obtain ⟨k, u, i, b, l, s, n⟩ := x
  have hk := hx.k
  have hu := hx.u
  have hxi := hx.i
  have hn := hx.n
  simp only at hk hu hxi hn hls hss hv
  have hw := alloc_below w (.cells #[.int .u8 (k : Int), .int .u64 (u : Int), .int .i64 i, .bool b, .slice a l.length c, .string ⟨s.toArray⟩, .int .i64 n] 29)
  have h1 := h.below hw
  have hv1 : ∀ w', Kept F (w.alloc (.cells #[.int .u8 (k : Int), .int .u64 (u : Int), .int .i64 i, .bool b, .slice a l.length c, .string ⟨s.toArray⟩, .int .i64 n] 29)) w' → IsB w' (.slice a l.length c) l := fun w' k' => hv w' ((kept_of_below hw).trans k' fun _ h => .inl h)
  replace hw := hid hw
  clear h hv hx
  unfold agg
  obtain rfl | rfl | rfl | rfl | rfl | rfl | ⟨j, rfl⟩ := kinds k
  · have hc := hid (wuint u _ h1 hu (by omega))
    clear h1 hv1
    unfold ptr str at *
    go_enter Try.func12, Try.ntmps12
    go_wp2_with (go_at_call 24; refine hc.out.mono ?_; rintro e w' ⟨rfl, t⟩)
    go_end0
    exact ⟨rfl, WTo.after hw.out t⟩
  · have hc := hid (wint i _ h1 hxi (by omega))
    clear h1 hv1
    unfold ptr str at *
    go_enter Try.func12, Try.ntmps12
    go_wp2_with (go_at_call 26; refine hc.out.mono ?_; rintro e w' ⟨rfl, t⟩)
    go_end0
    exact ⟨rfl, WTo.after hw.out t⟩
  · have hc := hid (wbool b _ h1 (by omega))
    clear h1 hv1
    unfold ptr str at *
    go_enter Try.func12, Try.ntmps12
    go_wp2_with (go_at_call 27; refine hc.out.mono ?_; rintro e w' ⟨rfl, t⟩)
    go_end0
    exact ⟨rfl, WTo.after hw.out t⟩
  · have hc := hid (wbytes _ _ h1 hv1 hls hl)
    clear h1 hv1
    unfold ptr str at *
    go_enter Try.func12, Try.ntmps12
    go_wp2_with (go_at_call 28; refine hc.out.mono ?_; rintro e w' ⟨rfl, t⟩)
    go_end0
    exact ⟨rfl, WTo.after hw.out t⟩
  · have hc := hid (wtext s _ h1 hss hl)
    clear h1 hv1
    unfold ptr str at *
    go_enter Try.func12, Try.ntmps12
    go_wp2_with (go_at_call 29; refine hc.out.mono ?_; rintro e w' ⟨rfl, t⟩)
    go_end0
    exact ⟨rfl, WTo.after hw.out t⟩
  · have hc := hid (wlen n _ h1 hn (by omega))
    clear h1 hv1
    unfold ptr str at *
    go_enter Try.func12, Try.ntmps12
    go_wp2_with (go_at_call 30; refine hc.out.mono ?_; rintro e w' ⟨rfl, t⟩)
    go_end0
    exact ⟨rfl, WTo.after hw.out t⟩
  · have ht := hid (WTo.after hw.out h1.to)
    clear h1 hv1
    have e0 : (((j + 6 : Nat) : Int) == 0) = false := by simp; omega
    have e1 : (((j + 6 : Nat) : Int) == 1) = false := by simp; omega
    have e2 : (((j + 6 : Nat) : Int) == 2) = false := by simp; omega
    have e3 : (((j + 6 : Nat) : Int) == 3) = false := by simp; omega
    have e4 : (((j + 6 : Nat) : Int) == 4) = false := by simp; omega
    have e5 : (((j + 6 : Nat) : Int) == 5) = false := by simp; omega
    generalize ((j + 6 : Nat) : Int) = kk at *
    unfold ptr str at *
    go_enter Try.func12, Try.ntmps12
    go_wp2
    go_end0
    refine ⟨rfl, ?_⟩
    have := ht.out
    simpa [form] using this
end Go.Proofs.Ythhfahnlcoiblaa
