/- Contracts of look and find: a name's file is handed to a function. -/
import Derived.Test.YtinnegkkfaaceaaW1
import Derived.Shelf.Abstract
namespace Go.Proofs.Ytinnegkkfaaceaa
open Go.RowKit Go.Maps Go.Shelf

/-- what is found of a name in the map. -/
theorem lookup_any {B sb : Nat} {g : Gs} {w : World} (h : StoreAt B w sb g) (n : List UInt8) (hn : n.length ≤ maxLen) :
    (Instr.lookup 50 (.map (some g.mb)) (str n) false).run Try.prog w = .ok (match look n g.l with | some f => ptr f.fb | none => .pointer none) w := by
  obtain ⟨D, hD, hM⟩ := h.map
  obtain ⟨v, ps, hrun, hv⟩ := hD.lookup law Try.underlying50 (zeroP w) (zd := .nil) (zp := []) rfl (keyAt n hn)
  rw [hrun]
  cases hl : look n g.l with
  | none => rw [hM.zero (look_none hl)] at hv; rw [ptrR_nil hv]
  | some f =>
    obtain ⟨h1, h2⟩ := look_some hl
    have := hM.at_ f h1 .nil
    rw [h2] at this
    rw [this] at hv
    rw [ptrR_inv hv]
set_option maxHeartbeats 400000 in
theorem look_nil (w : World) (n : List UInt8) (v : Value) (k : Nat) (lb : Array Value) (hm : Calls Try.prog 51 #[v] w fun e w' => e = .returned (.bool false) ∧ w' = w) :
    Calls Try.prog 47 #[v, str n, .func (.func k) #[] lb] w fun e w' => e = .returned (.int .i64 1) ∧ w' = w := by
  have hm := hid hm
  unfold str
  go_enter Try.func47, Try.ntmps47
  go_wp2_with (go_at_call 51; refine hm.out.mono ?_; rintro e w' ⟨rfl, rfl⟩)
  go_ret
  exact ⟨rfl, rfl⟩
set_option maxHeartbeats 400000 in
theorem look_dead {B sb : Nat} {g : Gs} (w : World) (h : StoreAt B w sb g) (hd : g.left = 0) (n : List UInt8) (k : Nat) (lb : Array Value) :
    Calls Try.prog 47 #[ptr sb, str n, .func (.func k) #[] lb] w fun e w' => e = .returned (.int .i64 30) ∧ w' = w := by
  have hm := hid (made_yes w h)
  have hdd := dead_any w h
  rw [hd] at hdd
  have hdd := hid hdd
  unfold ptr at hm hdd ⊢
  unfold str
  clear h hd
  go_enter Try.func47, Try.ntmps47
  go_wp2_with (first | (go_at_call 51; refine hm.out.mono ?_; rintro e w' ⟨rfl, rfl⟩) | (go_at_call 24; refine hdd.out.mono ?_; rintro e w' ⟨rfl, rfl⟩))
  go_ret
  exact ⟨rfl, rfl⟩
set_option maxHeartbeats 1000000 in
theorem look_live {B sb : Nat} {g : Gs} (w : World) (h : StoreAt B w sb g) (hd : g.left ≠ 0) (n : List UInt8) (hn : n.length ≤ maxLen) (k : Nat) (lb : Array Value) (ek : Enters Try.prog k) (Q : Int → World → Prop)
    (hc : Calls Try.prog k (#[match look n g.l with | some f => ptr f.fb | none => .pointer none] ++ lb) w fun e w' => ∃ r : Int, e = .returned (.int .i64 r) ∧ Q r w') :
    Calls Try.prog 47 #[ptr sb, str n, .func (.func k) #[] lb] w fun e w' => ∃ r : Int, e = .returned (.int .i64 r) ∧ Q r w' := by
  have hm := hid (made_yes w h)
  have hdd := dead_any w h
  rw [show (g.left == 0) = false by simpa using hd] at hdd
  have hdd := hid hdd
  have hlk := lookup_any h n hn
  have c0 : w.cell? ⟨sb, 0, none⟩ = some (.map (some g.mb)) := by rw [cell_of h.cell]; rfl
  generalize (match look n g.l with | some f => ptr f.fb | none => .pointer none) = fv at hlk hc
  have hc := hid hc
  have ek' : ∀ (args : Array Value) (w : World), (callFunc k args).run Try.prog w = .ok (.enter k args) w := ek
  unfold ptr at hm hdd ⊢
  unfold str at hlk ⊢
  clear h hd hn ek
  go_enter Try.func47, Try.ntmps47
  go_wp2_with (first | (go_at_call 51; refine hm.out.mono ?_; rintro e w' ⟨rfl, rfl⟩) | (go_at_call 24; refine hdd.out.mono ?_; rintro e w' ⟨rfl, rfl⟩) | (go_at_fn k; refine hc.out.mono ?_; rintro e w' ⟨r, rfl, hq⟩; have hq := hid hq))
  go_ret
  exact ⟨r, rfl, hq.out⟩
end Go.Proofs.Ytinnegkkfaaceaa
