/- Contract of answers; strings.Clone. -/
import Derived.Test.YtihgikekkgoddaaGreatDoorZL9
import Derived.Test.YtihgikekkgoddaaGreatDoorZLO
namespace Go.Proofs.YtihgikekkgoddaaGreatDoor
open Go.RowKit Go.Shelf Sto

set_option maxHeartbeats 400000 in
theorem clone_str (w : World) (s : List UInt8) (hl : s.length ≤ 1000) : Calls Tryz.prog 23 #[str s] w fun e w' => e = .returned (str s) ∧ Below w.heap.size w w' := by
  have hc := hid (Tryz.stringslite_Clone ⟨s.toArray⟩ w (by show s.toArray.size ≤ _; simp; omega))
  unfold str
  go_enter Tryz.func23, Tryz.ntmps23
  go_wp2_with fail
  refine hc.out.mono ?_
  rintro e w1 ⟨rfl, hb⟩
  go_wp2
  go_ret
  exact ⟨rfl, hb⟩
theorem no_empty {B sb : Nat} {w : World} {g : Gs} {t : St} (h : Is B w sb g t) : lookE [] t.l = none := by
  cases e : lookE [] t.l with
  | none => rfl
  | some f =>
    have hm := List.mem_of_find?_eq_some e
    have hn := List.find?_some e
    rw [← h.2.1] at hm
    obtain ⟨f0, h0, rfl⟩ := List.mem_map.1 hm
    have := (h.1.files f0 h0).nm.1
    simp [Fg.e] at hn
    rw [hn] at this; simp at this
set_option maxHeartbeats 400000 in
theorem answers_any {B sb : Nat} {g : Gs} {t : St} (w : World) (h : Is B w sb g t) :
    Calls Tryz.prog 22 #[ptr sb] w fun e w' => e = .returned (.int .i64 (if t.left = 0 then 30 else 0)) ∧ Below w.heap.size w w' := by
  have hs : t.get [] (fun f => f.b.length) = (0, if t.left = 0 then 30 else 31) := by
    unfold St.get
    rw [no_empty h]
    split <;> simp
  have hz := hid (size_t w h [] (by simp) hs)
  clear h hs
  unfold str ptr at *
  by_cases h0 : t.left = 0
  · rw [if_pos h0] at hz ⊢
    clear h0
    go_enter Tryz.func22, Tryz.ntmps22
    go_wp2_with fail
    refine hz.out.mono ?_
    rintro e w1 ⟨rfl, hb⟩
    replace hb := hid hb
    go_wp2
    go_ret
    exact ⟨rfl, hb.out⟩
  · rw [if_neg h0] at hz ⊢
    clear h0
    go_enter Tryz.func22, Tryz.ntmps22
    go_wp2_with fail
    refine hz.out.mono ?_
    rintro e w1 ⟨rfl, hb⟩
    replace hb := hid hb
    go_wp2
    go_ret
    exact ⟨rfl, hb.out⟩
/-- a closure that calls a function of the log. -/
def Errs (Q : Int → World → Prop) (e : Ending) (w : World) : Prop := ∃ r : Int, e = .returned (.int .i64 r) ∧ Q r w
set_option maxHeartbeats 400000 in
theorem open1 (w : World) (bl lb : Nat) (Q : Int → World → Prop) (hb : w.cell? ⟨bl, 0, none⟩ = some (ptr lb)) (hc : Calls Tryz.prog 26 #[ptr lb] w (Errs Q)) : Calls Tryz.prog 25 #[ptr bl] w (Errs Q) := by
  replace hc := hid hc
  unfold ptr at *
  go_enter Tryz.func25, Tryz.ntmps25
  go_wp2_with fail
  refine hc.out.mono ?_
  rintro e w1 ⟨r, rfl, hq⟩
  go_wp2
  go_ret
  exact ⟨r, rfl, hq⟩
set_option maxHeartbeats 400000 in
theorem open3 (w : World) (bl lb : Nat) (Q : Int → World → Prop) (hb : w.cell? ⟨bl, 0, none⟩ = some (ptr lb)) (hc : Calls Tryz.prog 30 #[ptr lb] w (Errs Q)) : Calls Tryz.prog 29 #[ptr bl] w (Errs Q) := by
  replace hc := hid hc
  unfold ptr at *
  go_enter Tryz.func29, Tryz.ntmps29
  go_wp2_with fail
  refine hc.out.mono ?_
  rintro e w1 ⟨r, rfl, hq⟩
  go_wp2
  go_ret
  exact ⟨r, rfl, hq⟩
set_option maxHeartbeats 400000 in
theorem open5 (w : World) (bl lb : Nat) (Q : Int → World → Prop) (hb : w.cell? ⟨bl, 0, none⟩ = some (ptr lb)) (hc : Calls Tryz.prog 34 #[ptr lb] w (Errs Q)) : Calls Tryz.prog 33 #[ptr bl] w (Errs Q) := by
  replace hc := hid hc
  unfold ptr at *
  go_enter Tryz.func33, Tryz.ntmps33
  go_wp2_with fail
  refine hc.out.mono ?_
  rintro e w1 ⟨r, rfl, hq⟩
  go_wp2
  go_ret
  exact ⟨r, rfl, hq⟩
/-- a closure that keeps what the function tells in a box. -/
def Tells (bs : Nat) (Q : Value → Int → World → Prop) (e : Ending) (w : World) : Prop := ∃ (a : Option Addr) (n c : Nat) (r : Int) (v0 : Value), e = .returned (.tuple #[.slice a n c, .int .i64 r]) ∧ w.cell? ⟨bs, 0, none⟩ = some v0 ∧ w.frozen? ⟨bs, 0, none⟩ = false ∧ Q (.slice a n c) r (w.setCell ⟨bs, 0, none⟩ (.slice a n c))
set_option maxHeartbeats 400000 in
theorem open2 (w : World) (bl bs lb : Nat) (Q : Value → Int → World → Prop) (hb : w.cell? ⟨bl, 0, none⟩ = some (ptr lb)) (hc : Calls Tryz.prog 28 #[ptr lb] w (Tells bs Q)) : Calls Tryz.prog 27 #[ptr bl, ptr bs] w (Errs fun r w' => ∃ v, Q v r w') := by
  replace hc := hid hc
  unfold ptr at *
  go_enter Tryz.func27, Tryz.ntmps27
  go_wp2_with fail
  refine hc.out.mono ?_
  rintro e w1 ⟨a, n, c, r, v0, rfl, h1, h2, hq⟩
  replace hq := hid hq
  go_wp2
  go_ret
  exact ⟨r, rfl, _, hq.out⟩
set_option maxHeartbeats 400000 in
theorem open4 (w : World) (bl bs lb : Nat) (Q : Value → Int → World → Prop) (hb : w.cell? ⟨bl, 0, none⟩ = some (ptr lb)) (hc : Calls Tryz.prog 32 #[ptr lb] w (Tells bs Q)) : Calls Tryz.prog 31 #[ptr bl, ptr bs] w (Errs fun r w' => ∃ v, Q v r w') := by
  replace hc := hid hc
  unfold ptr at *
  go_enter Tryz.func31, Tryz.ntmps31
  go_wp2_with fail
  refine hc.out.mono ?_
  rintro e w1 ⟨a, n, c, r, v0, rfl, h1, h2, hq⟩
  replace hq := hid hq
  go_wp2
  go_ret
  exact ⟨r, rfl, _, hq.out⟩
end Go.Proofs.YtihgikekkgoddaaGreatDoor
