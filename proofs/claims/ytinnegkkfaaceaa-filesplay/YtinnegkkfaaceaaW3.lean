/- Contracts of find and tell: a file that must be there is handed to a function; or is asked for a number. -/
import Derived.Test.YtinnegkkfaaceaaW2
namespace Go.Proofs.Ytinnegkkfaaceaa
open Go.RowKit Go.Maps Go.Shelf

theorem mkf : ∀ (fn : Fn) (first cap : Array Value) (w : World), (Instr.makeFunc fn first cap).run Try.prog w = .ok (.func fn first cap) w := fun _ _ _ _ => rfl
theorem e62 : Enters Try.prog 62 := enters_of Try.func62 (by kernel_rfl) rfl
/-- the world behind the laying of the function that find hands on. -/
def boxed (w : World) (k : Nat) (lb : Array Value) : World := w.alloc (.cells #[.func (.func k) #[] lb] 77)
theorem boxed_below (w : World) (k : Nat) (lb : Array Value) : Below w.heap.size w (boxed w k lb) := (Below.refl _ _).alloc (Nat.le_refl _) _
theorem boxed_size (w : World) (k : Nat) (lb : Array Value) : (boxed w k lb).heap.size = w.heap.size + 1 := by simp [boxed]

set_option maxHeartbeats 400000 in
theorem find1_nil (w : World) (a : Value) : Calls Try.prog 62 #[.pointer none, a] w fun e w' => e = .returned (.int .i64 31) ∧ w' = w := by
  go_enter Try.func62, Try.ntmps62
  go_wp2
  go_ret
  exact ⟨rfl, rfl⟩
set_option maxHeartbeats 400000 in
theorem find1_hit (w : World) (fb b k : Nat) (lb : Array Value) (hcell : w.cell? ⟨b, 0, none⟩ = some (.func (.func k) #[] lb)) (ek : Enters Try.prog k) (Q : Int → World → Prop)
    (hc : Calls Try.prog k (#[ptr fb] ++ lb) w fun e w' => ∃ r : Int, e = .returned (.int .i64 r) ∧ Q r w') :
    Calls Try.prog 62 #[ptr fb, ptr b] w fun e w' => ∃ r : Int, e = .returned (.int .i64 r) ∧ Q r w' := by
  have hc := hid hc
  have ek' : ∀ (args : Array Value) (w : World), (callFunc k args).run Try.prog w = .ok (.enter k args) w := ek
  unfold ptr at hc ⊢
  clear ek
  go_enter Try.func62, Try.ntmps62
  go_wp2_with (go_at_fn k; refine hc.out.mono ?_; rintro e w' ⟨r, rfl, hq⟩; have hq := hid hq)
  go_ret
  exact ⟨r, rfl, hq.out⟩

set_option maxHeartbeats 400000 in
theorem find_of {v : Value} (w : World) (n : List UInt8) (k : Nat) (lb : Array Value) (Q : Int → World → Prop)
    (hc : Calls Try.prog 47 #[v, str n, .func (.func 62) #[] #[ptr w.heap.size]] (boxed w k lb) fun e w' => ∃ r : Int, e = .returned (.int .i64 r) ∧ Q r w') :
    Calls Try.prog 40 #[v, str n, .func (.func k) #[] lb] w fun e w' => ∃ r : Int, e = .returned (.int .i64 r) ∧ Q r w' := by
  have hc := hid hc
  unfold ptr boxed str at hc
  unfold str
  have hmf := mkf
  go_enter Try.func40, Try.ntmps40
  go_wp2_with (go_at_call 47; refine hc.out.mono ?_; rintro e w' ⟨r, rfl, hq⟩; have hq := hid hq)
  go_ret
  exact ⟨r, rfl, hq.out⟩
theorem find_ofr {v : Value} (w : World) (n : List UInt8) (k : Nat) (lb : Array Value) (x : Int)
    (hc : Calls Try.prog 47 #[v, str n, .func (.func 62) #[] #[ptr w.heap.size]] (boxed w k lb) fun e w' => e = .returned (.int .i64 x) ∧ w' = boxed w k lb) :
    Calls Try.prog 40 #[v, str n, .func (.func k) #[] lb] w fun e w' => e = .returned (.int .i64 x) ∧ w' = boxed w k lb := by
  refine (find_of w n k lb (fun r w' => r = x ∧ w' = boxed w k lb) (hc.mono ?_)).mono ?_
  · rintro e w' ⟨rfl, rfl⟩; exact ⟨_, rfl, rfl, rfl⟩
  · rintro e w' ⟨r, rfl, rfl, rfl⟩; exact ⟨rfl, rfl⟩
theorem find_nil {v : Value} (w : World) (n : List UInt8) (k : Nat) (lb : Array Value) (hm : ∀ w1, Below w.heap.size w w1 → Calls Try.prog 51 #[v] w1 fun e w' => e = .returned (.bool false) ∧ w' = w1) :
    Calls Try.prog 40 #[v, str n, .func (.func k) #[] lb] w fun e w' => e = .returned (.int .i64 1) ∧ w' = boxed w k lb := by
  exact find_ofr w n k lb _ (look_nil _ n v _ _ (hm _ (boxed_below w k lb)))
theorem find_dead {B sb : Nat} {g : Gs} (w : World) (h : StoreAt B w sb g) (hd : g.left = 0) (n : List UInt8) (k : Nat) (lb : Array Value) :
    Calls Try.prog 40 #[ptr sb, str n, .func (.func k) #[] lb] w fun e w' => e = .returned (.int .i64 30) ∧ w' = boxed w k lb := by
  exact find_ofr w n k lb _ (look_dead _ (h.below (boxed_below w k lb)) hd n _ _)
theorem find_miss {B sb : Nat} {g : Gs} (w : World) (h : StoreAt B w sb g) (hd : g.left ≠ 0) (n : List UInt8) (hn : n.length ≤ maxLen) (k : Nat) (lb : Array Value) (hl : look n g.l = none) :
    Calls Try.prog 40 #[ptr sb, str n, .func (.func k) #[] lb] w fun e w' => e = .returned (.int .i64 31) ∧ w' = boxed w k lb := by
  refine find_ofr w n k lb _ ((look_live _ (h.below (boxed_below w k lb)) hd n hn _ _ e62 (fun r w' => r = 31 ∧ w' = boxed w k lb) ?_).mono ?_)
  · rw [hl]
    refine (find1_nil (boxed w k lb) _).mono ?_
    rintro e w' ⟨rfl, rfl⟩
    exact ⟨_, rfl, rfl, rfl⟩
  · rintro e w' ⟨r, rfl, rfl, rfl⟩
    exact ⟨rfl, rfl⟩
theorem find_hit {B sb : Nat} {g : Gs} (w : World) (h : StoreAt B w sb g) (hd : g.left ≠ 0) (n : List UInt8) (hn : n.length ≤ maxLen) (k : Nat) (lb : Array Value) (ek : Enters Try.prog k) {f : Fg} (hl : look n g.l = some f) (Q : Int → World → Prop)
    (hc : Calls Try.prog k (#[ptr f.fb] ++ lb) (boxed w k lb) fun e w' => ∃ r : Int, e = .returned (.int .i64 r) ∧ Q r w') :
    Calls Try.prog 40 #[ptr sb, str n, .func (.func k) #[] lb] w fun e w' => ∃ r : Int, e = .returned (.int .i64 r) ∧ Q r w' := by
  refine find_of w n k lb _ (look_live _ (h.below (boxed_below w k lb)) hd n hn _ _ e62 Q ?_)
  rw [hl]
  exact find1_hit (boxed w k lb) f.fb w.heap.size k lb (by simp [boxed]) ek Q hc

/-- tell: its two new blocks. -/
def told (w : World) (k : Nat) : World := (w.alloc (.cells #[.func (.func k) #[] #[]] 79)).alloc (.cells #[.int .i64 0] 3)
theorem told_below (w : World) (k : Nat) : Below w.heap.size w (told w k) := ((Below.refl _ _).alloc (Nat.le_refl _) _).alloc (by simp) _
theorem e63 : Enters Try.prog 63 := enters_of Try.func63 (by kernel_rfl) rfl
set_option maxHeartbeats 400000 in
theorem tell1_hit (w : World) (fb b b' k : Nat) (x y : Int) (hcell : w.cell? ⟨b, 0, none⟩ = some (.func (.func k) #[] #[])) (hcell' : w.cell? ⟨b', 0, none⟩ = some (.int .i64 y)) (hfz : w.frozen? ⟨b', 0, none⟩ = false) (ek : Enters Try.prog k)
    (hc : Calls Try.prog k #[ptr fb] w fun e w' => e = .returned (.int .i64 x) ∧ w' = w) :
    Calls Try.prog 63 #[ptr fb, ptr b, ptr b'] w fun e w' => e = .returned (.int .i64 0) ∧ w' = w.setCell ⟨b', 0, none⟩ (.int .i64 x) := by
  have hc := hid hc
  have ek' : ∀ (args : Array Value) (w : World), (callFunc k args).run Try.prog w = .ok (.enter k args) w := ek
  unfold ptr at hc ⊢
  clear ek
  go_enter Try.func63, Try.ntmps63
  go_wp2_with (go_at_fn k; refine hc.out.mono ?_; rintro e w' ⟨rfl, rfl⟩)
  go_ret
  exact ⟨rfl, rfl⟩
set_option maxHeartbeats 1000000 in
theorem tell_of {v : Value} (w : World) (n : List UInt8) (k : Nat) (x r : Int)
    (hc : Calls Try.prog 40 #[v, str n, .func (.func 63) #[] #[ptr w.heap.size, ptr (w.heap.size + 1)]] (told w k) fun e w' => e = .returned (.int .i64 r) ∧ Below w.heap.size w w' ∧ w'.cell? ⟨w.heap.size + 1, 0, none⟩ = some (.int .i64 x)) :
    Calls Try.prog 43 #[v, str n, .func (.func k) #[] #[]] w fun e w' => e = .returned (.tuple #[.int .i64 x, .int .i64 r]) ∧ Below w.heap.size w w' := by
  have hc := hid hc
  unfold ptr told str at hc
  unfold str
  have hmf := mkf
  go_enter Try.func43, Try.ntmps43
  go_wp2_with (go_at_call 40; refine hc.out.mono ?_; rintro e w' ⟨rfl, hq, hx⟩; have hq := hid hq)
  go_ret2
  exact ⟨rfl, hq.out⟩
end Go.Proofs.Ytinnegkkfaaceaa
