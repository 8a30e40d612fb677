/- Contracts of New, Size, Synced, Read. -/
import Derived.Test.YtinnegkkfaaceaaW12
namespace Go.Proofs.Ytinnegkkfaaceaa
open Go.RowKit Go.Maps Go.MapKept Go.Shelf

def g0 (mb : Nat) : Gs := ⟨mb, [], 0, -1⟩
theorem foot_g0 {sb mb k : Nat} (h : foot sb (g0 mb) k) : k = sb ∨ k = mb := by
  rcases h with h | h | ⟨x, hx, _⟩
  · exact .inl h
  · exact .inr h
  · cases hx
set_option maxHeartbeats 400000 in
theorem new_any (w : World) : Calls Try.prog 10 #[] w fun e w' => e = .returned (ptr (w.heap.size + 1)) ∧ StoreAt w.heap.size w' (w.heap.size + 1) (g0 w.heap.size) ∧ Below w.heap.size w w' ∧ w'.heap.size = w.heap.size + 2 := by
  have hmm := @run_makeMap Try.prog
  go_enter Try.func10, Try.ntmps10
  go_wp2
  go_ret
  have hb : Below w.heap.size w ((w.alloc (.map #[] 0)).alloc (.cells #[.map (some w.heap.size), .int .i64 0, .int .i64 (-1)] 52)) := ((Below.refl _ _).alloc (Nat.le_refl _) _).alloc (by simp) _
  have hown := (World.ownsMap_made w Try.prog 9 ptrR).alloc (.cells #[.map (some w.heap.size), .int .i64 0, .int .i64 (-1)] 52)
  refine ⟨rfl, ⟨?_, ⟨_, hown, ⟨(fun f hf => by cases hf), fun _ _ => rfl, rfl⟩⟩, (fun f hf => by cases hf), (fun f hf => by cases hf), List.Pairwise.nil, Nat.zero_le _, fun k hk => ?_, (by show -9223372036854775808 ≤ (-1 : Int) ∧ (-1 : Int) ≤ 9223372036854775807; omega)⟩, hb, by simp⟩
  · have e : w.heap.size + 1 = (w.alloc (.map #[] 0)).heap.size := by simp
    rw [e]
    exact (MapKept.heap_alloc (w.alloc (.map #[] 0)) _).1
  · rcases foot_g0 hk with rfl | rfl
    · omega
    · exact Nat.le_refl _
def St.read (t : St) (n : List UInt8) : List UInt8 × Int :=
  if t.left = 0 then ([], 30) else
  match lookE n t.l with
  | none => ([], 31)
  | some f => (f.b, 0)
theorem get_dead {g : Gs} (hd : g.left = 0) (n : List UInt8) (k : Ent → Int) : g.abs.get n k = (0, 30) := by unfold St.get; rw [if_pos (show g.abs.left = 0 from hd)]
theorem get_miss {g : Gs} (hd : g.left ≠ 0) {n : List UInt8} (hl : look n g.l = none) (k : Ent → Int) : g.abs.get n k = (0, 31) := by
  unfold St.get; rw [if_neg (show ¬ g.abs.left = 0 from hd), show g.abs.l = g.l.map Fg.e from rfl, map_look, hl]; rfl
theorem get_hit {g : Gs} (hd : g.left ≠ 0) {n : List UInt8} {f : Fg} (hl : look n g.l = some f) (k : Ent → Int) : g.abs.get n k = (k f.e, 0) := by
  unfold St.get; rw [if_neg (show ¬ g.abs.left = 0 from hd), show g.abs.l = g.l.map Fg.e from rfl, map_look, hl]; rfl
theorem read_dead {g : Gs} (hd : g.left = 0) (n : List UInt8) : g.abs.read n = ([], 30) := by unfold St.read; rw [if_pos (show g.abs.left = 0 from hd)]
theorem read_miss {g : Gs} (hd : g.left ≠ 0) {n : List UInt8} (hl : look n g.l = none) : g.abs.read n = ([], 31) := by
  unfold St.read; rw [if_neg (show ¬ g.abs.left = 0 from hd), show g.abs.l = g.l.map Fg.e from rfl, map_look, hl]; rfl
theorem read_hit {g : Gs} (hd : g.left ≠ 0) {n : List UInt8} {f : Fg} (hl : look n g.l = some f) : g.abs.read n = (f.b, 0) := by
  unfold St.read; rw [if_neg (show ¬ g.abs.left = 0 from hd), show g.abs.l = g.l.map Fg.e from rfl, map_look, hl]; rfl

theorem tell_any {B sb : Nat} {g : Gs} (w : World) (h : StoreAt B w sb g) (n : List UInt8) (hn : n.length ≤ maxLen) (k : Nat) (ek : Enters Try.prog k) (K : Ent → Int)
    (hk : ∀ w' (f : Fg), FileAt w' f → Calls Try.prog k #[ptr f.fb] w' fun e w2 => e = .returned (.int .i64 (K f.e)) ∧ w2 = w') :
    Calls Try.prog 43 #[ptr sb, str n, .func (.func k) #[] #[]] w fun e w' => e = .returned (.tuple #[.int .i64 (g.abs.get n K).1, .int .i64 (g.abs.get n K).2]) ∧ Below w.heap.size w w' := by
  have hb1 := told_below w k
  have h1 := h.below hb1
  have hs1 : (told w k).heap.size = w.heap.size + 2 := by simp [told]
  have c0 : (told w k).cell? ⟨w.heap.size, 0, none⟩ = some (.func (.func k) #[] #[]) := by simp [told]
  have e1 : w.heap.size + 1 = (w.alloc (.cells #[.func (.func k) #[] #[]] 79)).heap.size := by simp
  have b1 : (told w k).heap[w.heap.size + 1]? = some (.cells #[.int .i64 0] 3) := by rw [e1]; exact (MapKept.heap_alloc _ _).1
  have c1 : (told w k).cell? ⟨w.heap.size + 1, 0, none⟩ = some (.int .i64 0) := by rw [cell_of b1]; rfl
  refine tell_of w n k _ _ ?_
  have hbx := boxed_below (told w k) 63 #[ptr w.heap.size, ptr (w.heap.size + 1)]
  have hb2 : Below w.heap.size w (boxed (told w k) 63 #[ptr w.heap.size, ptr (w.heap.size + 1)]) := hb1.trans (hbx.mono (by omega))
  have b2 := (hbx.block (w.heap.size + 1) (by omega)).trans b1
  have d0 := (hbx.cell (p := ⟨w.heap.size, 0, none⟩) (by show w.heap.size < _; omega)).trans c0
  have d1 : (boxed (told w k) 63 #[ptr w.heap.size, ptr (w.heap.size + 1)]).cell? ⟨w.heap.size + 1, 0, none⟩ = some (.int .i64 0) := by rw [cell_of b2]; rfl
  by_cases hd : g.left = 0
  · rw [get_dead hd]
    refine (find_dead _ h1 hd n _ _).mono ?_
    rintro e w' ⟨rfl, rfl⟩
    exact ⟨rfl, hb2, d1⟩
  · cases hl : look n g.l with
    | none =>
      rw [get_miss hd hl]
      refine (find_miss _ h1 hd n hn _ _ hl).mono ?_
      rintro e w' ⟨rfl, rfl⟩
      exact ⟨rfl, hb2, d1⟩
    | some f =>
      rw [get_hit hd hl]
      have hf := (h1.below hbx).files f (look_some hl).1
      refine (find_hit _ h1 hd n hn 63 #[ptr w.heap.size, ptr (w.heap.size + 1)] e63 hl (fun r w' => r = 0 ∧ Below w.heap.size w w' ∧ w'.cell? ⟨w.heap.size + 1, 0, none⟩ = some (.int .i64 (K f.e))) ?_).mono ?_
      · refine (tell1_hit _ f.fb w.heap.size (w.heap.size + 1) k (K f.e) 0 d0 d1 (frozen_of b2 0) ek (hk _ f hf)).mono ?_
        rintro e w' ⟨rfl, rfl⟩
        refine ⟨0, rfl, rfl, ⟨hb2.os, hb2.tape, hb2.output, by rw [size_set]; exact hb2.size, fun i hi => (heap_set _ _ _ _ _ (by omega)).trans (hb2.block i hi)⟩, ?_⟩
        simp [World.cell?, heap_set_at b2]
      · rintro e w' ⟨r, rfl, rfl, h2, h3⟩
        exact ⟨rfl, h2, h3⟩
set_option maxHeartbeats 400000 in
theorem size_any {B sb : Nat} {g : Gs} (w : World) (h : StoreAt B w sb g) (n : List UInt8) (hn : n.length ≤ maxLen) :
    Calls Try.prog 16 #[ptr sb, str n] w fun e w' => e = .returned (.tuple #[.int .i64 (g.abs.get n fun f => f.b.length).1, .int .i64 (g.abs.get n fun f => f.b.length).2]) ∧ Below w.heap.size w w' := by
  have ht := hid (tell_any w h n hn 44 e44 (fun f => f.b.length) fun w' f hf => size1 w' hf)
  unfold ptr str at *
  clear h hn
  go_enter Try.func16, Try.ntmps16
  go_wp2_with (go_at_call 43; refine ht.out.mono ?_; rintro e w' ⟨rfl, hb⟩; replace hb := hid hb)
  go_ret2
  exact ⟨rfl, hb.out⟩
set_option maxHeartbeats 400000 in
theorem synced_any {B sb : Nat} {g : Gs} (w : World) (h : StoreAt B w sb g) (n : List UInt8) (hn : n.length ≤ maxLen) :
    Calls Try.prog 17 #[ptr sb, str n] w fun e w' => e = .returned (.tuple #[.int .i64 (g.abs.get n fun f => f.s).1, .int .i64 (g.abs.get n fun f => f.s).2]) ∧ Below w.heap.size w w' := by
  have ht := hid (tell_any w h n hn 45 e45 (fun f => f.s) fun w' f hf => synced1 w' hf)
  unfold ptr str at *
  clear h hn
  go_enter Try.func17, Try.ntmps17
  go_wp2_with (go_at_call 43; refine ht.out.mono ?_; rintro e w' ⟨rfl, hb⟩; replace hb := hid hb)
  go_ret2
  exact ⟨rfl, hb.out⟩
set_option maxHeartbeats 1000000 in
theorem read_of {v : Value} (w : World) (n : List UInt8) (bs : List UInt8) (r : Int)
    (hc : Calls Try.prog 40 #[v, str n, .func (.func 41) #[] #[ptr w.heap.size]] (w.alloc (.cells #[.slice none 0 0] 30)) fun e w' => e = .returned (.int .i64 r) ∧ Below w.heap.size w w' ∧ ∃ a c, w'.cell? ⟨w.heap.size, 0, none⟩ = some (.slice a bs.length c) ∧ w'.ownsRow w.heap.size 5 1 (.slice a bs.length c) bs.length (bs.map bv)) :
    Calls Try.prog 15 #[v, str n] w fun e w' => ∃ a c, e = .returned (.tuple #[.slice a bs.length c, .int .i64 r]) ∧ w'.ownsRow w.heap.size 5 1 (.slice a bs.length c) bs.length (bs.map bv) ∧ Below w.heap.size w w' := by
  replace hc := hid hc
  unfold ptr str at hc
  unfold str
  have hmf := mkf
  go_enter Try.func15, Try.ntmps15
  go_wp2_with (go_at_call 40; refine hc.out.mono ?_; rintro e w' ⟨rfl, hq, a, c, hx, ho⟩; replace hq := hid hq; replace ho := hid ho)
  go_ret2
  exact ⟨a, c, rfl, ho.out, hq.out⟩
theorem read_any {B sb : Nat} {g : Gs} (w : World) (h : StoreAt B w sb g) (n : List UInt8) (hn : n.length ≤ maxLen) :
    Calls Try.prog 15 #[ptr sb, str n] w fun e w' => ∃ a c, e = .returned (.tuple #[.slice a (g.abs.read n).1.length c, .int .i64 (g.abs.read n).2]) ∧ w'.ownsRow w.heap.size 5 1 (.slice a (g.abs.read n).1.length c) (g.abs.read n).1.length ((g.abs.read n).1.map bv) ∧ Below w.heap.size w w' := by
  refine read_of w n _ _ ?_
  obtain ⟨wa, hwa⟩ : ∃ wa, wa = w.alloc (.cells #[.slice none 0 0] 30) := ⟨_, rfl⟩
  have hba : Below w.heap.size w wa := by rw [hwa]; exact (Below.refl _ _).alloc (Nat.le_refl _) _
  have hsa : wa.heap.size = w.heap.size + 1 := by rw [hwa]; simp
  have b0 : wa.heap[w.heap.size]? = some (.cells #[.slice none 0 0] 30) := by rw [hwa]; exact (MapKept.heap_alloc _ _).1
  rw [← hwa]
  have h1 := h.below hba
  have hbx := boxed_below wa 41 #[ptr w.heap.size]
  have hb2 : Below w.heap.size w (boxed wa 41 #[ptr w.heap.size]) := hba.trans (hbx.mono (by omega))
  have b1 := (hbx.block w.heap.size (by omega)).trans b0
  have c1 : (boxed wa 41 #[ptr w.heap.size]).cell? ⟨w.heap.size, 0, none⟩ = some (.slice none 0 0) := by rw [cell_of b1]; rfl
  by_cases hd : g.left = 0
  · rw [read_dead hd]
    refine (find_dead _ h1 hd n _ _).mono ?_
    rintro e w' ⟨rfl, rfl⟩
    exact ⟨rfl, hb2, none, 0, c1, World.ownsRow_nil _ _ _ _⟩
  · cases hl : look n g.l with
    | none =>
      rw [read_miss hd hl]
      refine (find_miss _ h1 hd n hn _ _ hl).mono ?_
      rintro e w' ⟨rfl, rfl⟩
      exact ⟨rfl, hb2, none, 0, c1, World.ownsRow_nil _ _ _ _⟩
    | some f =>
      rw [read_hit hd hl]
      have hf := (h1.below hbx).files f (look_some hl).1
      refine (find_hit _ h1 hd n hn 41 #[ptr w.heap.size] e41 hl (fun r w' => r = 0 ∧ Below w.heap.size w w' ∧ ∃ a c, w'.cell? ⟨w.heap.size, 0, none⟩ = some (.slice a f.b.length c) ∧ w'.ownsRow w.heap.size 5 1 (.slice a f.b.length c) f.b.length (f.b.map bv)) ?_).mono ?_
      · refine (read1 _ hf w.heap.size (.slice none 0 0) b1 ⟨_, _, _, rfl⟩).mono ?_
        rintro e w' ⟨rfl, a, c, w1, hown, hbw, rfl⟩
        have hb3 : Below w.heap.size w w1 := hb2.trans (hbw.mono (by rw [boxed_size]; omega))
        have b3 := (hbw.block w.heap.size (by rw [boxed_size]; omega)).trans b1
        refine ⟨0, rfl, rfl, ⟨hb3.os, hb3.tape, hb3.output, by rw [size_set]; exact hb3.size, fun i hi => (heap_set _ _ _ _ _ (by omega)).trans (hb3.block i hi)⟩, a, c, ?_, ?_⟩
        · simp [World.cell?, heap_set_at b3]
        · refine ownsRow_base (ownsRow_block hown fun k hk => heap_set _ _ _ _ _ ?_) fun k hk => ?_
          · have := (hown.lt k hk).1; rw [boxed_size] at this; omega
          · have := (hown.lt k hk).1; rw [boxed_size] at this; omega
      · rintro e w' ⟨r, rfl, rfl, h2, h3⟩
        exact ⟨rfl, h2, h3⟩
end Go.Proofs.Ytinnegkkfaaceaa
