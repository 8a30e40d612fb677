/- Contracts of the functions that Remove and Rename hand to find. -/
import Derived.Test.YtinnegkkfaaceaaW6
namespace Go.Proofs.Ytinnegkkfaaceaa
open Go.RowKit Go.Maps Go.MapKept Go.Shelf

def MapDel (w' : World) (g : Gs) (n : List UInt8) : Prop := ∃ D k, MapOf D g.l ∧ Maps.Tidy D ∧ w'.ownsMap Try.prog 9 ptrR g.mb k (D.del (.string n))
theorem drop_run {B sb : Nat} {w : World} {g : Gs} (h : StoreAt B w sb g) (n : List UInt8) (hn : n.length ≤ maxLen) :
    ∃ w', (∀ ty, (Builtin.delete_ #[50, 9] ty #[.map (some g.mb), str n]).run Try.prog w.drew = .ok (.tuple #[]) w') ∧ MapDel w' g n ∧ Kept (· = g.mb) w w' := by
  obtain ⟨D, hD, hM⟩ := h.map
  have hT := hD.tidy law
  obtain ⟨w', hrun, h1, h2⟩ := (show w.drew.ownsMap Try.prog 9 ptrR g.mb g.l.length _ from hD).drop law Try.underlying50 (keyAt n hn) 0
  refine ⟨w', fun ty => ?_, ⟨_, _, hM, hT, h1⟩, ?_⟩
  · have : (Builtin.delete_ #[50, 9] ty #[.map (some g.mb), str n]) = (Builtin.delete_ #[50, 9] 0 #[.map (some g.mb), str n]) := rfl
    rw [this]; exact hrun
  · have hg := h2.grown
    exact ⟨hg.os, hg.tape, hg.output, hg.size, fun k hk hne => hg.block k hk (by simpa using hne)⟩
set_option maxHeartbeats 1000000 in
theorem remove1 {B sb : Nat} {g : Gs} (w : World) (h : StoreAt B w sb g) (n : List UInt8) (hn : n.length ≤ maxLen) (a : Value) (cb nb : Nat) (hcb : w.cell? ⟨cb, 0, none⟩ = some (ptr sb)) (hnb : w.cell? ⟨nb, 0, none⟩ = some (str n)) :
    Calls Try.prog 58 #[a, ptr cb, ptr nb] w fun e w' => e = .returned (.int .i64 0) ∧ MapDel w' g n ∧ Kept (· = g.mb) w w' := by
  have c0 : w.cell? ⟨sb, 0, none⟩ = some (.map (some g.mb)) := by rw [cell_of h.cell]; rfl
  obtain ⟨w2, hrun, hp, hk⟩ := drop_run h n hn
  have hp := hid hp
  have hk := hid hk
  unfold ptr at hcb ⊢
  unfold str at hnb hrun
  clear h
  go_enter Try.func58, Try.ntmps58
  go_wp2
  go_region
  all_goals (go_wp2; go_ret; exact ⟨rfl, hp.out, hk.out⟩)
set_option maxHeartbeats 1000000 in
theorem rename1_bad (w : World) (n : List UInt8) (hn : n.length ≤ 4294967296) (hm : mayB n = false) (a c d : Value) (nb : Nat) (hnb : w.cell? ⟨nb, 0, none⟩ = some (str n)) :
    Calls Try.prog 57 #[a, ptr nb, c, d] w fun e w' => e = .returned (.int .i64 2) ∧ w' = w := by
  have hmb := mayBe_any w n hn
  rw [hm] at hmb
  have hmb := hid hmb
  unfold ptr
  unfold str at hnb hmb
  clear hm hn
  go_enter Try.func57, Try.ntmps57
  go_wp2_with (go_at_call 49; refine hmb.out.mono ?_; rintro e w' ⟨rfl, rfl⟩)
  go_ret
  exact ⟨rfl, rfl⟩
set_option maxHeartbeats 2000000 in
theorem rename1 {B sb : Nat} {g : Gs} (w : World) (h : StoreAt B w sb g) (o n : List UInt8) (hm : mayB n = true) {f : Fg} (hl : look o g.l = some f) (hB : B ≤ w.heap.size) (nb cb ob : Nat)
    (hnb : w.cell? ⟨nb, 0, none⟩ = some (str n)) (hcb : w.cell? ⟨cb, 0, none⟩ = some (ptr sb)) (hob : w.cell? ⟨ob, 0, none⟩ = some (str o)) :
    Calls Try.prog 57 #[ptr f.fb, ptr nb, ptr cb, ptr ob] w fun e w' => e = .returned (.int .i64 0) ∧ StoreAt B w' sb { g with l := put { f with name := n } (del o g.l) } ∧ Kept (· = g.mb) w w' := by
  obtain ⟨hf, rfl⟩ := look_some hl
  have hfile := h.files f hf
  have hn : 1 ≤ n.length ∧ n.length ≤ 32 := by simpa [mayB] using hm
  have hmb := mayBe_any w n (by omega)
  rw [hm] at hmb
  have hmb := hid hmb
  have c0 : w.cell? ⟨sb, 0, none⟩ = some (.map (some g.mb)) := by rw [cell_of h.cell]; rfl
  obtain ⟨w2, hrun, hp, hk⟩ := drop_run h f.name (by have := hfile.nm.2; unfold maxLen; omega)
  have h2 := h.mapDel hf hp hk
  have mbk : ∀ {b : Nat} {v : Value}, w.cell? ⟨b, 0, none⟩ = some v → w2.cell? ⟨b, 0, none⟩ = some v := by
    intro b v hv
    obtain ⟨D, hD, _⟩ := h.map
    obtain ⟨es, c, hmap⟩ := map_block hD
    have hne : b ≠ g.mb := by intro e; subst e; simp [World.cell?, hmap] at hv
    exact (World.cell?_of_block (a := ⟨b, 0, none⟩) (hk.block b (World.block_lt_of_cell? w ⟨b, 0, none⟩ hv) hne)).trans hv
  have hnb2 := mbk hnb
  have hcb2 := mbk hcb
  have hput := hid (put_any w2 h2 n (by omega) f.fb)
  have fin : Hid (∀ w3, MapPut w3 { g with l := del f.name g.l } n f.fb → Kept (· = g.mb) w2 w3 → StoreAt B w3 sb { g with l := put { f with name := n } (del f.name g.l) } ∧ Kept (· = g.mb) w w3) := by
    intro w3 hmp hk3
    refine ⟨?_, hk.trans hk3 fun _ e => .inl e⟩
    have hblk : ∀ k, footF f k → w2.heap[k]? = w.heap[k]? := fun k hk' => hk.block k (hfile.lt hk') (h.mb_f hf hk')
    have hfile2 : FileAt w2 { f with name := n } := by
      have := hfile.keep hblk
      exact ⟨this.cell, this.row, this.syn, this.big, hn⟩
    refine StoreAt.mapPut (f := { f with name := n }) h2 hfile2 (fun x hx hne => ?_) ?_ (fun k hk' => ?_) hmp hk3
    · obtain ⟨hx1, hx2⟩ := mem_del.1 hx
      exact h.apart f hf x hx1 (Ne.symm hx2)
    · have e1 := length_del h.rising hf rfl
      have e2 := length_ins { f with name := n } (del n (del f.name g.l))
      have e3 := List.length_filter_le (fun x : Fg => !(x.name == n)) (del f.name g.l)
      have e4 := h.few
      simp only [put] at *
      unfold del at e2 e3 ⊢
      unfold del at e1
      omega
    · exact h.base k (.inr (.inr ⟨f, hf, hk'⟩))
  unfold ptr at hcb hcb2 hput ⊢
  unfold str at hnb hnb2 hob hmb hrun hput
  clear h h2 hp hk mbk hfile hm hn
  go_enter Try.func57, Try.ntmps57
  go_wp2_with (go_at_call 49; refine hmb.out.mono ?_; rintro e w' ⟨rfl, rfl⟩)
  go_region
  all_goals go_wp2_with (go_at_call 50; refine hput.out.mono ?_; rintro e w3 ⟨rfl, hmp, hk3⟩; obtain ⟨q1, q2⟩ := fin.out w3 hmp hk3; have q1 := hid q1; have q2 := hid q2)
  all_goals (go_ret; exact ⟨rfl, q1.out, q2.out⟩)
end Go.Proofs.Ytinnegkkfaaceaa
