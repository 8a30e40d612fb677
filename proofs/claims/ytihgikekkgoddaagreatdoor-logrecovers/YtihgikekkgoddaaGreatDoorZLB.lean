/- Bytes and their frames: records of bytes, one frame behind the other; what a beginning of these reads as. Plain mathematics. -/
import Derived.Test.YtihgikekkgoddaaGreatDoorZFa
namespace Go.Proofs.YtihgikekkgoddaaGreatDoor
open Frm (Byt fr rows Reads nextP)

def ints (b : List UInt8) : List Int := b.map fun c => (c.toNat : Int)
def byts (z : List Int) : List UInt8 := z.map fun x => UInt8.ofNat x.toNat
theorem ints_byt (b : List UInt8) : Byt (ints b) := by
  intro z hz
  obtain ⟨c, _, rfl⟩ := List.mem_map.1 hz
  have := c.toNat_lt
  omega
theorem byts_ints (b : List UInt8) : byts (ints b) = b := by
  unfold byts ints
  rw [List.map_map]
  conv => rhs; rw [← List.map_id b]
  congr 1
  funext c
  simp
theorem ints_byts {z : List Int} (h : Byt z) : ints (byts z) = z := by
  unfold byts ints
  rw [List.map_map]
  conv => rhs; rw [← List.map_id z]
  refine List.map_congr_left fun x hx => ?_
  have := h x hx
  show ((UInt8.ofNat x.toNat).toNat : Int) = x
  rw [UInt8.toNat_ofNat', Nat.mod_eq_of_lt (by omega)]
  omega
theorem ints_len (b : List UInt8) : (ints b).length = b.length := by simp [ints]
theorem ints_inj {a b : List UInt8} (h : ints a = ints b) : a = b := by rw [← byts_ints a, ← byts_ints b, h]
theorem ints_app (a b : List UInt8) : ints (a ++ b) = ints a ++ ints b := by simp [ints]
theorem ints_take (a : List UInt8) (n : Nat) : ints (a.take n) = (ints a).take n := by simp [ints]
theorem ints_drop (a : List UInt8) (n : Nat) : ints (a.drop n) = (ints a).drop n := by simp [ints]
/-- a record's frame. -/
def enc (r : List UInt8) : List UInt8 := byts (fr (ints r))
theorem ints_enc (r : List UInt8) : ints (enc r) = fr (ints r) := ints_byts (Frm.fr_byt (ints_byt r))
theorem enc_len (r : List UInt8) : (enc r).length = (fr (ints r)).length := by rw [← ints_len, ints_enc]
def encs (l : List (List UInt8)) : List UInt8 := (l.map enc).flatten
theorem encs_nil : encs [] = [] := rfl
theorem encs_app (l m : List (List UInt8)) : encs (l ++ m) = encs l ++ encs m := by simp [encs]
theorem encs_one (r : List UInt8) : encs [r] = enc r := by simp [encs]
theorem ints_encs (l : List (List UInt8)) : ints (encs l) = rows (l.map ints) := by
  induction l with
  | nil => rfl
  | cons r l ih =>
    show ints (enc r ++ encs l) = fr (ints r) ++ rows (l.map ints)
    rw [ints_app, ih, ints_enc]
/-- the payload of bytes that are one frame. -/
def one (b : List UInt8) : Option (List UInt8) := match nextP (ints b) with
  | some (p, u) => if u = b.length then some (byts p) else none
  | none => none
theorem one_enc {r : List UInt8} (h : r.length ≤ 65536) : one (enc r) = some r := by
  unfold one
  have := Frm.next_fr (p := ints r) (by rw [ints_len]; exact h) []
  rw [List.append_nil] at this
  rw [ints_enc, this]
  simp only
  rw [if_pos (enc_len r).symm, byts_ints]
/-- records that bytes are read as: whole frames, and then what begins with none. -/
def Read8 (b : List UInt8) (l : List (List UInt8)) : Prop := ∃ r, Reads (ints b) (l.map ints) r
theorem Read8.pre {b : List UInt8} {l : List (List UInt8)} (h : Read8 b l) : ∃ r, b = encs l ++ r := by
  obtain ⟨r, h1, h2, h3⟩ := h
  refine ⟨b.drop (encs l).length, ?_⟩
  have e : (encs l).length = (rows (l.map ints)).length := by rw [← ints_len, ints_encs]
  refine ints_inj ?_
  rw [ints_app, ints_encs, ints_drop, e, h1]
  simp
theorem map_byts {l : List (List Int)} (h : ∀ p ∈ l, Byt p) : (l.map byts).map ints = l := by
  rw [List.map_map]
  conv => rhs; rw [← List.map_id l]
  exact List.map_congr_left fun p hp => ints_byts (h p hp)
theorem rows_byt {l : List (List Int)} (h : Byt (rows l)) : ∀ p ∈ l, Byt p := by
  induction l with
  | nil => intro p hp; cases hp
  | cons q l ih =>
    rw [Frm.rows_cons] at h
    intro p hp
    rcases List.mem_cons.1 hp with rfl | hp
    · have := h.left
      unfold Frm.fr at this
      exact this.left.right
    · exact ih h.right p hp
theorem read8_any (b : List UInt8) : ∃ l, Read8 b l := by
  obtain ⟨l, r, h⟩ := Frm.reads_any _ (ints b) (Nat.le_refl _) (ints_byt b)
  have hb : Byt (rows l) := by have := ints_byt b; rw [h.1] at this; exact this.left
  exact ⟨l.map byts, r, by rw [map_byts (rows_byt hb)]; exact h⟩
theorem read8_one {b : List UInt8} {l m : List (List UInt8)} (h : Read8 b l) (k : Read8 b m) : l = m := by
  obtain ⟨r, h⟩ := h
  obtain ⟨s, k⟩ := k
  have := (Frm.reads_one _ _ _ _ _ h k).1
  have e := congrArg (List.map byts) this
  rw [List.map_map, List.map_map] at e
  have idl : ∀ x : List (List UInt8), x.map (byts ∘ ints) = x := fun x => by
    conv => rhs; rw [← List.map_id x]
    exact List.map_congr_left fun p _ => byts_ints p
  rwa [idl, idl] at e
/-- a beginning of frames reads as those that are whole. -/
theorem read8_take {l : List (List UInt8)} (hl : ∀ p ∈ l, p.length ≤ 65536) (cut : Nat) (hc : cut ≤ (encs l).length) :
    ∃ k, k ≤ l.length ∧ Read8 ((encs l).take cut) (l.take k) ∧ (encs (l.take k)).length ≤ cut ∧ ∀ j, j ≤ l.length → (encs (l.take j)).length ≤ cut → j ≤ k := by
  -- the greatest k whose frames are within the cut
  have lenT : ∀ j, (encs (l.take j)).length = (rows ((l.map ints).take j)).length := fun j => by
    rw [← ints_len, ints_encs, List.map_take]
  have mono : ∀ j, (encs (l.take j)).length ≤ (encs (l.take (j + 1))).length := fun j => by
    have e : l.take (j + 1) = l.take j ++ (l.drop j).take 1 := by rw [← List.take_append_drop j (l.take (j + 1)), List.take_take, Nat.min_eq_left (by omega), List.drop_take, Nat.add_sub_cancel_left]
    rw [e, encs_app, List.length_append]; omega
  have monoL : ∀ i d, (encs (l.take i)).length ≤ (encs (l.take (i + d))).length := fun i d => by
    induction d with
    | zero => exact Nat.le_refl _
    | succ d ih => exact Nat.le_trans ih (mono (i + d))
  have pos : ∀ j, j < l.length → (encs (l.take j)).length < (encs (l.take (j + 1))).length := fun j hj => by
    have e : l.take (j + 1) = l.take j ++ [l[j]] := by rw [List.take_succ_eq_append_getElem hj]
    have := Frm.fr_pos (ints l[j])
    rw [e, encs_app, encs_one, List.length_append, enc_len]; omega
  have ex : ∀ m, m ≤ l.length → ∃ k, k ≤ m ∧ (encs (l.take k)).length ≤ cut ∧ ∀ j, j ≤ m → (encs (l.take j)).length ≤ cut → j ≤ k := by
    intro m
    induction m with
    | zero => intro _; exact ⟨0, Nat.le_refl _, by simp [encs], fun j hj _ => hj⟩
    | succ m ih =>
      intro hm
      by_cases h : (encs (l.take (m + 1))).length ≤ cut
      · exact ⟨m + 1, Nat.le_refl _, h, fun j hj _ => hj⟩
      · obtain ⟨k, h1, h2, h3⟩ := ih (by omega)
        refine ⟨k, by omega, h2, fun j hj hj2 => ?_⟩
        by_cases e : j = m + 1
        · subst e; exact absurd hj2 h
        · exact h3 j (by omega) hj2
  obtain ⟨k, h1, h2, h3⟩ := ex l.length (Nat.le_refl _)
  refine ⟨k, h1, ?_, h2, h3⟩
  have hl' : ∀ p ∈ l.map ints, p.length ≤ 65536 := fun p hp => by obtain ⟨q, hq, rfl⟩ := List.mem_map.1 hp; rw [ints_len]; exact hl q hq
  have hb' : ∀ p ∈ l.map ints, Byt p := fun p hp => by obtain ⟨q, hq, rfl⟩ := List.mem_map.1 hp; exact ints_byt q
  unfold Read8
  rw [ints_take, ints_encs, List.map_take]
  by_cases he : cut = (encs (l.take k)).length
  · refine ⟨[], ?_, fun p hp => hl' p (List.mem_of_mem_take hp), rfl⟩
    have e : rows (l.map ints) = rows ((l.map ints).take k) ++ rows ((l.map ints).drop k) := by rw [← Frm.rows_app, List.take_append_drop]
    rw [e, he, lenT, List.take_left' rfl, List.append_nil]
  · refine Frm.torn_reads hl' hb' (by simpa using h1) (by rw [← lenT]; exact h2) (by rw [← ints_encs, ints_len]; exact hc) ?_ (by rw [← lenT]; exact he)
    by_cases hk : k = l.length
    · left; simpa using hk
    · right
      rw [← lenT]
      by_cases h4 : (encs (l.take (k + 1))).length ≤ cut
      · have := h3 (k + 1) (by omega) h4; omega
      · omega
theorem read8_all {l : List (List UInt8)} (hl : ∀ p ∈ l, p.length ≤ 65536) : Read8 (encs l) l := by
  refine ⟨[], by rw [ints_encs, List.append_nil], fun p hp => ?_, rfl⟩
  obtain ⟨q, hq, rfl⟩ := List.mem_map.1 hp; rw [ints_len]; exact hl q hq
theorem encs_mono {l : List (List UInt8)} {i j : Nat} (h : i ≤ j) : (encs (l.take i)).length ≤ (encs (l.take j)).length := by
  have e : l.take j = l.take i ++ (l.drop i).take (j - i) := by
    conv => lhs; rw [← List.take_append_drop i (l.take j), List.take_take, Nat.min_eq_left h, List.drop_take]
  rw [e, encs_app, List.length_append]; omega
theorem encs_take_pre (l : List (List UInt8)) (k : Nat) : encs l = encs (l.take k) ++ encs (l.drop k) := by rw [← encs_app, List.take_append_drop]
end Go.Proofs.YtihgikekkgoddaaGreatDoor
