/- Joined: B1 B2 B3 B4. -/
import Derived.Test.YtjhodmpgggaknaaGreatDoorZNM
import Derived.Shelf.Abstract
import Derived.StringKeys
import Derived.Maps.OwnSet
import Derived.Maps.RangeWalk
import Derived.WalkArith
import Derived.Deep.RegionHeld3
import Derived.Deep.RegionWith
import Derived.Lib.SmallJoins
/- Contracts of the maps from texts to numbers: what they hold; what is found there; which text stands for a number. -/
namespace Go.Proofs.YtjhodmpgggaknaaGreatDoor
open Go.RowKit Go.Shelf Go.Maps

theorem lawS : Keyed Tryz.prog 9 := string_keyed Tryz.underlying9
def numD (n : Nat) : DataW Unit := .lit (.int .u8 (n : Int))
/-- a map with such entries, the last one laid ahead. -/
def mapD : List (Tx × Nat) → DataW Unit
  | [] => .map []
  | p :: l => (mapD l).put (.string p.1) (numD p.2)
def findR : List (Tx × Nat) → Tx → Option Nat
  | [], _ => none
  | p :: l, s => if s = p.1 then some p.2 else findR l s
theorem isMapD : ∀ l, IsMap (mapD l)
  | [] => isMap_empty
  | _ :: l => (isMapD l).put _ _
theorem mapD_at : ∀ (l : List (Tx × Nat)) (s : Tx) (z : DataW Unit), (mapD l).atKey (.string s) z = match findR l s with
    | some n => numD n
    | none => z
  | [], s, z => rfl
  | p :: l, s, z => by
    by_cases h : s = p.1
    · subst h
      rw [mapD, atKey_put_same (k := .string p.1) (isMapD l) trivial, findR, if_pos rfl]
    · rw [mapD, atKey_put_other (fun e => h (by injection e)), findR, if_neg h, mapD_at l s z]
theorem mapD_has : ∀ (l : List (Tx × Nat)) (s : Tx), Maps.has (mapD l) (.string s) = (findR l s).isSome
  | [], s => rfl
  | p :: l, s => by
    by_cases h : s = p.1
    · subst h
      rw [mapD, has_put_same (k := .string p.1) (isMapD l) trivial, findR, if_pos rfl]
      rfl
    · rw [mapD, has_put_other (fun e => h (by injection e)), findR, if_neg h, mapD_has l s]
def MapAt (l : List (Tx × Nat)) (w : World) (b : Nat) : Prop := ∃ n, w.ownsMap Tryz.prog 9 (plainElem Tryz.prog 5) b n (mapD l)
theorem MapAt.lt {l : List (Tx × Nat)} {w : World} {b : Nat} (h : MapAt l w b) : b < w.heap.size := by
  obtain ⟨n, h⟩ := h
  exact h.lt
theorem MapAt.block {l : List (Tx × Nat)} {w w' : World} {b : Nat} (h : MapAt l w b) (hb : w'.heap[b]? = w.heap[b]?) : MapAt l w' b := by
  obtain ⟨n, es, clock, h1, h2⟩ := h
  exact ⟨n, es, clock, hb.trans h1, h2⟩
theorem MapAt.below {l : List (Tx × Nat)} {w w' : World} {b : Nat} (h : MapAt l w b) (hb : Below w.heap.size w w') : MapAt l w' b := h.block (hb.block b h.lt)
theorem grownB {w w' : World} {B b : Nat} (h : w.grownBy w' (some b)) (hB : B ≤ w.heap.size) (hb : B ≤ b) : Below B w w' :=
  ⟨h.os, h.tape, h.output, h.size, fun k hk => h.block k (by omega) fun e => by cases e; omega⟩
theorem keyS (s : Tx) (h : s.length ≤ maxLen) : keyOf Tryz.prog 9 (.string ⟨s.toArray⟩) = some (.string s) := by
  have := WideMaps.keyOf_string_mk Tryz.underlying9 (s := ⟨s.toArray⟩) (by simpa [ByteArray.size] using h)
  simpa using this
theorem elemU (n : Nat) (h : n < 256) : plainElem (H := Unit) Tryz.prog 5 (.int .u8 (n : Int)) = some (numD n, []) := plainElem_int Tryz.underlying5 (WalkArith.wf_u8 (by omega))
theorem keyOf_text {k : TypeId} (hk : Tryz.prog.underlying k = some .string) {key : Value} {kl : Lit} (h : keyOf Tryz.prog k key = some kl) : ∃ x : Tx, key = .string ⟨x.toArray⟩ ∧ kl = .string x ∧ x.length ≤ maxLen := by
  cases key <;> simp [keyOf, hk, mapKey] at h
  rename_i s
  obtain ⟨hs, rfl⟩ := h
  exact ⟨s.data.toList, by simp, rfl, by rw [Array.length_toList]; exact hs⟩

def aggMap : List (Tx × Nat) := [([108, 97, 115, 116], 5), ([109, 101, 97, 110], 4), ([109, 97, 120], 3), ([109, 105, 110], 2), ([115, 117, 109], 1), ([99, 111, 117, 110, 116], 0)]
theorem agg_find (s : Tx) : findR aggMap s = (aggOf s).map (fun a => a.toNat) := by
  by_cases h0 : s = [99, 111, 117, 110, 116]
  · subst h0; decide
  by_cases h1 : s = [115, 117, 109]
  · subst h1; decide
  by_cases h2 : s = [109, 105, 110]
  · subst h2; decide
  by_cases h3 : s = [109, 97, 120]
  · subst h3; decide
  by_cases h4 : s = [109, 101, 97, 110]
  · subst h4; decide
  by_cases h5 : s = [108, 97, 115, 116]
  · subst h5; decide
  simp [findR, aggMap, aggOf, aggS, h0, h1, h2, h3, h4, h5]
set_option maxHeartbeats 1000000 in
theorem aggregates_any (w : World) : Calls Tryz.prog 67 #[] w fun e w' => ∃ b, e = .returned (.map (some b)) ∧ w.heap.size ≤ b ∧ MapAt aggMap w' b ∧ Below w.heap.size w w' := by
  have hmm := @run_makeMap Tryz.prog
  have h0 := World.ownsMap_made (H := Unit) w Tryz.prog 9 (plainElem Tryz.prog 5)
  have hs0 : (w.alloc (.map #[] 0)).heap.size = w.heap.size + 1 := by simp
  have b0 := alloc_below w (.map #[] 0)
  obtain ⟨w1, r1, h1, g1⟩ := h0.update lawS Tryz.underlying104 (by decide) (keyS [99, 111, 117, 110, 116] (by decide)) (val := .int .u8 0) (d := numD 0) (ps := []) (elemU 0 (by decide))
  have b1 := b0.trans (grownB g1 (by omega) (Nat.le_refl _))
  obtain ⟨w2, r2, h2, g2⟩ := h1.update lawS Tryz.underlying104 (by decide) (keyS [115, 117, 109] (by decide)) (val := .int .u8 1) (d := numD 1) (ps := []) (elemU 1 (by decide))
  have b2 := b1.trans (grownB g2 b1.size (Nat.le_refl _))
  obtain ⟨w3, r3, h3, g3⟩ := h2.update lawS Tryz.underlying104 (by decide) (keyS [109, 105, 110] (by decide)) (val := .int .u8 2) (d := numD 2) (ps := []) (elemU 2 (by decide))
  have b3 := b2.trans (grownB g3 b2.size (Nat.le_refl _))
  obtain ⟨w4, r4, h4, g4⟩ := h3.update lawS Tryz.underlying104 (by decide) (keyS [109, 97, 120] (by decide)) (val := .int .u8 3) (d := numD 3) (ps := []) (elemU 3 (by decide))
  have b4 := b3.trans (grownB g4 b3.size (Nat.le_refl _))
  obtain ⟨w5, r5, h5, g5⟩ := h4.update lawS Tryz.underlying104 (by decide) (keyS [109, 101, 97, 110] (by decide)) (val := .int .u8 4) (d := numD 4) (ps := []) (elemU 4 (by decide))
  have b5 := b4.trans (grownB g5 b4.size (Nat.le_refl _))
  obtain ⟨w6, r6, h6, g6⟩ := h5.update lawS Tryz.underlying104 (by decide) (keyS [108, 97, 115, 116] (by decide)) (val := .int .u8 5) (d := numD 5) (ps := []) (elemU 5 (by decide))
  have b6 := b5.trans (grownB g6 b5.size (Nat.le_refl _))
  have q := hid b6
  have hq : Hid (MapAt aggMap w6 w.heap.size) := ⟨_, h6⟩
  clear h0 h1 g1 h2 g2 h3 g3 h4 g4 h5 g5 h6 g6 b0 b1 b2 b3 b4 b5 b6 hs0
  go_enter Tryz.func67, Tryz.ntmps67
  go_wp2
  go_ret
  exact ⟨_, rfl, Nat.le_refl _, hq.out, q.out⟩
def cmpMap : List (Tx × Nat) := [([33, 61], 5), ([61, 61], 4), ([62, 61], 3), ([62], 2), ([60, 61], 1), ([60], 0)]
theorem cmp_find (s : Tx) : findR cmpMap s = (cmpOf s).map (fun a => a.toNat) := by
  by_cases h0 : s = [60]
  · subst h0; decide
  by_cases h1 : s = [60, 61]
  · subst h1; decide
  by_cases h2 : s = [62]
  · subst h2; decide
  by_cases h3 : s = [62, 61]
  · subst h3; decide
  by_cases h4 : s = [61, 61]
  · subst h4; decide
  by_cases h5 : s = [33, 61]
  · subst h5; decide
  simp [findR, cmpMap, cmpOf, cmpS, h0, h1, h2, h3, h4, h5]
set_option maxHeartbeats 1000000 in
theorem compares_any (w : World) : Calls Tryz.prog 68 #[] w fun e w' => ∃ b, e = .returned (.map (some b)) ∧ w.heap.size ≤ b ∧ MapAt cmpMap w' b ∧ Below w.heap.size w w' := by
  have hmm := @run_makeMap Tryz.prog
  have h0 := World.ownsMap_made (H := Unit) w Tryz.prog 9 (plainElem Tryz.prog 5)
  have hs0 : (w.alloc (.map #[] 0)).heap.size = w.heap.size + 1 := by simp
  have b0 := alloc_below w (.map #[] 0)
  obtain ⟨w1, r1, h1, g1⟩ := h0.update lawS Tryz.underlying104 (by decide) (keyS [60] (by decide)) (val := .int .u8 0) (d := numD 0) (ps := []) (elemU 0 (by decide))
  have b1 := b0.trans (grownB g1 (by omega) (Nat.le_refl _))
  obtain ⟨w2, r2, h2, g2⟩ := h1.update lawS Tryz.underlying104 (by decide) (keyS [60, 61] (by decide)) (val := .int .u8 1) (d := numD 1) (ps := []) (elemU 1 (by decide))
  have b2 := b1.trans (grownB g2 b1.size (Nat.le_refl _))
  obtain ⟨w3, r3, h3, g3⟩ := h2.update lawS Tryz.underlying104 (by decide) (keyS [62] (by decide)) (val := .int .u8 2) (d := numD 2) (ps := []) (elemU 2 (by decide))
  have b3 := b2.trans (grownB g3 b2.size (Nat.le_refl _))
  obtain ⟨w4, r4, h4, g4⟩ := h3.update lawS Tryz.underlying104 (by decide) (keyS [62, 61] (by decide)) (val := .int .u8 3) (d := numD 3) (ps := []) (elemU 3 (by decide))
  have b4 := b3.trans (grownB g4 b3.size (Nat.le_refl _))
  obtain ⟨w5, r5, h5, g5⟩ := h4.update lawS Tryz.underlying104 (by decide) (keyS [61, 61] (by decide)) (val := .int .u8 4) (d := numD 4) (ps := []) (elemU 4 (by decide))
  have b5 := b4.trans (grownB g5 b4.size (Nat.le_refl _))
  obtain ⟨w6, r6, h6, g6⟩ := h5.update lawS Tryz.underlying104 (by decide) (keyS [33, 61] (by decide)) (val := .int .u8 5) (d := numD 5) (ps := []) (elemU 5 (by decide))
  have b6 := b5.trans (grownB g6 b5.size (Nat.le_refl _))
  have q := hid b6
  have hq : Hid (MapAt cmpMap w6 w.heap.size) := ⟨_, h6⟩
  clear h0 h1 g1 h2 g2 h3 g3 h4 g4 h5 g5 h6 g6 b0 b1 b2 b3 b4 b5 b6 hs0
  go_enter Tryz.func68, Tryz.ntmps68
  go_wp2
  go_ret
  exact ⟨_, rfl, Nat.le_refl _, hq.out, q.out⟩
end Go.Proofs.YtjhodmpgggaknaaGreatDoor
/- Contract of written: the text that stands for a number. -/
namespace Go.Proofs.YtjhodmpgggaknaaGreatDoor
open Go.RowKit Go.Shelf Go.Maps

set_option maxRecDepth 100000 in
set_option maxHeartbeats 1000000 in
theorem written_any (l : List (Tx × Nat)) (b n : Nat) (w : World) (h : MapAt l w b) (s : Tx) (hs : findR l s = some n) (hu : ∀ t, findR l t = some n → t = s) :
    Calls Tryz.prog 66 #[.map (some b), .int .u8 (n : Int)] w fun e w' => e = .returned (str s) ∧ Below w.heap.size w w' := by
  obtain ⟨m, hown⟩ := h
  have hbl := hown.lt
  replace hu := hid hu
  replace hs := hid hs
  unfold str
  go_enter Tryz.func66, Tryz.ntmps66
  go_wp2_with (first
    | (at_range; refine wpList_range_own _ rfl _ 104 rfl 9 5 lawS Tryz.underlying104 _ b m _ rfl hown ?_; intro w0 hrg0 hg0 hs0)
    | go_in)
  go_frame
  go_loopw [4] (fun _ wr => ∃ (left : Lit → Bool) (cnt : Nat), wr.ranges Tryz.prog 9 (plainElem Tryz.prog 5) b w.heap.size m (mapD l) left cnt ∧ left (.string s) = true ∧ Below w.heap.size w wr)
    (fun _ wr => wr.rangeLeft b w.heap.size)
  case atStart =>
    refine ⟨_, _, hrg0, ?_, (Below.refl _ _).grown hg0 (Nat.le_refl _) (fun j hj => by cases hj)⟩
    rw [mapD_has, hs.out]
    rfl
  case round =>
    obtain ⟨left, cnt, hrg, hls, hnx⟩ := hrel
    go_wp2_with (first
      | (at_next; refine wpList_next_ranges _ rfl _ rfl 9 lawS _ (fun x : Tx => Value.string ⟨x.toArray⟩) (Value.int .u8) (fun key kl hk => by obtain ⟨x, hx, _⟩ := keyOf_text Tryz.underlying9 hk; exact ⟨x, hx⟩) (fun v y hv => by obtain ⟨c, rfl, _⟩ := plainElem_int_inv Tryz.underlying5 hv; exact ⟨c, rfl⟩) b w.heap.size m _ _ _ rfl hrg ?_ ?_)
      | go_in)
    · intro hc0 hl0
      rw [hl0] at hls
      cases hls
    · intro x c kl yd yp w1 cnt1 hkey hlk hv hat hrg1 hlt hg1 hs1 hen
      obtain ⟨x', ex, rfl, _⟩ := keyOf_text Tryz.underlying9 hkey
      obtain rfl : x = x' := by simpa using ex
      obtain ⟨c', ec, ey, hwc⟩ := plainElem_int_inv Tryz.underlying5 hv
      cases ec
      cases ey
      have hx := hat .nil
      rw [mapD_at] at hx
      have hlow := hid (hnx.grown hg1 hnx.size (fun j hj => by cases hj; exact Nat.le_refl _))
      clear hs1 hkey hwc hv hat ex
      by_cases hcn : c = (n : Int)
      · have hx2 : x = s := by
          refine hu.out x ?_
          cases hf : findR l x with
          | none => rw [hf] at hx; cases hx
          | some k =>
            rw [hf] at hx
            simp only [numD] at hx
            injection hx with hx
            injection hx with _ hx
            congr 1
            omega
        subst hcn
        subst hx2
        clear hx hlk hls
        go_wp2
        go_ret
        exact ⟨rfl, hlow.out⟩
      · have hne : (c == (n : Int)) = false := beq_eq_false_iff_ne.2 hcn
        have hxs : x ≠ s := by
          rintro rfl
          rw [hs.out] at hx
          simp only [numD] at hx
          injection hx with hx
          injection hx with _ hx
          exact hcn hx.symm
        clear hx
        go_wp2
        go_roundw
        case rel =>
          refine ⟨_, cnt1, hrg1, ?_, hlow.out⟩
          simp only [hls, Bool.true_and, Bool.not_eq_true']
          exact sameKey_ne (fun e => hxs (by injection e with e; exact e.symm))
        case measure => rw [hrg1.left_eq, hrg.left_eq]; exact hlt
end Go.Proofs.YtjhodmpgggaknaaGreatDoor
/- The reader of conditions in memory; contracts of takes, take, add. -/
namespace Go.Proofs.YtjhodmpgggaknaaGreatDoor
open Go.RowKit Go.Shelf Go.Maps

/-- a reader: what isn't read yet, the nodes, whether there were too many. F: its own blocks; w0: memory as it was ahead of it. -/
structure RdAt (F : Nat → Prop) (w0 w : World) (b : Nat) (ts : List Tk) (ns : List Nd) (fl : Bool) : Prop where
  low : Below w0.heap.size w0 w
  lo : ∀ k, F k → w0.heap.size ≤ k
  lt : ∀ k, F k → k < w.heap.size
  inb : F b
  cell : ∃ vr vn z, w.heap[b]? = some (.cells #[vr, vn, .bool fl] 59) ∧ IsTs w0 vr ts ∧ z.map Prod.fst = ns ∧ OwnZ w0.heap.size w vn z ∧ SelO w0.heap.size w z ∧ (∀ k, vn.ownBlock = some k → F k) ∧ ∀ p ∈ z, ∀ k, p.2.ownBlock = some k → F k
  len : ns.length ≤ 31
/-- what a call made of a reader; G: blocks that it turned besides. -/
def RdTo (F G : Nat → Prop) (w0 w w' : World) (b : Nat) (ts : List Tk) (ns : List Nd) (fl : Bool) : Prop :=
  ∃ F', RdAt F' w0 w' b ts ns fl ∧ Kept (fun k => F k ∨ G k) w w' ∧ (∀ k, F k → F' k) ∧ ∀ k, F' k → F k ∨ w.heap.size ≤ k
def no (_ : Nat) : Prop := False
theorem IsTs.low {w0 w : World} {v : Value} {ts : List Tk} (h : IsTs w0 v ts) (hb : Below w0.heap.size w0 w) : IsTs w v ts := h.below hb
theorem RdAt.nodes {F : Nat → Prop} {w0 w : World} {b : Nat} {ts : List Tk} {ns : List Nd} {fl : Bool} (h : RdAt F w0 w b ts ns fl) : ∃ vr vn, w.heap[b]? = some (.cells #[vr, vn, .bool fl] 59) ∧ IsTs w vr ts ∧ OwnN w0.heap.size w vn ns := by
  obtain ⟨vr, vn, z, h1, h2, h3, h4, h5, _⟩ := h.cell
  exact ⟨vr, vn, h1, h2.low h.low, z, h3, h4, h5⟩
theorem SelO.keep2 {B : Nat} {w w' : World} {l : List (Nd × Value)} (h : SelO B w l) (hb : ∀ p ∈ l, ∀ k, p.2.ownBlock = some k → w'.heap[k]? = w.heap[k]?) : SelO B w' l := fun p hp => (h p hp).keep fun k hk => hb p hp k hk
/-- it stays where nothing of its own is turned. -/
theorem RdAt.keep {F G : Nat → Prop} {w0 w w' : World} {b : Nat} {ts : List Tk} {ns : List Nd} {fl : Bool} (h : RdAt F w0 w b ts ns fl) (hk : Kept G w w') (hG : ∀ k, F k → ¬ G k) (hl : ∀ k, G k → w0.heap.size ≤ k) : RdAt F w0 w' b ts ns fl := by
  have hb : ∀ k, F k → w'.heap[k]? = w.heap[k]? := fun k hf => hk.block k (h.lt k hf) (hG k hf)
  obtain ⟨vr, vn, z, h1, h2, h3, h4, h5, h6, h7⟩ := h.cell
  exact ⟨h.low.trans (hk.below h.low.size hl), h.lo, fun k hf => Nat.lt_of_lt_of_le (h.lt k hf) hk.size, h.inb, ⟨vr, vn, z, (hb b h.inb).trans h1, h2, h3, h4.keep (fun k hv => hb k (h6 k hv)), h5.keep2 (fun p hp k hv => hb k (h7 p hp k hv)), h6, h7⟩, h.len⟩
theorem RdAt.below {F : Nat → Prop} {w0 w w' : World} {b : Nat} {ts : List Tk} {ns : List Nd} {fl : Bool} (h : RdAt F w0 w b ts ns fl) (hb : Below w.heap.size w w') : RdAt F w0 w' b ts ns fl :=
  h.keep (G := fun k => w.heap.size ≤ k) ⟨hb.os, hb.tape, hb.output, hb.size, fun k hk _ => hb.block k hk⟩ (fun k hf hg => by have := h.lt k hf; omega) (fun k hg => Nat.le_trans h.low.size hg)
theorem kept_below {G : Nat → Prop} {w w' : World} (hb : Below w.heap.size w w') : Kept G w w' := ⟨hb.os, hb.tape, hb.output, hb.size, fun k hk _ => hb.block k hk⟩
theorem RdAt.to {F : Nat → Prop} (G : Nat → Prop) {w0 w : World} {b : Nat} {ts : List Tk} {ns : List Nd} {fl : Bool} (h : RdAt F w0 w b ts ns fl) : RdTo F G w0 w w b ts ns fl := ⟨F, h, Kept.refl _ _, fun _ h => h, fun _ h => .inl h⟩
theorem RdAt.later {F : Nat → Prop} (G : Nat → Prop) {w0 w w' : World} {b : Nat} {ts : List Tk} {ns : List Nd} {fl : Bool} (h : RdAt F w0 w b ts ns fl) (hb : Below w.heap.size w w') : RdTo F G w0 w w' b ts ns fl := ⟨F, h.below hb, kept_below hb, fun _ h => h, fun _ h => .inl h⟩
/-- one call behind another. -/
theorem RdTo.then {F G : Nat → Prop} {w0 w w1 w2 : World} {b : Nat} {ts ts' : List Tk} {ns ns' : List Nd} {fl fl' : Bool} (h : RdTo F G w0 w w1 b ts ns fl) (H : ∀ F1, RdAt F1 w0 w1 b ts ns fl → (∀ k, F k → F1 k) → (∀ k, F1 k → F k ∨ w.heap.size ≤ k) → RdTo F1 G w0 w1 w2 b ts' ns' fl') : RdTo F G w0 w w2 b ts' ns' fl' := by
  obtain ⟨F1, h1, k1, i1, f1⟩ := h
  obtain ⟨F2, h2, k2, i2, f2⟩ := H F1 h1 i1 f1
  refine ⟨F2, h2, k1.trans k2 fun k hk => ?_, fun k hk => i2 k (i1 k hk), fun k hk => ?_⟩
  · rcases hk with hk | hk
    · rcases f1 k hk with h | h
      · exact .inl (.inl h)
      · exact .inr h
    · exact .inl (.inr hk)
  · rcases f2 k hk with h | h
    · exact f1 k h
    · exact .inr (Nat.le_trans k1.size h)
theorem RdTo.after {F G : Nat → Prop} {w0 w w1 w2 : World} {b : Nat} {ts : List Tk} {ns : List Nd} {fl : Bool} (hb : Below w.heap.size w w1) (h : RdTo F G w0 w1 w2 b ts ns fl) : RdTo F G w0 w w2 b ts ns fl := by
  obtain ⟨F2, h2, k2, i2, f2⟩ := h
  refine ⟨F2, h2, (kept_below hb).trans k2 fun k hk => .inl hk, i2, fun k hk => ?_⟩
  rcases f2 k hk with h | h
  · exact .inl h
  · exact .inr (Nat.le_trans hb.size h)
theorem RdTo.mono {F G G' : Nat → Prop} {w0 w w1 : World} {b : Nat} {ts : List Tk} {ns : List Nd} {fl : Bool} (h : RdTo F G w0 w w1 b ts ns fl) (hG : ∀ k, k < w.heap.size → G k → G' k) : RdTo F G' w0 w w1 b ts ns fl := by
  obtain ⟨F1, h1, k1, i1, f1⟩ := h
  exact ⟨F1, h1, k1.mono fun k hl hk => hk.imp id (hG k hl), i1, f1⟩
/-- the rest is set. -/
theorem RdAt.rest {F : Nat → Prop} {w0 w : World} {b : Nat} {ts ts' : List Tk} {ns : List Nd} {fl : Bool} (G : Nat → Prop) (h : RdAt F w0 w b ts ns fl) {vr' : Value} (ht : IsTs w0 vr' ts') : RdTo F G w0 w (w.setCell ⟨b, 0, none⟩ vr') b ts' ns fl := by
  obtain ⟨vr, vn, z, h1, h2, h3, h4, h5, h6, h7⟩ := h.cell
  have hk := kept_set (F := F) w b 0 vr' h.inb
  have hb2 : (w.setCell ⟨b, 0, none⟩ vr').heap[b]? = some (.cells #[vr', vn, .bool fl] 59) := by rw [heap_set_at h1]; rfl
  refine ⟨F, ⟨h.low.trans (hk.below h.low.size h.lo), h.lo, fun k hf => by rw [size_set]; exact h.lt k hf, h.inb, ⟨vr', vn, z, hb2, ht, h3, h4.keep (fun k hv => heap_set _ _ _ _ _ fun e => ?_), h5.keep (fun k c hc => heap_set _ _ _ _ _ fun e => by rw [e, h1] at hc; simp at hc), h6, h7⟩, h.len⟩, hk.mono fun k _ hk => .inl hk, fun _ h => h, fun _ h => .inl h⟩
  obtain ⟨c, hc⟩ := h4.block hv
  rw [e, h1] at hc; simp at hc
/-- the token that stands there. -/
def hd (k : Key) : List Tk → Bool
  | [] => false
  | t :: _ => t.kind == k.1 && t.text == k.2
end Go.Proofs.YtjhodmpgggaknaaGreatDoor
/- Contracts of take and stands. -/
namespace Go.Proofs.YtjhodmpgggaknaaGreatDoor
open Go.RowKit Go.Shelf Go.Maps

theorem RdAt.turned {F : Nat → Prop} {w0 w : World} {b : Nat} {ts : List Tk} {ns : List Nd} {fl : Bool} (h : RdAt F w0 w b ts ns fl) {pb po : Nat} {v : Value} (hp : ¬ F pb) (hl : w0.heap.size ≤ pb) : RdAt F w0 (w.setCell ⟨pb, po, none⟩ v) b ts ns fl :=
  h.keep (G := fun k => k = pb) (kept_set _ _ _ _ rfl) (fun k hf e => hp (e ▸ hf)) (fun k e => by omega)
theorem RdTo.pre {F G : Nat → Prop} {w0 w w1 w2 : World} {b : Nat} {ts : List Tk} {ns : List Nd} {fl : Bool} (h0 : Kept G w w1) (h : RdTo F G w0 w1 w2 b ts ns fl) : RdTo F G w0 w w2 b ts ns fl := by
  obtain ⟨F2, h2, k2, i2, f2⟩ := h
  refine ⟨F2, h2, (h0.mono (F' := fun k => F k ∨ G k) fun k _ h => .inr h).trans k2 fun k hk => .inl hk, i2, fun k hk => ?_⟩
  rcases f2 k hk with h | h
  · exact .inl h
  · exact .inr (Nat.le_trans h0.size h)
end Go.Proofs.YtjhodmpgggaknaaGreatDoor
