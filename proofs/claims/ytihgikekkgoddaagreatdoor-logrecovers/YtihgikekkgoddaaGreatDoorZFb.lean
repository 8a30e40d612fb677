/- Joined: FW1 FW2 FM1 FW4. -/
import Derived.Test.YtihgikekkgoddaaGreatDoorProg
import Derived.KernelRfl
import Derived.WalkKit
import Derived.Test.YtihgikekkgoddaaGreatDoorZFa
import Derived.WalkSpells
import Derived.WalkLawsBesides
import Derived.Laws.BitsLemmas
import Derived.Deep.QuietTactic
import Derived.BigQuiet
import Derived.Below
import Derived.Maps.AppendAt
import Derived.Maps.OwnSet
import Derived.Laws.OwnMore
/- The contract of the program's timesX. -/
namespace Go.Proofs.YtihgikekkgoddaaGreatDoor.Frm
open Go.RowKit

theorem ret_int {k : IntKind} {a b : Int} (h : a = b) : Ending.returned (.int k a) = .returned (.int k b) := by rw [h]

theorem bits_u32 (op : BinOp) (f : R → R → R) (h : ∀ a b : Int, bits op .u32 a b = IntKind.u32.wrap ((f (BitVec.ofInt 32 a) (BitVec.ofInt 32 b)).toNat : Int)) (x y : R) :
    bits op .u32 (x.toNat : Int) (y.toNat : Int) = ((f x y).toNat : Int) := by
  rw [h, BitVec.ofInt_natCast, BitVec.ofInt_natCast, BitVec.ofNat_toNat, BitVec.ofNat_toNat, IntKind.wrap_u32']
  have := (f x y).isLt
  simp only [BitVec.setWidth_eq]
  omega
theorem bx (x y : R) : bits .xor .u32 (x.toNat : Int) (y.toNat : Int) = ((x ^^^ y).toNat : Int) := bits_u32 .xor (fun a b => a ^^^ b) (fun _ _ => rfl) x y
theorem ba (x y : R) : bits .and .u32 (x.toNat : Int) (y.toNat : Int) = ((x &&& y).toNat : Int) := bits_u32 .and (fun a b => a &&& b) (fun _ _ => rfl) x y
theorem b1 : (1 : Int) = ((1#32).toNat : Int) := rfl
theorem b0 : (0 : Int) = ((0#32).toNat : Int) := rfl
theorem bdv : (2197175160 : Int) = (dv.toNat : Int) := rfl
theorem bunit : (2147483648 : Int) = (unit.toNat : Int) := rfl
theorem bshl (x : R) : (x.toNat : Int) * (2 : Int) % (4294967296 : Int) = ((x <<< 1).toNat : Int) := by
  rw [BitVec.toNat_shiftLeft, Nat.shiftLeft_eq]; omega
theorem btop (x : R) : (bits .and .u32 (x.toNat : Int) 2147483648 != 0) = x.getLsbD 31 := by
  rw [bunit, ba]
  have h1 : x &&& unit = if x.getLsbD 31 then unit else 0#32 := by
    apply BitVec.eq_of_getLsbD_eq
    intro i hi
    rw [BitVec.getLsbD_and, show unit = pw 31 by decide +kernel, pw_bit _ _ (by omega)]
    by_cases e : 31 = i
    · subst e; cases h : x.getLsbD 31
      · simp
      · rw [if_pos rfl, pw_bit _ _ (by omega)]; rfl
    · cases h : x.getLsbD 31 <;> simp [e, pw_bit]
  rw [h1]
  cases x.getLsbD 31 <;> decide +kernel
theorem bhalf (x : R) : (x.toNat : Int) / (2 : Int) = ((x >>> 1).toNat : Int) := by
  rw [BitVec.toNat_ushiftRight, Nat.shiftRight_eq_div_pow]; omega
theorem bneg (x : R) : -(x.toNat : Int) % 4294967296 = ((-x).toNat : Int) := by
  rw [BitVec.toNat_neg]; have := x.isLt; omega
theorem tx_form (x : R) : (x >>> 1) ^^^ (dv &&& -(x &&& 1#32)) = tx x := by
  unfold tx
  congr 1
  have h1 : x &&& 1#32 = if x.getLsbD 0 then 1#32 else 0#32 := by
    apply BitVec.eq_of_getLsbD_eq
    intro i hi
    rw [BitVec.getLsbD_and]
    by_cases e : i = 0
    · subst e; cases h : x.getLsbD 0 <;> simp
    · cases h : x.getLsbD 0 <;> simp [e]
  rw [h1]
  cases x.getLsbD 0 <;> decide +kernel

set_option maxHeartbeats 400000 in
theorem tx_any (x : R) (w : World) :
    Calls Tryz.prog 111 #[.int .u32 (x.toNat : Int)] w fun e w' => e = .returned (.int .u32 ((tx x).toNat : Int)) ∧ w' = w := by
  have hx := x.isLt
  go_enter Tryz.func111, Tryz.ntmps111
  go_wp2
  go_ret
  refine ⟨ret_int ?_, rfl⟩
  rw [← tx_form, bhalf, b1, ba, bneg, bdv, ba, bx]

end Go.Proofs.YtihgikekkgoddaaGreatDoor.Frm
/- Contracts of the program's sums: Of over pieces in memory, Sum over bytes in memory. -/
namespace Go.Proofs.YtihgikekkgoddaaGreatDoor.Frm
open Go.RowKit

/-- a slice's value over a row of bytes. -/
def IsB (w : World) (v : Value) (zs : List Int) : Prop :=
  zs.length ≤ maxLen ∧ (∀ z ∈ zs, 0 ≤ z ∧ z < 256) ∧ ∃ a cap, v = .slice a zs.length cap ∧ zs.length ≤ cap ∧ cap ≤ maxLen ∧ (zs = [] ∨ ∃ b off, a = some ⟨b, off, none⟩ ∧ ∀ i, i < zs.length → w.cell? ⟨b, off + i, none⟩ = some (.int .u8 (zs.getD i 0)))
/-- a slice's value over a row of such slices. -/
def IsP (w : World) (v : Value) (l : List (List Int)) : Prop :=
  l.length ≤ maxLen ∧ ∃ a cap, v = .slice a l.length cap ∧ (l = [] ∨ ∃ b off, a = some ⟨b, off, none⟩ ∧ ∀ i, i < l.length → ∃ u, w.cell? ⟨b, off + i, none⟩ = some u ∧ IsB w u (l.getD i []))
theorem hid {p : Prop} (h : p) : Hid p := h
theorem getD_mem (zs : List Int) (i : Nat) (h : i < zs.length) : zs.getD i 0 ∈ zs := by
  simp [List.getD, List.getElem?_eq_getElem h]
theorem byt_nat (z : Int) (h0 : 0 ≤ z) (h : z < 256) : z = ((byt z).toNat : Int) := by
  unfold byt; rw [BitVec.toNat_ofInt]; omega
theorem step_form (l : R) (z : Int) : step l z = txn 8 (l ^^^ byt z) := rfl
theorem ones_not (x : R) : (4294967295 : Int) - (x.toNat : Int) = ((x ^^^ ones).toNat : Int) := by
  have h : x ^^^ ones = ~~~x := by unfold ones; rw [show (0xffffffff#32 : R) = BitVec.allOnes 32 by decide +kernel, BitVec.xor_allOnes]
  rw [h, BitVec.toNat_not]; have := x.isLt; omega

set_option maxHeartbeats 2000000 in
theorem of_any (v : Value) (l : List (List Int)) (w : World) (h : IsP w v l) :
    Calls Tryz.prog 104 #[v] w fun e w' => e = .returned (.int .u32 ((sum l.flatten).toNat : Int)) ∧ w' = w := by
  obtain ⟨hm, a, cap, rfl, hc⟩ := h
  unfold maxLen at hm
  have HC : Hid (l = [] ∨ ∃ b off, a = some ⟨b, off, none⟩ ∧ ∀ i, i < l.length → ∃ u, w.cell? ⟨b, off + i, none⟩ = some u ∧ IsB w u (l.getD i [])) := hc
  clear hc
  go_enter Tryz.func104, Tryz.ntmps104
  go_wp2
  go_loop [3, 10] (fun p i => ∃ (k : Nat), k ≤ l.length ∧ i = .int .i64 k ∧ p = .int .u32 ((raw ones (l.take k).flatten).toNat : Int)) (fun _ i => l.length - (intOf i).toNat)
  case atStart => exact ⟨0, by omega, rfl, rfl⟩
  case round =>
    obtain ⟨k, hk, rfl, rfl⟩ := hrel
    by_cases hlt : k < l.length
    · have hlt' : (k : Int) < (l.length : Int) := by omega
      obtain ⟨b, off, rfl, hcell⟩ : ∃ b off, a = some ⟨b, off, none⟩ ∧ ∀ i, i < l.length → ∃ u, w.cell? ⟨b, off + i, none⟩ = some u ∧ IsB w u (l.getD i []) := by
        rcases HC.out with h | h
        · subst h; simp at hlt
        · exact h
      obtain ⟨u, hcu, hzm, hzb, a1, cap1, rfl, _, _, hc1⟩ := hcell k hlt
      clear hcell
      have HF := hid (flat_take l k hlt)
      generalize l.getD k [] = zs at *
      unfold maxLen at hzm
      have HZ : Hid (∀ z ∈ zs, 0 ≤ z ∧ z < 256) := hzb
      have HC1 : Hid (zs = [] ∨ ∃ b off, a1 = some ⟨b, off, none⟩ ∧ ∀ i, i < zs.length → w.cell? ⟨b, off + i, none⟩ = some (.int .u8 (zs.getD i 0))) := hc1
      clear hzb hc1
      go_wp2
      go_loop [3, 16] (fun p i => ∃ (j : Nat), j ≤ zs.length ∧ i = .int .i64 j ∧ p = .int .u32 ((raw ones ((l.take k).flatten ++ zs.take j)).toNat : Int)) (fun _ i => zs.length - (intOf i).toNat)
      case atStart => exact ⟨0, by omega, rfl, by simp⟩
      case round =>
        obtain ⟨j, hj, rfl, rfl⟩ := hrel
        by_cases hjt : j < zs.length
        · have hjt' : (j : Int) < (zs.length : Int) := by omega
          obtain ⟨b1, off1, rfl, hcell1⟩ : ∃ b off, a1 = some ⟨b, off, none⟩ ∧ ∀ i, i < zs.length → w.cell? ⟨b, off + i, none⟩ = some (.int .u8 (zs.getD i 0)) := by
            rcases HC1.out with h | h
            · subst h; simp at hjt
            · exact h
          have hcz := hcell1 j hjt
          have hz := HZ.out _ (getD_mem zs j hjt)
          clear hcell1
          have HT := hid (take_snoc zs j hjt)
          generalize zs.getD j 0 = z at *
          obtain ⟨hz0, hz1⟩ := hz
          have HX : Hid (bits .xor .u32 ((raw ones ((l.take k).flatten ++ zs.take j)).toNat : Int) z = ((raw ones ((l.take k).flatten ++ zs.take j) ^^^ byt z).toNat : Int)) := by
            have h := bx (raw ones ((l.take k).flatten ++ zs.take j)) (byt z)
            rw [← byt_nat z hz0 hz1] at h
            exact h
          go_wp2
          go_loop [3, 24] (fun p i => ∃ (m : Nat), m ≤ 8 ∧ i = .int .i64 m ∧ p = .int .u32 ((txn m (raw ones ((l.take k).flatten ++ zs.take j) ^^^ byt z)).toNat : Int)) (fun _ i => 8 - (intOf i).toNat)
          case atStart => exact ⟨0, by omega, rfl, congrArg (Value.int .u32) HX.out⟩
          case round =>
            obtain ⟨m, hm8, rfl, rfl⟩ := hrel
            by_cases hmt : m < 8
            · have hmt' : (m : Int) < 8 := by omega
              go_wp2_with (go_at_call 111; refine (tx_any _ _).mono ?_; rintro e w' ⟨rfl, rfl⟩)
              go_round
              case rel => exact ⟨m + 1, by omega, by go_num, by rw [txn_succ]⟩
              case measure => simp [intOf]; omega
            · have hmt' : ¬ (m : Int) < 8 := by omega
              obtain rfl : m = 8 := by omega
              go_wp2
              go_round
              case rel => exact ⟨j + 1, by omega, by go_num, by rw [HT.out, ← List.append_assoc, raw_snoc, step_form]⟩
              case measure => simp [intOf]; omega
        · have hjt' : ¬ (j : Int) < (zs.length : Int) := by omega
          go_wp2
          go_round
          case rel => exact ⟨k + 1, by omega, by go_num, by rw [HF.out, List.take_of_length_le (show zs.length ≤ j by omega)]⟩
          case measure => simp [intOf]; omega
    · have hlt' : ¬ (k : Int) < (l.length : Int) := by omega
      go_wp2
      go_ret
      refine ⟨ret_int ?_, rfl⟩
      rw [show IntKind.u32.max = (ones.toNat : Int) from rfl, bx, List.take_of_length_le (by omega), BitVec.xor_comm]
      rfl

theorem IsB.below {w w' : World} {v : Value} {zs : List Int} (h : IsB w v zs) (hb : Below w.heap.size w w') : IsB w' v zs := by
  obtain ⟨h1, h2, a, cap, rfl, h4, h5, h3⟩ := h
  refine ⟨h1, h2, a, cap, rfl, h4, h5, ?_⟩
  rcases h3 with rfl | ⟨b, off, rfl, hc⟩
  · exact .inl rfl
  · refine .inr ⟨b, off, rfl, fun i hi => ?_⟩
    have := hc i hi
    rw [hb.cell (p := ⟨b, off + i, none⟩) (World.block_lt_of_cell? w _ this)]
    exact this
theorem IsP.below {w w' : World} {v : Value} {l : List (List Int)} (h : IsP w v l) (hb : Below w.heap.size w w') : IsP w' v l := by
  obtain ⟨h1, a, cap, rfl, h3⟩ := h
  refine ⟨h1, a, cap, rfl, ?_⟩
  rcases h3 with rfl | ⟨b, off, rfl, hc⟩
  · exact .inl rfl
  · refine .inr ⟨b, off, rfl, fun i hi => ?_⟩
    obtain ⟨u, hu, hB⟩ := hc i hi
    refine ⟨u, ?_, hB.below hb⟩
    rw [hb.cell (p := ⟨b, off + i, none⟩) (World.block_lt_of_cell? w _ hu)]
    exact hu

theorem isP_alloc (w : World) (vs : List Value) (l : List (List Int)) (t : TypeId) (n g : Nat) (hg : g = w.heap.size) (hn : n = l.length) (hm : n ≤ maxLen) (h : ∀ i, i < l.length → ∃ u, vs[i]? = some u ∧ IsB w u (l.getD i [])) :
    IsP (w.alloc (.cells vs.toArray t)) (.slice (some ⟨g, 0, none⟩) n n) l := by
  subst hn hg
  refine ⟨hm, _, _, rfl, .inr ⟨_, _, rfl, fun i hi => ?_⟩⟩
  obtain ⟨u, hu, hB⟩ := h i hi
  refine ⟨u, ?_, hB.below ((Below.refl _ _).alloc (Nat.le_refl _) _)⟩
  rw [World.cell?_alloc_new]
  simpa using hu
theorem isP_one {w : World} {v : Value} {zs : List Int} (t : TypeId) (h : IsB w v zs) : IsP (w.alloc (.cells #[v] t)) (.slice (some ⟨w.heap.size, 0, none⟩) 1 1) [zs] :=
  isP_alloc w [v] [zs] t 1 _ rfl rfl (by unfold maxLen; omega) (fun i hi => by
    match i, hi with
    | 0, _ => exact ⟨_, rfl, h⟩)
theorem isP_two {w : World} {v v' : Value} {zs zs' : List Int} (t : TypeId) (g : Nat) (hg : g = w.heap.size) (h : IsB w v zs) (h' : IsB w v' zs') : IsP (w.alloc (.cells #[v, v'] t)) (.slice (some ⟨g, 0, none⟩) 2 2) [zs, zs'] :=
  isP_alloc w [v, v'] [zs, zs'] t 2 g hg rfl (by unfold maxLen; omega) (fun i hi => by
    match i, hi with
    | 0, _ => exact ⟨_, rfl, h⟩
    | 1, _ => exact ⟨_, rfl, h'⟩)
theorem isP_three {w : World} {v v' v'' : Value} {zs zs' zs'' : List Int} (t : TypeId) (g : Nat) (hg : g = w.heap.size) (h : IsB w v zs) (h' : IsB w v' zs') (h'' : IsB w v'' zs'') : IsP (w.alloc (.cells #[v, v', v''] t)) (.slice (some ⟨g, 0, none⟩) 3 3) [zs, zs', zs''] :=
  isP_alloc w [v, v', v''] [zs, zs', zs''] t 3 g hg rfl (by unfold maxLen; omega) (fun i hi => by
    match i, hi with
    | 0, _ => exact ⟨_, rfl, h⟩
    | 1, _ => exact ⟨_, rfl, h'⟩
    | 2, _ => exact ⟨_, rfl, h''⟩)

end Go.Proofs.YtihgikekkgoddaaGreatDoor.Frm
/- Bytes in memory: what stays, rows of one's own, pieces of slices, what append makes. -/
namespace Go.Proofs.YtihgikekkgoddaaGreatDoor.Frm
open Go.RowKit

theorem new_block (w : World) (o : Obj) : (w.alloc o).heap[w.heap.size]? = some o := (MapKept.heap_alloc w o).1
theorem alloc_below (w : World) (o : Obj) : Below w.heap.size w (w.alloc o) := (Below.refl _ _).alloc (Nat.le_refl _) _
theorem lowB {B : Nat} {w w1 w2 : World} (L : Below B w w1) (hB : B ≤ w1.heap.size) (hb : Below w1.heap.size w1 w2) : Below B w w2 := L.trans (hb.mono hB)
theorem low' {w w1 w2 : World} (L : Below w.heap.size w w1) (hb : Below w1.heap.size w1 w2) : Below w.heap.size w w2 := L.trans (hb.mono L.size)
theorem cell_of {w : World} {b : Nat} {c : Array Value} {t : TypeId} {fz : Nat × Nat} (h : w.heap[b]? = some (.cells c t fz)) (o : Nat) : w.cell? ⟨b, o, none⟩ = c[o]? := by
  simp [World.cell?, h]
theorem frozen_of {w : World} {b : Nat} {c : Array Value} {t : TypeId} (h : w.heap[b]? = some (.cells c t)) (o : Nat) : w.frozen? ⟨b, o, none⟩ = false := by
  simp [World.frozen?, h]
theorem heap_set (w : World) (b o : Nat) (v : Value) (k : Nat) (h : k ≠ b) : (w.setCell ⟨b, o, none⟩ v).heap[k]? = w.heap[k]? := by
  simp [World.setCell, Array.getElem?_modify, Ne.symm h]
theorem heap_set_at {w : World} {b o : Nat} {c : Array Value} {t : TypeId} {fz : Nat × Nat} (h : w.heap[b]? = some (.cells c t fz)) (v : Value) : (w.setCell ⟨b, o, none⟩ v).heap[b]? = some (.cells (c.setIfInBounds o v) t fz) := by
  simp [World.setCell, Array.getElem?_modify, h]
theorem size_set (w : World) (a : Addr) (v : Value) : (w.setCell a v).heap.size = w.heap.size := by
  simp [World.setCell]
theorem lt_of_block {w : World} {b : Nat} {o : Obj} (h : w.heap[b]? = some o) : b < w.heap.size := (Array.getElem?_eq_some_iff.1 h).1
theorem ownsRow_block {w w' : World} {base : Nat} {e : TypeId} {s : Nat} {v : Value} {n : Nat} {xs : List Value} (h : w.ownsRow base e s v n xs) (hb : ∀ k, v.ownBlock = some k → w'.heap[k]? = w.heap[k]?) : w'.ownsRow base e s v n xs := by
  refine ⟨h.1, ?_⟩
  rcases h.2 with hn | ⟨g, cap, cur, rfl, h1, h2, rest⟩
  · exact .inl hn
  · exact .inr ⟨g, cap, cur, rfl, h1, (hb g rfl).trans h2, rest⟩
theorem ownsRow_base {w : World} {base base' : Nat} {e : TypeId} {s : Nat} {v : Value} {n : Nat} {xs : List Value} (h : w.ownsRow base e s v n xs) (hb : ∀ k, v.ownBlock = some k → base' ≤ k) : w.ownsRow base' e s v n xs := by
  refine ⟨h.1, ?_⟩
  rcases h.2 with hn | ⟨g, cap, cur, rfl, h1, h2, rest⟩
  · exact .inl hn
  · exact .inr ⟨g, cap, cur, rfl, hb g rfl, h2, rest⟩
theorem row_slice {w : World} {base : Nat} {e : TypeId} {s : Nat} {v : Value} {n : Nat} {xs : List Value} (h : w.ownsRow base e s v n xs) : ∃ a c, v = .slice a n c := by
  rcases h.2 with ⟨rfl, h0⟩ | ⟨g, cap, cur, rfl, _⟩
  · exact ⟨none, 0, by rw [h0]⟩
  · exact ⟨_, cap, rfl⟩

/-- a row of bytes of one's own, in a block from B on. -/
def Own (B : Nat) (w : World) (v : Value) (zs : List Int) : Prop := Byt zs ∧ w.ownsRow B 5 1 v zs.length (zs.map (Value.int .u8))
theorem Own.slice {B : Nat} {w : World} {v : Value} {zs : List Int} (h : Own B w v zs) : ∃ a c, v = .slice a zs.length c := row_slice h.2
theorem Own.keep {B : Nat} {w w' : World} {v : Value} {zs : List Int} (h : Own B w v zs) (hb : ∀ k, v.ownBlock = some k → w'.heap[k]? = w.heap[k]?) : Own B w' v zs := ⟨h.1, ownsRow_block h.2 hb⟩
theorem Own.lt {B : Nat} {w : World} {v : Value} {zs : List Int} (h : Own B w v zs) {k : Nat} (hk : v.ownBlock = some k) : B ≤ k ∧ k < w.heap.size := h.2.lt k hk
theorem Own.below {B : Nat} {w w' : World} {v : Value} {zs : List Int} (h : Own B w v zs) (hb : Below w.heap.size w w') : Own B w' v zs := h.keep fun k hk => hb.block k (h.lt hk).2
theorem Own.base {B B' : Nat} {w : World} {v : Value} {zs : List Int} (h : Own B w v zs) (hB : B' ≤ B) : Own B' w v zs := ⟨h.1, ownsRow_base h.2 fun _ hk => Nat.le_trans hB (h.lt hk).1⟩
theorem Own.form {B : Nat} {w : World} {v : Value} {zs : List Int} (h : Own B w v zs) : (v = .slice none 0 0 ∧ zs = []) ∨ ∃ g c cur, v = .slice (some ⟨g, 0, none⟩) zs.length c ∧ zs.length ≤ c ∧ c ≤ maxLen ∧ B ≤ g ∧ w.heap[g]? = some (.cells cur 5) ∧ cur.size = c ∧ ∀ i, i < zs.length → cur[i]? = some (.int .u8 (zs.getD i 0)) := by
  rcases h.2.2 with ⟨rfl, h0⟩ | ⟨g, cap, cur, rfl, hB, hg, h1, h2, h3, h4⟩
  · exact .inl ⟨rfl, List.eq_nil_of_length_eq_zero h0⟩
  · refine .inr ⟨g, cap, cur, rfl, h1, h2, hB, hg, by simpa using h3, fun i hi => ?_⟩
    have : (cur.toList.take (zs.length * 1))[i]? = (zs.map (Value.int .u8))[i]? := by rw [h4]
    rw [List.getElem?_take_of_lt (by omega)] at this
    rw [← Array.getElem?_toList, this]
    simp [List.getElem?_eq_getElem hi, List.getD]
theorem Own.isB {B : Nat} {w : World} {v : Value} {zs : List Int} (h : Own B w v zs) : IsB w v zs := by
  rcases h.form with ⟨rfl, rfl⟩ | ⟨g, c, cur, rfl, h1, h2, _, h3, _, h4⟩
  · exact ⟨by simp, h.1, none, 0, rfl, by simp, by simp, .inl rfl⟩
  · refine ⟨by omega, h.1, _, c, rfl, h1, h2, .inr ⟨g, 0, rfl, fun i hi => ?_⟩⟩
    rw [cell_of h3, Nat.zero_add]; exact h4 i hi
theorem own_nil (B : Nat) (w : World) : Own B w (.slice none 0 0) [] := ⟨(by intro z hz; simp at hz), World.ownsRow_nil _ _ _ _⟩
theorem own_new (w : World) (C : Array Value) (zs : List Int) (g n : Nat) (hg : g = w.heap.size) (hn : n = zs.length) (hC : C = (zs.map (Value.int .u8)).toArray) (hb : Byt zs) (hm : zs.length ≤ maxLen) : Own w.heap.size (w.alloc (.cells C 5)) (.slice (some ⟨g, 0, none⟩) n n) zs := by
  subst hg hn hC
  refine ⟨hb, by simp, .inr ⟨_, _, _, rfl, Nat.le_refl _, new_block w _, Nat.le_refl _, hm, by simp, by simp only []; exact List.take_of_length_le (by simp)⟩⟩
theorem IsB.slice {w : World} {v : Value} {zs : List Int} (h : IsB w v zs) : ∃ a c, v = .slice a zs.length c := by obtain ⟨_, _, a, c, e, _⟩ := h; exact ⟨a, c, e⟩
theorem IsB.byt {w : World} {v : Value} {zs : List Int} (h : IsB w v zs) : Byt zs := h.2.1
theorem IsB.keep {w w' : World} {v : Value} {zs : List Int} (h : IsB w v zs) (hk : ∀ b o u, v.ownBlock = some b → w.cell? ⟨b, o, none⟩ = some u → w'.cell? ⟨b, o, none⟩ = some u) : IsB w' v zs := by
  obtain ⟨h1, h2, a, cap, rfl, h4, h5, h3⟩ := h
  refine ⟨h1, h2, a, cap, rfl, h4, h5, ?_⟩
  rcases h3 with h3 | ⟨b, off, rfl, hc⟩
  · exact .inl h3
  · exact .inr ⟨b, off, rfl, fun i hi => hk b _ _ rfl (hc i hi)⟩
theorem cell_block {w w' : World} {b o : Nat} (h : w'.heap[b]? = w.heap[b]?) : w'.cell? ⟨b, o, none⟩ = w.cell? ⟨b, o, none⟩ := by simp [World.cell?, h]
theorem IsB.block {w w' : World} {v : Value} {zs : List Int} (h : IsB w v zs) (hk : ∀ b, v.ownBlock = some b → b < w.heap.size → w'.heap[b]? = w.heap[b]?) : IsB w' v zs :=
  h.keep fun b o _ hb hu => (cell_block (hk b hb (World.block_lt_of_cell? w ⟨b, o, none⟩ hu))).trans hu
/-- the cells of a slice over bytes. -/
theorem IsB.at {w : World} {a : Option Addr} {n c : Nat} {zs : List Int} (h : IsB w (.slice a n c) zs) : n = zs.length ∧ n ≤ c ∧ c ≤ maxLen ∧ (0 < n → ∃ b off, a = some ⟨b, off, none⟩ ∧ ∀ i, i < n → w.cell? ⟨b, off + i, none⟩ = some (.int .u8 (zs.getD i 0))) := by
  obtain ⟨h1, h2, a', c', e, h4, h5, h3⟩ := h
  cases e
  refine ⟨rfl, h4, h5, fun hn => ?_⟩
  rcases h3 with h3 | h3
  · subst h3; simp at hn
  · exact h3
theorem IsB.bound {w : World} {a : Option Addr} {n c : Nat} {zs : List Int} (h : IsB w (.slice a n c) zs) : n = zs.length ∧ n ≤ c ∧ c ≤ 9223372036854775807 := by
  obtain ⟨h1, h2, h3, _⟩ := h.at
  unfold maxLen at h3
  omega
/-- a piece of a slice. -/
theorem IsB.part {w : World} {b off n c : Nat} {zs : List Int} (h : IsB w (.slice (some ⟨b, off, none⟩) n c) zs) (i j : Nat) (hij : i ≤ j) (hj : j ≤ n) (m d : Nat) (hm : m = j - i) (hd : m ≤ d) (hd2 : d ≤ maxLen) : IsB w (.slice (some ⟨b, off + i, none⟩) m d) ((zs.drop i).take m) := by
  obtain ⟨h1, h2, h3, h4⟩ := h.at
  have hl : ((zs.drop i).take m).length = m := by simp; omega
  refine ⟨by omega, (h.byt.drop i).take m, _, d, by rw [hl], by omega, hd2, ?_⟩
  rw [hl]
  by_cases hm0 : m = 0
  · left; exact List.eq_nil_of_length_eq_zero (by omega)
  · right
    obtain ⟨b', off', e, hc⟩ := h4 (by omega)
    cases e
    refine ⟨_, _, rfl, fun k hk => ?_⟩
    have := hc (i + k) (by omega)
    rw [Nat.add_assoc, this]
    congr 2
    simp [List.getD, List.getElem?_take_of_lt hk]
theorem wpList_append_run {P : Program} (w : World) {ops : Array Oper} {rest : List Oper} {o : Oper} {a : Act} {Q : Exit → Act → World → Prop} (hgd : o.guard = none) (s x : Operand) (t : TypeId)
    (ho : o.op = .call { callee := .builtin .append, args := #[s, x], argTypes := #[t, t] }) (v v2 v' : Value) (w' : World) (hs : a.eval s = v) (hx : a.eval x = v2) (hrun : ∀ ty, (Builtin.append_ #[t, t] ty #[v, v2]).run P w = .ok v' w')
    (h : wpList P ops Q rest (a.put o.dst v') w') : wpList P ops Q (o :: rest) a w := by
  refine wpList_plain hgd fun K hK => ?_
  unfold Oper.wp execOp
  simp only [ho, resolve, invoke, builtin, Sem.run_bind, Sem.run_pure, Result.andThen_ok, List.map_toArray, List.map_cons, List.map_nil, hs, hx, hrun]
  exact hK _ _ h
theorem bytesInfo : (Tryz.prog.info? 5).map (fun i => (i.zero, i.size, i.bytes)) = some (some (.int .u8 0), 1, 1) := by kernel_rfl
/-- append of bytes to a row of one's own. -/
theorem app_run {w : World} {base : Nat} {v v2 : Value} {b bs : List Int} (hr : Own base w v b) (h2 : IsB w v2 bs) (hl : b.length + bs.length ≤ 140737488355328) (hb : base ≤ w.heap.size) :
    ∃ a' c' w', (∀ ty, (Builtin.append_ #[22, 22] ty #[v, v2]).run Tryz.prog w = .ok (.slice a' (b.length + bs.length) c') w') ∧ Own base w' (.slice a' (b.length + bs.length) c') (b ++ bs) ∧ w.grownBy w' v.ownBlock ∧
      ((Value.slice a' (b.length + bs.length) c').ownBlock = v.ownBlock ∨ (Value.slice a' (b.length + bs.length) c').ownBlock = some w.heap.size) := by
  obtain ⟨i0, hi, hz0, hz1, hz2⟩ := info_parts bytesInfo
  have some_case : ∀ (ad : Addr) (c : Nat), v2 = .slice (some ad) bs.length c → (∀ j u, (bs.map (Value.int .u8))[j]? = some u → w.cell? (ad.add j) = some u) → ∃ a' c' w', (∀ ty, (Builtin.append_ #[22, 22] ty #[v, v2]).run Tryz.prog w = .ok (.slice a' (b.length + bs.length) c') w') ∧ Own base w' (.slice a' (b.length + bs.length) c') (b ++ bs) ∧ w.grownBy w' v.ownBlock ∧
      ((Value.slice a' (b.length + bs.length) c').ownBlock = v.ownBlock ∨ (Value.slice a' (b.length + bs.length) c').ownBlock = some w.heap.size) := by
    intro ad c e hcells
    subst e
    obtain ⟨v', w', hrun, h3, h4, _, h5⟩ := run_append_own_at (P := Tryz.prog) w base 22 0 5 i0 (.int .u8 0) 1 1 Tryz.underlying22 hi hz0 hz1 hz2 rfl (by decide) v b.length (b.map (Value.int .u8)) hr.2 ad bs.length c (bs.map (Value.int .u8)) (by simp) hcells (by intro u hu; obtain ⟨x, _, rfl⟩ := List.mem_map.1 hu; rfl) (by unfold maxLen; omega) (by omega) hb
    obtain ⟨a', c', rfl⟩ := row_slice h3
    refine ⟨a', c', w', fun ty => hrun, ⟨hr.1.app h2.byt, ?_⟩, h4, h5⟩
    simpa using h3
  obtain ⟨hm, hzb, a, c, hv, _, _, hc⟩ := h2
  rcases hc with rfl | ⟨g, off, rfl, hc⟩
  · cases a with
    | some ad => exact some_case ad c hv (by simp)
    | none =>
      subst hv
      obtain ⟨av, cv, e⟩ := hr.slice
      have hcap : b.length ≤ cv := by
        rcases hr.form with ⟨e1, rfl⟩ | ⟨g, c', cur, e1, h1, _⟩
        · simp
        · rw [e1] at e; cases e; exact h1
      have ht := Tryz.underlying22
      refine ⟨av, cv, w, fun ty => ?_, ?_, ⟨rfl, rfl, rfl, Nat.le_refl _, fun _ _ _ => rfl⟩, .inl ?_⟩
      · rw [e]
        cases av <;> simp [Builtin.append_, run_underlying ht, sizeOf, typeInfo, hi, Builtin.lenOf, Builtin.firstCells, loadCells, hcap, storeCells, Result.andThen]
      · rw [e] at hr; simpa using hr
      · rw [e]; simp
  · refine some_case ⟨g, off, none⟩ c hv fun j u hu => ?_
    have hj : j < bs.length := by have := (List.getElem?_eq_some_iff.1 hu).1; simpa using this
    rw [Addr.add_lit, hc j hj, ← hu]
    simp [List.getD, List.getElem?_eq_getElem hj]
/-- .. below what it owns all stays. -/
theorem app_low {base : Nat} {w w' : World} {v : Value} {b : List Int} (hr : Own base w v b) (hb : base ≤ w.heap.size) (hg : w.grownBy w' v.ownBlock) : Below base w w' :=
  ⟨hg.os, hg.tape, hg.output, hg.size, fun k hk => hg.block k (by omega) fun e => by have := (hr.lt e.symm).1; omega⟩
/-- append of bytes that the call lays itself (b = append(b, x)). -/
theorem push_run {w : World} {base : Nat} {v : Value} {b : List Int} (hr : Own base w v b) (z : Int) (hz : 0 ≤ z ∧ z < 256) (hl : b.length + 1 ≤ 140737488355328) (hb : base ≤ w.heap.size) :
    ∃ a' c' w', (∀ ty, (Builtin.append_ #[22, 22] ty #[v, .slice (some ⟨w.heap.size, 0, none⟩) 1 1]).run Tryz.prog (w.alloc (.cells #[.int .u8 z] 5)) = .ok (.slice a' (b.length + 1) c') w') ∧ Own base w' (.slice a' (b.length + 1) c') (b ++ [z]) ∧ Below base w w' := by
  have hn : Own w.heap.size (w.alloc (.cells #[.int .u8 z] 5)) (.slice (some ⟨w.heap.size, 0, none⟩) 1 1) [z] := own_new w _ [z] _ _ rfl rfl rfl (fun x hx => by simp at hx; subst hx; exact hz) (by unfold maxLen; simp)
  have hr' := hr.below (alloc_below w (.cells #[.int .u8 z] 5))
  obtain ⟨a', c', w', h1, h2, h3, _⟩ := app_run hr' hn.isB hl (by simp; omega)
  exact ⟨a', c', w', h1, h2, ((Below.refl base w).alloc hb _).trans (app_low hr' (by simp; omega) h3)⟩
/-- append([]byte{}, x...). -/
theorem copy_run {W : World} {v2 : Value} {bs : List Int} (h2 : IsB W v2 bs) (hl : bs.length ≤ 140737488355328) :
    ∃ a' c' w', (∀ ty, (Builtin.append_ #[22, 22] ty #[.slice (some ⟨W.heap.size, 0, none⟩) 0 0, v2]).run Tryz.prog (W.alloc (.cells #[] 5)) = .ok (.slice a' bs.length c') w') ∧ Own W.heap.size w' (.slice a' bs.length c') bs ∧ Below W.heap.size W w' := by
  have hr : Own W.heap.size (W.alloc (.cells #[] 5)) (.slice (some ⟨W.heap.size, 0, none⟩) 0 0) [] := own_new W _ [] _ _ rfl rfl rfl (by intro z hz; simp at hz) (by simp)
  obtain ⟨a', c', w', hrun, hown, hgr, _⟩ := app_run hr (h2.below (alloc_below W _)) (by simp; omega) (by simp)
  simp only [List.length_nil, Nat.zero_add, List.nil_append] at hrun hown
  exact ⟨a', c', w', hrun, hown, (alloc_below W _).trans (app_low hr (by simp) hgr)⟩
end Go.Proofs.YtihgikekkgoddaaGreatDoor.Frm
/- Contracts of the program's number, together, sum, Encode. -/
namespace Go.Proofs.YtihgikekkgoddaaGreatDoor.Frm
open Go.RowKit

theorem or_all : ∀ m : Fin 256, bits .or .u8 ((m.val : Nat) : Int) 128 = ((128 + m.val % 128 : Nat) : Int) := by decide +kernel
theorem or7 (n : Nat) : bits .or .u8 ((n : Int) % 256) 128 = ((128 + n % 128 : Nat) : Int) := by
  have h := or_all ⟨n % 256, Nat.mod_lt _ (by omega)⟩
  simp only at h
  rw [show ((n : Int) % 256) = ((n % 256 : Nat) : Int) by omega, h]
  congr 1
  omega
set_option maxHeartbeats 1000000 in
theorem number_of (N : Nat) (w : World) (hN : N ≤ 65536) :
    Calls Tryz.prog 90 #[.int .i64 (N : Int)] w fun e w' => ∃ v, e = .returned v ∧ Own w.heap.size w' v (vi N) ∧ Below w.heap.size w w' := by
  go_enter Tryz.func90, Tryz.ntmps90
  go_wp2
  go_loopw [0, 3] (fun nv bv wr => ∃ (n : Nat) (b : List Int), n ≤ 65536 ∧ nv = .int .i64 (n : Int) ∧ b ++ vi n = vi N ∧ b.length ≤ 65536 - n ∧ Own w.heap.size wr bv b ∧ Below w.heap.size w wr) (fun nv _ _ => (intOf nv).toNat)
  case atStart => exact ⟨N, [], hN, rfl, rfl, by simp, own_nil _ _, Below.refl _ _⟩
  case round =>
    obtain ⟨n, b, hn, rfl, hv, hl, ho, hb⟩ := hrel
    obtain ⟨a0, c0, e0⟩ := ho.slice
    subst e0
    have HV := hid hv
    clear hv
    by_cases h : 128 ≤ n
    · have h' : (128 : Int) ≤ (n : Int) := by omega
      have e7 := or7 n
      obtain ⟨a', c', w', hrun, ho', hb'⟩ := push_run ho (bits .or .u8 ((n : Int) % 256) 128) (by rw [e7]; omega) (by omega) hb.size
      replace ho' := hid ho'
      replace hb := hid (hb.trans hb')
      replace e7 := hid e7
      clear ho hb'
      go_wp2_with (at_builtin; refine wpList_append_run _ rfl _ _ 22 rfl _ _ _ _ rfl rfl hrun ?_)
      go_roundw
      case rel => exact ⟨n / 128, b ++ [bits .or .u8 ((n : Int) % 256) 128], by omega, by go_num, by rw [← HV.out, vi_ge (show ¬ n < 128 by omega), ← e7.out]; simp, by simp; omega, by simpa using ho'.out, hb.out⟩
      case measure => simp [intOf]; omega
    · have h' : ¬ (128 : Int) ≤ (n : Int) := by omega
      obtain ⟨a', c', w', hrun, ho', hb'⟩ := push_run ho (n : Int) (by omega) (by omega) hb.size
      replace ho' := hid ho'
      replace hb := hid (hb.trans hb')
      clear ho hb'
      go_wp2_with (at_builtin; refine wpList_append_run _ rfl _ _ 22 rfl _ _ _ _ rfl rfl hrun ?_)
      go_ret
      exact ⟨_, rfl, by rw [← HV.out, vi_lt (show n < 128 by omega)]; simpa using ho'.out, hb.out⟩

theorem IsP.at {w : World} {a : Option Addr} {n c : Nat} {l : List (List Int)} (h : IsP w (.slice a n c) l) (k : Nat) (hk : k < l.length) : ∃ b off a1 c1, a = some ⟨b, off, none⟩ ∧ w.cell? ⟨b, off + k, none⟩ = some (.slice a1 (l.getD k []).length c1) ∧ IsB w (.slice a1 (l.getD k []).length c1) (l.getD k []) := by
  obtain ⟨h1, a', c', e, h3⟩ := h
  cases e
  rcases h3 with h3 | ⟨b, off, rfl, hc⟩
  · subst h3; simp at hk
  · obtain ⟨u, hu, hB⟩ := hc k hk
    obtain ⟨a1, c1, rfl⟩ := hB.slice
    exact ⟨b, off, a1, c1, rfl, hu, hB⟩
theorem flat_le (l : List (List Int)) (k : Nat) : (l.take k).flatten.length ≤ l.flatten.length := by
  conv => rhs; rw [← List.take_append_drop k l, List.flatten_append]
  simp
set_option maxHeartbeats 1000000 in
theorem together_of (v : Value) (l : List (List Int)) (w : World) (h : IsP w v l) (hl : l.flatten.length ≤ 140737488355328) :
    Calls Tryz.prog 91 #[v] w fun e w' => ∃ v, e = .returned v ∧ Own w.heap.size w' v l.flatten ∧ Below w.heap.size w w' := by
  obtain ⟨a, c, rfl⟩ : ∃ a c, v = .slice a l.length c := by obtain ⟨_, a, c, e, _⟩ := h; exact ⟨a, c, e⟩
  have hm := h.1
  unfold maxLen at hm
  replace h := hid h
  go_enter Tryz.func91, Tryz.ntmps91
  go_wp2
  go_loopw [3, 8] (fun bv iv wr => ∃ (k : Nat), k ≤ l.length ∧ iv = .int .i64 (k : Int) ∧ Own w.heap.size wr bv (l.take k).flatten ∧ Below w.heap.size w wr) (fun _ iv _ => l.length - (intOf iv).toNat)
  case atStart => exact ⟨0, by omega, rfl, own_nil _ _, Below.refl _ _⟩
  case round =>
    obtain ⟨k, hk, rfl, ho, hb⟩ := hrel
    obtain ⟨a0, c0, e0⟩ := ho.slice
    subst e0
    by_cases hlt : k < l.length
    · have hlt' : (k : Int) < (l.length : Int) := by omega
      obtain ⟨b, off, a1, c1, rfl, hcell, hB⟩ := (h.out.below hb).at k hlt
      have hfl := flat_le l (k + 1)
      have HF := hid (flat_take l k hlt)
      rw [HF.out, List.length_append] at hfl
      obtain ⟨a', c', w', hrun, ho', hg, _⟩ := app_run ho hB (by omega) hb.size
      have hb' := hid (hb.trans (app_low ho hb.size hg))
      replace ho' := hid ho'
      clear hg hB ho
      replace hb := hid hb
      generalize l.getD k [] = zs at *
      generalize (l.take k).flatten = ys at *
      go_wp2_with (at_builtin; refine wpList_append_run _ rfl _ _ 22 rfl _ _ _ _ rfl rfl hrun ?_)
      go_roundw
      case rel => exact ⟨k + 1, by omega, by go_num, by rw [HF.out]; exact ho'.out, hb'.out⟩
      case measure => simp [intOf]; omega
    · have hlt' : ¬ (k : Int) < (l.length : Int) := by omega
      obtain rfl : k = l.length := by omega
      simp only [List.take_length] at ho ⊢
      replace ho := hid ho
      replace hb := hid hb
      generalize hz : l.flatten = zs at ho ⊢
      replace hz := hid hz
      go_wp2
      go_ret
      refine ⟨.slice a0 zs.length c0, rfl, ?_, hb.out⟩
      rw [hz.out]
      exact ho.out
theorem isB_four_eq (s : R) : #[Value.int .u8 ((s.toNat : Int) % 256), Value.int .u8 ((s.toNat : Int) / 256 % 256), Value.int .u8 ((s.toNat : Int) / 65536 % 256), Value.int .u8 ((s.toNat : Int) / 16777216)] = ((four (s.toNat : Int)).map (Value.int .u8)).toArray := by
  have h := s.isLt
  have e : (s.toNat : Int) / 16777216 % 256 = (s.toNat : Int) / 16777216 := by omega
  simp [four, e]
set_option maxHeartbeats 1000000 in
theorem sum_of (v : Value) (l : List (List Int)) (w : World) (h : IsP w v l) :
    Calls Tryz.prog 92 #[v] w fun e w' => ∃ a c, e = .returned (.slice a 4 c) ∧ Own w.heap.size w' (.slice a 4 c) (four ((sum l.flatten).toNat : Int)) ∧ Below w.heap.size w w' := by
  obtain ⟨a, c, rfl⟩ : ∃ a c, v = .slice a l.length c := by obtain ⟨_, a, c, e, _⟩ := h; exact ⟨a, c, e⟩
  replace h := hid h
  have hs := (sum l.flatten).isLt
  go_enter Tryz.func92, Tryz.ntmps92
  go_wp2_with (go_at_call 104; refine (of_any _ _ _ h.out).mono ?_; rintro e w' ⟨rfl, rfl⟩)
  go_ret
  exact ⟨_, _, rfl, own_new _ _ _ _ _ rfl rfl (isB_four_eq _) (four_in _) (by simp [four, maxLen]), alloc_below _ _⟩
theorem two_flat (a b : List Int) : [a, b].flatten = a ++ b := by simp
theorem three_flat (a b c : List Int) : [a, b, c].flatten = a ++ b ++ c := by simp
set_option maxHeartbeats 1000000 in
theorem encode_long (v : Value) (zs : List Int) (w : World) (h : IsB w v zs) (hl : 65536 < zs.length) :
    Calls Tryz.prog 59 #[v] w fun e w' => e = .returned (.tuple #[.slice none 0 0, .int .i64 3]) ∧ w' = w := by
  obtain ⟨a, c, rfl⟩ := h.slice
  have hb := h.bound
  have hl' : (65536 : Int) < (zs.length : Int) := by omega
  clear h
  go_enter Tryz.func59, Tryz.ntmps59
  go_wp2
  go_ret2
  exact ⟨rfl, rfl⟩
set_option maxHeartbeats 2000000 in
theorem encode_any (v : Value) (zs : List Int) (w : World) (h : IsB w v zs) (hl : zs.length ≤ 65536) :
    Calls Tryz.prog 59 #[v] w fun e w' => ∃ a c, e = .returned (.tuple #[.slice a (fr zs).length c, .int .i64 0]) ∧ Own w.heap.size w' (.slice a (fr zs).length c) (fr zs) ∧ Below w.heap.size w w' := by
  obtain ⟨a, c, rfl⟩ := h.slice
  have hb := h.bound
  have hl' : ¬ (65536 : Int) < (zs.length : Int) := by omega
  replace h := hid h
  go_enter Tryz.func59, Tryz.ntmps59
  go_wp2_with fail
  refine (number_of zs.length _ hl).mono ?_
  rintro e w1 ⟨v1, rfl, o1, b1⟩
  obtain ⟨a1, c1, e1⟩ := o1.slice
  subst e1
  replace o1 := hid o1
  replace b1 := hid b1
  have h1 := hid (h.out.below b1.out)
  go_wp2_with fail
  refine (sum_of _ [vi zs.length, zs] _ (isP_two _ _ (by simp) (o1.out.isB) h1.out)).mono ?_
  rintro e w2 ⟨a2, c2, rfl, o2, b2⟩
  rw [two_flat] at o2
  have h2 := hid (h1.out.below (low' (alloc_below _ _) b2))
  have o12 := hid (o1.out.below (low' (alloc_below _ _) b2))
  have b12 := hid (low' b1.out (low' (alloc_below _ _) b2))
  replace o2 := hid o2
  clear b2
  go_wp2_with fail
  refine (together_of _ [vi zs.length, zs, four ((sum (vi zs.length ++ zs)).toNat : Int)] _ (isP_three _ _ (by simp) o12.out.isB h2.out o2.out.isB) (by rw [three_flat]; change (fr zs).length ≤ _; rw [fr_len, vi_len (by omega)]; unfold wide; split <;> (try split) <;> omega)).mono ?_
  rintro e w3 ⟨v3, rfl, o3, b3⟩
  rw [three_flat] at o3
  change Own _ w3 v3 (fr zs) at o3
  obtain ⟨a3, c3, e3⟩ := o3.slice
  subst e3
  have o4 := hid (o3.base (show w.heap.size ≤ _ by have := b12.out.size; simp; omega))
  have b4 := hid (low' b12.out (low' (alloc_below _ _) b3))
  clear o3 b3
  go_wp2_with fail
  go_ret2
  exact ⟨_, _, rfl, o4.out, b4.out⟩
end Go.Proofs.YtihgikekkgoddaaGreatDoor.Frm
