/- Joined: FZ1 FW6 FW7 FW8. -/
import Derived.Test.YtihgikekkgoddaaGreatDoorZFb
import Derived.Lib.AppendZerosOnto
import Derived.Laws.BytesArg
import Derived.Lib.SliceRun
import Derived.Deep.RegionWith
/- append of so many noughts; the document's Copy and Same. -/
namespace Go.Proofs.YtihgikekkgoddaaGreatDoor.Frm
open Go.RowKit

theorem zeroCells_list (k : Nat) : (Builtin.zeroCells (Value.int .u8 0).cells k).toList = (List.replicate k (0 : Int)).map (Value.int .u8) := by
  apply List.ext_getElem
  · simp [Builtin.zeroCells, Value.cells]
  · intro i h1 h2
    simp [Builtin.zeroCells, Value.cells, Nat.mod_one]
theorem zeros_byt (k : Nat) : Byt (List.replicate k 0) := fun z hz => by rw [List.eq_of_mem_replicate hz]; omega
theorem zeros_run {w : World} {base : Nat} {v : Value} {b : List Int} (hr : Own base w v b) (k : Nat) (hl : b.length + k ≤ 140737488355328) (hb : base ≤ w.heap.size) :
    ∃ a' c' w', (∀ ty, (Builtin.append_ #[22, 3] ty #[v, .int .i64 (k : Int)]).run Tryz.prog w = .ok (.slice a' (b.length + k) c') w') ∧ Own base w' (.slice a' (b.length + k) c') (b ++ List.replicate k 0) ∧ w.grownBy w' v.ownBlock := by
  obtain ⟨i0, hi, hz0, hz1, hz2⟩ := info_parts bytesInfo
  have ht := Tryz.underlying22
  have htn := Tryz.underlying3
  have hwk : IntKind.i64.wrap (k : Int) = k := by rw [IntKind.wrap_i64]; omega
  have hw0 : IntKind.i64.wrap 0 = 0 := by decide
  have hneg : ¬ ((k : Int) < 0) := by omega
  have h48 : ¬ ((281474976710656 : Int) < (k : Int)) := by omega
  have hbyt := hr.1.app (zeros_byt k)
  have grow : ∀ (bs : Option Addr) (cap : Nat), v = .slice bs b.length cap → 0 < k → cap < b.length + k → ((Builtin.firstCells i0.size b.length (.slice bs b.length cap)).run Tryz.prog w.drew = .ok (b.map (Value.int .u8)).toArray w.drew) →
      ∃ a' c' w', (∀ ty, (Builtin.append_ #[22, 3] ty #[v, .int .i64 (k : Int)]).run Tryz.prog w = .ok (.slice a' (b.length + k) c') w') ∧ Own base w' (.slice a' (b.length + k) c') (b ++ List.replicate k 0) ∧ w.grownBy w' v.ownBlock := by
    intro bs cap e hk0 hc hold
    have hge := grownCap_ge w (b.length + k) cap 5
    have hcm : grownCap w (b.length + k) cap 5 ≤ maxLen := grownCap_le_maxLen w (b.length + k) cap 5 (by unfold maxLen; omega)
    subst e
    have hrun := fun ty => Lib.run_append_grow_zeros (P := Tryz.prog) w 22 3 ty 5 i0 (.int .u8 0) .i64 .i64 ht htn hi hz0 bs b.length cap (b.map (Value.int .u8)) hold k hk0 (by omega) hc (by omega) (by rw [hz2]; omega) (by rw [hz2]; exact growslice_fits hc (by omega))
    refine ⟨_, _, _, hrun, ⟨hbyt, by simp, .inr ⟨w.heap.size, grownCap w (b.length + k) cap 5, _, by simp, hb, new_block w.drew _, by simpa using hge, hcm, ?_, ?_⟩⟩, ⟨rfl, rfl, rfl, by simp, fun j hj _ => (alloc_below w.drew _).block j hj⟩⟩
    · simp only [Array.size_append, List.size_toArray, List.length_map, size_zeroCells]
      simp [Value.cells]
      omega
    · simp only [Array.toList_append, zeroCells_list, List.map_append]
      exact List.take_left' (by simp)
  rcases hr.2.2 with ⟨e, h0⟩ | ⟨g, cap, cur, e, hbg, hg, hnc, hcm, hcs, htake⟩
  · obtain rfl : b = [] := List.eq_nil_of_length_eq_zero h0
    by_cases hk : k = 0
    · subst hk
      subst e
      refine ⟨none, 0, w, fun ty => ?_, own_nil _ _, ⟨rfl, rfl, rfl, Nat.le_refl _, fun _ _ _ => rfl⟩⟩
      simp [Builtin.append_, run_underlying ht, run_underlying htn, sizeOf, typeInfo, hi, asInt, asIntOf, hw0]
    · exact grow none 0 e (by omega) (by simp; omega) (by simp [Builtin.firstCells])
  · by_cases hroom : b.length + k ≤ cap
    · subst e
      have hst := run_storeCells_at Tryz.prog g b.length 5 ((List.replicate k (0 : Int)).map (Value.int .u8)) 0 cur w hg (by simp; omega) (by intro u hu; obtain ⟨x, _, rfl⟩ := List.mem_map.1 hu; rfl)
      simp only [Nat.add_zero, List.map_replicate, List.length_replicate] at hst
      by_cases hk : k = 0
      · subst hk
        refine ⟨_, cap, w, fun ty => ?_, by simpa using hr, ⟨rfl, rfl, rfl, Nat.le_refl _, fun _ _ _ => rfl⟩⟩
        simp [Builtin.append_, run_underlying ht, run_underlying htn, sizeOf, typeInfo, hi, asInt, asIntOf, hw0, hnc, storeCells]
      · have hza := zeroCells_list k
        refine ⟨some ⟨g, 0, none⟩, cap, _, fun ty => ?_, ⟨hbyt, by simp, .inr ⟨g, cap, _, by simp, hbg, setRow_heap w g cur (cur.toList.take b.length ++ (List.replicate k (0 : Int)).map (Value.int .u8) ++ cur.toList.drop (b.length + k)).toArray _ _ hg, by simpa using hroom, hcm, ?_, ?_⟩⟩, ⟨rfl, rfl, rfl, by simp, fun j _ hj => setRow_other w g j _ (fun e => hj (by simp [Value.ownBlock, e]))⟩⟩
        · simp [Builtin.append_, run_underlying ht, run_underlying htn, sizeOf, typeInfo, zeroValue, hi, hz0, hz1, hz2, asInt, asIntOf, hwk, hneg, h48, hroom, hk, hza, Addr.add_lit]
          rw [hst]
          simp
        · simp only [List.size_toArray, List.length_append, List.length_take, List.length_drop, List.length_map, List.length_replicate, Array.length_toList]
          omega
        · have h2 : cur.toList.take b.length = b.map (Value.int .u8) := by simpa using htake
          simp only [h2]
          rw [← List.map_append]
          exact List.take_left' (by simp)
    · refine grow _ cap e (by omega) (by omega) ?_
      have := hr.2.cells (g := g) (by rw [e]; rfl)
      have hf := run_firstCells_some (P := Tryz.prog) w.drew i0.size b.length ⟨g, 0, none⟩ b.length cap (b.map (Value.int .u8)) (by rw [hz1]; simp) (fun j u hj => this j u hj)
      exact hf
theorem same_all (a b : List Int) (hl : a.length = b.length) (h : ∀ i, i < a.length → a.getD i 0 = b.getD i 0) : a = b := by
  apply List.ext_getElem hl
  intro i h1 h2
  have := h i h1
  simpa [List.getD, List.getElem?_eq_getElem h1, List.getElem?_eq_getElem h2] using this
end Go.Proofs.YtihgikekkgoddaaGreatDoor.Frm
/- Contracts of the program's length, of bytes.Equal and bytes.Clone, of the program's first, Next. -/
namespace Go.Proofs.YtihgikekkgoddaaGreatDoor.Frm
open Go.RowKit

def lenV (b : List Int) : Nat × Nat := (lenP b).getD (0, 0)
theorem and_all : ∀ m : Fin 256, bits .and .u8 ((m.val : Nat) : Int) 127 = ((m.val % 128 : Nat) : Int) := by decide +kernel
theorem and7 (z : Int) (h0 : 0 ≤ z) (h : z < 256) : bits .and .u8 z 127 = z % 128 := by
  have h := and_all ⟨z.toNat, by omega⟩
  simp only at h
  rw [show ((z.toNat : Nat) : Int) = z by omega] at h
  rw [h]; omega
def acc (zs : List Int) (k : Nat) : Int := if k = 0 then 0 else if k = 1 then zs.getD 0 0 % 128 else if k = 2 then zs.getD 0 0 % 128 + 128 * (zs.getD 1 0 % 128) else zs.getD 0 0 % 128 + 128 * (zs.getD 1 0 % 128) + 16384 * (zs.getD 2 0 % 128)
theorem len_hit (zs : List Int) (hb : Byt zs) (k : Nat) (hk : k < 3) (hl : k < zs.length) (hp : ∀ i, i < k → 128 ≤ zs.getD i 0) (hc : zs.getD k 0 < 128) (hz : ¬ (zs.getD k 0 = 0 ∧ 0 < k)) : ((lenV zs).1 : Int) = acc zs (k + 1) ∧ ((lenV zs).2 : Int) = k + 1 := by
  obtain rfl | rfl | rfl : k = 0 ∨ k = 1 ∨ k = 2 := by omega
  · match zs, hb, hl with
    | x :: zs, hb, _ =>
      have h0 := hb x (by simp)
      simp at hc
      simp [lenV, lenP, acc, hc]; omega
  · match zs, hb, hl with
    | x :: y :: zs, hb, _ =>
      have h0 := hb x (by simp)
      have h1 := hb y (by simp)
      have p0 := hp 0 (by omega)
      simp at hc hz p0
      have p0' : ¬ x < 128 := by omega
      simp [lenV, lenP, acc, hc, hz, p0']; omega
  · match zs, hb, hl with
    | x :: y :: z :: zs, hb, _ =>
      have h0 := hb x (by simp)
      have h1 := hb y (by simp)
      have h2 := hb z (by simp)
      have p0 := hp 0 (by omega)
      have p1 := hp 1 (by omega)
      simp at hc hz p0 p1
      have p0' : ¬ x < 128 := by omega
      have p1' : ¬ y < 128 := by omega
      simp [lenV, lenP, acc, hc, hz, p0', p1']; omega
theorem len_zero (zs : List Int) (hb : Byt zs) (k : Nat) (hk : k < 3) (hl : k < zs.length) (hp : ∀ i, i < k → 128 ≤ zs.getD i 0) (hc : zs.getD k 0 = 0) (hz : 0 < k) : lenV zs = (0, 0) := by
  obtain rfl | rfl : k = 1 ∨ k = 2 := by omega
  · match zs, hb, hl with
    | x :: y :: zs, hb, _ =>
      have p0 := hp 0 (by omega)
      simp at hc p0
      have p0' : ¬ x < 128 := by omega
      simp [lenV, lenP, hc, p0']
  · match zs, hb, hl with
    | x :: y :: z :: zs, hb, _ =>
      have p0 := hp 0 (by omega)
      have p1 := hp 1 (by omega)
      simp at hc p0 p1
      have p0' : ¬ x < 128 := by omega
      have p1' : ¬ y < 128 := by omega
      simp [lenV, lenP, hc, p0', p1']
theorem len_out (zs : List Int) (k : Nat) (hk : k = 3 ∨ k = zs.length) (hk3 : k ≤ 3) (hl : k ≤ zs.length) (hp : ∀ i, i < k → 128 ≤ zs.getD i 0) : lenV zs = (0, 0) := by
  have q : ∀ x : Int, 128 ≤ x → ¬ x < 128 := by omega
  match zs, hl, hk with
  | [], _, _ => rfl
  | [x], hl, hk =>
    have p0 := hp 0 (by simp at hl hk; omega)
    simp at p0
    simp [lenV, lenP, q x p0]
  | [x, y], hl, hk =>
    have p0 := hp 0 (by simp at hl hk; omega)
    have p1 := hp 1 (by simp at hl hk; omega)
    simp at p0 p1
    simp [lenV, lenP, q x p0, q y p1]
  | x :: y :: z :: zs, hl, hk =>
    obtain rfl : k = 3 := by simp at hl hk; omega
    have p0 := hp 0 (by omega)
    have p1 := hp 1 (by omega)
    have p2 := hp 2 (by omega)
    simp at p0 p1 p2
    simp [lenV, lenP, q x p0, q y p1, q z p2]
theorem acc_succ (zs : List Int) (k : Nat) (h : k < 3) : acc zs (k + 1) = acc zs k + 128 ^ k * (zs.getD k 0 % 128) := by
  obtain rfl | rfl | rfl : k = 0 ∨ k = 1 ∨ k = 2 := by omega
  all_goals simp [acc]
theorem acc_lt (zs : List Int) (k : Nat) (h : k < 3) : 0 ≤ acc zs k ∧ acc zs k < 128 ^ k := by
  obtain rfl | rfl | rfl : k = 0 ∨ k = 1 ∨ k = 2 := by omega
  all_goals simp [acc]
  all_goals omega
theorem or_add (n c s : Nat) (h : n < 2 ^ s) (hb : n + c * 2 ^ s < 2 ^ 62) : bits .or .i64 (n : Int) ((c * 2 ^ s : Nat) : Int) = ((n + c * 2 ^ s : Nat) : Int) := by
  show IntKind.i64.wrap (((BitVec.ofInt 64 (n : Int) ||| BitVec.ofInt 64 ((c * 2 ^ s : Nat) : Int)).toNat : Nat) : Int) = _
  rw [BitVec.ofInt_natCast, BitVec.ofInt_natCast, BitVec.toNat_or, BitVec.toNat_ofNat, BitVec.toNat_ofNat, Nat.mod_eq_of_lt (by omega), Nat.mod_eq_of_lt (by omega)]
  have e := Nat.shiftLeft_add_eq_or_of_lt h c
  rw [Nat.shiftLeft_eq] at e
  rw [Nat.or_comm, ← e, IntKind.wrap_i64]
  omega
theorem or_form (n x : Int) (k : Nat) (hk : k < 3) (h0 : 0 ≤ n) (h1 : n < 128 ^ k) (hx : 0 ≤ x) : bits .or .i64 n (x % 128 * 128 ^ k) = n + 128 ^ k * (x % 128) := by
  obtain ⟨m, rfl⟩ : ∃ m : Nat, n = (m : Int) := ⟨n.toNat, by omega⟩
  obtain ⟨y, rfl⟩ : ∃ y : Nat, x = (y : Int) := ⟨x.toNat, by omega⟩
  obtain rfl | rfl | rfl : k = 0 ∨ k = 1 ∨ k = 2 := by omega
  · have := or_add m (y % 128) 0 (by omega) (by omega)
    rw [show ((y : Int) % 128 * 128 ^ 0) = ((y % 128 * 2 ^ 0 : Nat) : Int) by omega, this]; omega
  · have := or_add m (y % 128) 7 (by omega) (by omega)
    rw [show ((y : Int) % 128 * 128 ^ 1) = ((y % 128 * 2 ^ 7 : Nat) : Int) by omega, this]; omega
  · have := or_add m (y % 128) 14 (by omega) (by omega)
    rw [show ((y : Int) % 128 * 128 ^ 2) = ((y % 128 * 2 ^ 14 : Nat) : Int) by omega, this]; omega
set_option maxHeartbeats 1000000 in
theorem length_any (v : Value) (zs : List Int) (w : World) (h : IsB w v zs) :
    Calls Tryz.prog 101 #[v] w fun e w' => e = .returned (.tuple #[.int .i64 ((lenV zs).1 : Int), .int .i64 ((lenV zs).2 : Int)]) ∧ w' = w := by
  obtain ⟨a, c, rfl⟩ := h.slice
  have hb := h.bound
  have HB := hid h.byt
  obtain ⟨_, _, _, hc⟩ := h.at
  have HC := hid hc
  clear h hc
  by_cases h3 : 3 < zs.length
  · have h3' : (3 : Int) < (zs.length : Int) := by omega
    go_enter Tryz.func101, Tryz.ntmps101
    go_wp2
    go_loop [2, 12] (fun nv iv => ∃ k : Nat, k ≤ 3 ∧ iv = .int .i64 (k : Int) ∧ nv = .int .i64 (acc zs k) ∧ ∀ i, i < k → 128 ≤ zs.getD i 0) (fun _ iv => 3 - (intOf iv).toNat)
    case atStart => exact ⟨0, by omega, rfl, rfl, by intro i hi; omega⟩
    case round =>
      obtain ⟨k, hk, rfl, rfl, hp⟩ := hrel
      by_cases hlt : k < 3
      · have hlt' : (k : Int) < 3 := by omega
        have hlt2 : (k : Int) < zs.length := by omega
        obtain ⟨b, off, rfl, hcell⟩ := HC.out (by omega)
        have hck := hcell k (by omega)
        have hz := HB.out _ (getD_mem zs k (by omega))
        have h7 := and7 _ hz.1 hz.2
        have hhit := len_hit zs HB.out k (by omega) (by omega) hp
        have hzero := len_zero zs HB.out k (by omega) (by omega) hp
        have hac := acc_succ zs k (by omega)
        have hab := acc_lt zs k (by omega)
        clear hcell
        obtain ⟨x, hx⟩ : ∃ x, x = zs.getD k 0 := ⟨_, rfl⟩
        obtain ⟨n, hn⟩ : ∃ n, n = acc zs k := ⟨_, rfl⟩
        rw [← hx] at hck h7 hz hhit hzero
        rw [← hn, ← hx] at hac
        rw [← hn] at hab ⊢
        replace hhit := hid hhit
        replace hzero := hid hzero
        replace hac := hid hac
        replace hx := hid hx
        replace hn := hid hn
        replace hp := hid hp
        obtain ⟨hz0, hz1⟩ := hz
        obtain ⟨hn0, hn1⟩ := hab
        have hor := or_form n x k (by omega) hn0 hn1 hz0
        by_cases hc128 : 128 ≤ x
        · have hp' : Hid (∀ i, i < k + 1 → 128 ≤ zs.getD i 0) := fun i hi => by
            by_cases h : i = k
            · subst h; rw [← hx.out]; exact hc128
            · exact hp.out i (by omega)
          rw [← hac.out] at hor
          obtain rfl | rfl | rfl : k = 0 ∨ k = 1 ∨ k = 2 := by omega
          all_goals
            try simp only [Nat.add_zero, Int.pow_zero, Int.mul_one] at hck hor
            replace hor := hid hor
            go_wp2
            first
              | exact ⟨⟨1, by omega, rfl, congrArg (Value.int .i64) hor.out, hp'.out⟩, by simp [intOf]⟩
              | exact ⟨⟨2, by omega, rfl, congrArg (Value.int .i64) hor.out, hp'.out⟩, by simp [intOf]⟩
              | exact ⟨⟨3, by omega, rfl, congrArg (Value.int .i64) hor.out, hp'.out⟩, by simp [intOf]⟩
        · have hc' : x < 128 := by omega
          by_cases hx0 : x = 0 ∧ 0 < k
          · obtain ⟨rfl, hk0⟩ := hx0
            have e := hid (hzero.out rfl hk0)
            have hk0' : (0 : Int) < (k : Int) := by omega
            clear hor
            obtain rfl | rfl : k = 1 ∨ k = 2 := by omega
            all_goals
              go_wp2
              go_ret2
              exact ⟨by rw [e.out]; rfl, rfl⟩
          · have e := hid (hhit.out hc' hx0)
            rw [← hac.out] at hor
            by_cases hxz : x = 0
            · subst hxz
              obtain rfl : k = 0 := by omega
              simp only [Nat.add_zero, Int.pow_zero, Int.mul_one, Int.zero_emod] at hck hor
              replace hor := hid hor
              go_wp2
              go_ret2
              refine ⟨?_, rfl⟩
              rw [e.out.1, e.out.2, ← hor.out]
              rfl
            · have hxz' : (x == 0) = false := by simpa using hxz
              clear hxz
              obtain rfl | rfl | rfl : k = 0 ∨ k = 1 ∨ k = 2 := by omega
              all_goals
                try simp only [Nat.add_zero, Int.pow_zero, Int.mul_one] at hck hor
                replace hor := hid hor
                go_wp2
                go_ret2
                refine ⟨?_, rfl⟩
                rw [e.out.1, e.out.2, ← hor.out]
                rfl
      · have hlt' : ¬ (k : Int) < 3 := by omega
        have e := len_out zs k (by omega) (by omega) (by omega) hp
        replace e := hid e
        clear hp
        go_wp2
        go_ret2
        exact ⟨by rw [e.out]; rfl, rfl⟩
  · have h3' : ¬ (3 : Int) < (zs.length : Int) := by omega
    go_enter Tryz.func101, Tryz.ntmps101
    go_wp2
    go_loop [2, 12] (fun nv iv => ∃ k : Nat, k ≤ zs.length ∧ iv = .int .i64 (k : Int) ∧ nv = .int .i64 (acc zs k) ∧ ∀ i, i < k → 128 ≤ zs.getD i 0) (fun _ iv => 3 - (intOf iv).toNat)
    case atStart => exact ⟨0, by omega, rfl, rfl, by intro i hi; omega⟩
    case round =>
      obtain ⟨k, hk, rfl, rfl, hp⟩ := hrel
      by_cases hlt : k < zs.length
      · have hlt' : (k : Int) < zs.length := by omega
        have hlt2 : (k : Int) < zs.length := by omega
        obtain ⟨b, off, rfl, hcell⟩ := HC.out (by omega)
        have hck := hcell k (by omega)
        have hz := HB.out _ (getD_mem zs k (by omega))
        have h7 := and7 _ hz.1 hz.2
        have hhit := len_hit zs HB.out k (by omega) (by omega) hp
        have hzero := len_zero zs HB.out k (by omega) (by omega) hp
        have hac := acc_succ zs k (by omega)
        have hab := acc_lt zs k (by omega)
        clear hcell
        obtain ⟨x, hx⟩ : ∃ x, x = zs.getD k 0 := ⟨_, rfl⟩
        obtain ⟨n, hn⟩ : ∃ n, n = acc zs k := ⟨_, rfl⟩
        rw [← hx] at hck h7 hz hhit hzero
        rw [← hn, ← hx] at hac
        rw [← hn] at hab ⊢
        replace hhit := hid hhit
        replace hzero := hid hzero
        replace hac := hid hac
        replace hx := hid hx
        replace hn := hid hn
        replace hp := hid hp
        obtain ⟨hz0, hz1⟩ := hz
        obtain ⟨hn0, hn1⟩ := hab
        have hor := or_form n x k (by omega) hn0 hn1 hz0
        by_cases hc128 : 128 ≤ x
        · have hp' : Hid (∀ i, i < k + 1 → 128 ≤ zs.getD i 0) := fun i hi => by
            by_cases h : i = k
            · subst h; rw [← hx.out]; exact hc128
            · exact hp.out i (by omega)
          rw [← hac.out] at hor
          obtain rfl | rfl | rfl : k = 0 ∨ k = 1 ∨ k = 2 := by omega
          all_goals
            try simp only [Nat.add_zero, Int.pow_zero, Int.mul_one] at hck hor
            replace hor := hid hor
            go_wp2
            first
              | exact ⟨⟨1, by omega, rfl, congrArg (Value.int .i64) hor.out, hp'.out⟩, by simp [intOf]⟩
              | exact ⟨⟨2, by omega, rfl, congrArg (Value.int .i64) hor.out, hp'.out⟩, by simp [intOf]⟩
              | exact ⟨⟨3, by omega, rfl, congrArg (Value.int .i64) hor.out, hp'.out⟩, by simp [intOf]⟩
        · have hc' : x < 128 := by omega
          by_cases hx0 : x = 0 ∧ 0 < k
          · obtain ⟨rfl, hk0⟩ := hx0
            have e := hid (hzero.out rfl hk0)
            have hk0' : (0 : Int) < (k : Int) := by omega
            clear hor
            obtain rfl | rfl : k = 1 ∨ k = 2 := by omega
            all_goals
              go_wp2
              go_ret2
              exact ⟨by rw [e.out]; rfl, rfl⟩
          · have e := hid (hhit.out hc' hx0)
            rw [← hac.out] at hor
            by_cases hxz : x = 0
            · subst hxz
              obtain rfl : k = 0 := by omega
              simp only [Nat.add_zero, Int.pow_zero, Int.mul_one, Int.zero_emod] at hck hor
              replace hor := hid hor
              go_wp2
              go_ret2
              refine ⟨?_, rfl⟩
              rw [e.out.1, e.out.2, ← hor.out]
              rfl
            · have hxz' : (x == 0) = false := by simpa using hxz
              clear hxz
              obtain rfl | rfl | rfl : k = 0 ∨ k = 1 ∨ k = 2 := by omega
              all_goals
                try simp only [Nat.add_zero, Int.pow_zero, Int.mul_one] at hck hor
                replace hor := hid hor
                go_wp2
                go_ret2
                refine ⟨?_, rfl⟩
                rw [e.out.1, e.out.2, ← hor.out]
                rfl
      · have hlt' : ¬ (k : Int) < zs.length := by omega
        have e := len_out zs k (by omega) (by omega) (by omega) hp
        replace e := hid e
        clear hp
        go_wp2
        go_ret2
        exact ⟨by rw [e.out]; rfl, rfl⟩
end Go.Proofs.YtihgikekkgoddaaGreatDoor.Frm
/- Contracts of bytes.Equal and bytes.Clone, of the program's first. -/
namespace Go.Proofs.YtihgikekkgoddaaGreatDoor.Frm
open Go.RowKit

def oct (zs : List Int) : List UInt8 := zs.map fun n => UInt8.ofNat n.toNat
theorem oct_str (zs : List Int) : strOfNums zs = ⟨(oct zs).toArray⟩ := by
  have h : (strOfNums zs).data.toList = oct zs := by rw [strOfNums_data]; rfl
  have h2 : (strOfNums zs).data = (oct zs).toArray := by rw [← Array.toArray_toList (xs := (strOfNums zs).data), h]
  cases hx : strOfNums zs with
  | mk d => rw [hx] at h2; simp only at h2; rw [h2]
/-- string(b). -/
theorem conv_str {w : World} {v : Value} {zs : List Int} (h : IsB w v zs) : (convert 22 9 v).run Tryz.prog w = .ok (.string ⟨(oct zs).toArray⟩) w := by
  rw [← oct_str]
  obtain ⟨_, _, a, c, rfl, _, _, h2⟩ := h
  rcases h2 with rfl | ⟨b, off, rfl, hc⟩
  · cases a with
    | none => exact run_convert_bytes_nil w 22 5 Tryz.underlying22 Tryz.underlying5 0 c 9 Tryz.underlying9
    | some ad =>
      have e := run_convert_bytes_string (P := Tryz.prog) w 22 9 5 (some ad) 0 c Tryz.underlying22 Tryz.underlying5 Tryz.underlying9
      have e2 := run_bytesToString (P := Tryz.prog) w ad 0 c [] (by simp [loadCells, loadCellsFrom])
      show (convert 22 9 (.slice (some ad) 0 c)).run Tryz.prog w = _
      rw [e, e2]; rfl
  · exact run_convert_bytes_arg (P := Tryz.prog) w 22 5 Tryz.underlying22 Tryz.underlying5 b off zs.length c zs rfl hc 9 Tryz.underlying9
theorem oct_eq (a b : List Int) (ha : Byt a) (hb : Byt b) : (oct a == oct b) = (a == b) := by
  rw [Bool.eq_iff_iff]
  simp only [beq_iff_eq]
  constructor
  · intro h2
    unfold oct at h2
    apply List.ext_getElem
    · have := congrArg List.length h2; simpa using this
    · intro i h1 h3
      have e := congrArg (fun l : List UInt8 => l[i]?) h2
      simp [List.getElem?_map, List.getElem?_eq_getElem h1, List.getElem?_eq_getElem h3] at e
      have p := ha _ (List.getElem_mem h1)
      have q := hb _ (List.getElem_mem h3)
      have e2 := congrArg UInt8.toNat e
      simp at e2
      omega
  · intro h; rw [h]
set_option maxHeartbeats 1000000 in
theorem equal_any (va vb : Value) (a b : List Int) (w : World) (ha : IsB w va a) (hb : IsB w vb b) :
    Calls Tryz.prog 102 #[va, vb] w fun e w' => e = .returned (.bool (a == b)) ∧ w' = w := by
  have e1 := conv_str ha
  have e2 := conv_str hb
  have e3 := oct_eq a b ha.byt hb.byt
  obtain ⟨aa, ca, rfl⟩ := ha.slice
  obtain ⟨ab, cb, rfl⟩ := hb.slice
  clear ha hb
  replace e3 := hid e3
  generalize oct a = sa at *
  generalize oct b = sb at *
  go_enter Tryz.func102, Tryz.ntmps102
  go_wp2
  go_ret
  refine ⟨?_, rfl⟩
  rw [← e3.out]
  rfl
set_option maxHeartbeats 1000000 in
theorem clone_any (v : Value) (zs : List Int) (w : World) (h : IsB w v zs) (hl : zs.length ≤ 140737488355328) :
    Calls Tryz.prog 78 #[v] w fun e w' => ∃ a c, e = .returned (.slice a zs.length c) ∧ Own w.heap.size w' (.slice a zs.length c) zs ∧ Below w.heap.size w w' := by
  obtain ⟨a, c, rfl⟩ := h.slice
  have q : ∀ (w : World) (a : Option Addr) (n c n' c' : Nat), (binOp .eql 22 (.slice a n c) (.slice none n' c')).run Tryz.prog w = .ok (.bool a.isNone) w := fun w a n c n' c' => Lib.run_eql_slice_nil w _ _ a n c n' c' Tryz.underlying22
  cases a with
  | none =>
    obtain rfl : zs = [] := by
      obtain ⟨_, _, a', c', e, _, _, h3⟩ := h
      cases e
      rcases h3 with h3 | ⟨_, _, h3, _⟩
      · exact h3
      · cases h3
    clear h
    go_enter Tryz.func78, Tryz.ntmps78
    go_wp2
    go_ret
    exact ⟨none, 0, rfl, own_nil _ _, Below.refl _ _⟩
  | some ad =>
    obtain ⟨a', c', w', hrun, ho, hb⟩ := copy_run h hl
    replace ho := hid ho
    replace hb := hid hb
    clear h
    go_enter Tryz.func78, Tryz.ntmps78
    go_wp2_with (at_builtin; refine wpList_append_run _ rfl _ _ 22 rfl _ _ _ _ rfl rfl hrun ?_)
    go_ret
    exact ⟨_, _, rfl, ho.out, hb.out⟩
theorem isP_one' {w : World} {v : Value} {zs : List Int} (t : TypeId) (g : Nat) (hg : g = w.heap.size) (h : IsB w v zs) : IsP (w.alloc (.cells #[v] t)) (.slice (some ⟨g, 0, none⟩) 1 1) [zs] := by
  subst hg; exact isP_one t h
theorem one_flat (a : List Int) : [a].flatten = a := by simp
theorem IsB.heap {w w' : World} {v : Value} {zs : List Int} (h : IsB w v zs) (e : w'.heap = w.heap) : IsB w' v zs := h.block fun b _ _ => by rw [e]
theorem sum_one {w W : World} {v : Value} {zs : List Int} {t : TypeId} (h : IsB w v zs) (hW : Below w.heap.size w W) (hc : W.heap[w.heap.size]? = some (.cells #[v] t)) :
    Calls Tryz.prog 92 #[.slice (some ⟨w.heap.size, 0, none⟩) 1 1] W fun e w' => ∃ a c, e = .returned (.slice a 4 c) ∧ IsB w' (.slice a 4 c) (four ((sum zs).toNat : Int)) ∧ Below w.heap.size w w' := by
  have hP : IsP W (.slice (some ⟨w.heap.size, 0, none⟩) 1 1) [zs] := by
    refine ⟨by unfold maxLen; simp, _, _, rfl, .inr ⟨_, _, rfl, fun i hi => ?_⟩⟩
    obtain rfl : i = 0 := by simp at hi; omega
    exact ⟨v, by rw [cell_of hc]; rfl, h.below hW⟩
  refine (sum_of _ _ _ hP).mono ?_
  rintro e w' ⟨a, c, rfl, o, b⟩
  rw [one_flat] at o
  exact ⟨a, c, rfl, o.isB, low' hW b⟩
theorem lenV_some {zs : List Int} {n k : Nat} (h : lenP zs = some (n, k)) : lenV zs = (n, k) := by unfold lenV; rw [h]; rfl
theorem lenV_none {zs : List Int} (h : lenP zs = none) : lenV zs = (0, 0) := by unfold lenV; rw [h]; rfl
set_option maxHeartbeats 1000000 in
theorem first_any (a : Option Addr) (m c : Nat) (zs : List Int) (w : World) (h : IsB w (.slice a m c) zs) :
    Calls Tryz.prog 85 #[.slice a m c] w fun e w' => Below w.heap.size w w' ∧ match nextP zs with
      | none => e = .returned (.tuple #[.slice none 0 0, .int .i64 0])
      | some (p, u) => ∃ b off d, a = some ⟨b, off, none⟩ ∧ IsB w (.slice (some ⟨b, off + (u - 4 - p.length), none⟩) p.length d) p ∧ e = .returned (.tuple #[.slice (some ⟨b, off + (u - 4 - p.length), none⟩) p.length d, .int .i64 (u : Int)]) := by
  have hb := h.bound
  obtain ⟨rfl, hmc, hcm⟩ := hb
  have hlen := hid (length_any _ _ _ h)
  cases hp : lenP zs with
  | none =>
    rw [lenV_none hp] at hlen
    have e : nextP zs = none := by unfold nextP; rw [hp]
    rw [e]
    clear e hp h
    go_enter Tryz.func85, Tryz.ntmps85
    go_wp2_with (go_at_call 101; refine hlen.out.mono ?_; rintro e w' ⟨rfl, rfl⟩)
    go_ret2
    exact ⟨Below.refl _ _, rfl⟩
  | some x =>
    obtain ⟨n, k⟩ := x
    rw [lenV_some hp] at hlen
    obtain ⟨hn, hk, hz⟩ := lenP_some h.byt hp
    have hk1 : 1 ≤ k ∧ k ≤ 3 := by rw [hk, vi_len hn]; unfold wide; split <;> (try split) <;> omega
    have hkz : ((k : Int) == 0) = false := by simp; omega
    by_cases hbad : 65536 < n ∨ zs.length < k + n + 4
    · have e : nextP zs = none := by unfold nextP; rw [hp]; simp only; rw [if_pos hbad]
      rw [e]
      clear e hp h hz hk
      by_cases h1 : 65536 < n
      · have h1' : (65536 : Int) < (n : Int) := by omega
        go_enter Tryz.func85, Tryz.ntmps85
        go_wp2_with (go_at_call 101; refine hlen.out.mono ?_; rintro e w' ⟨rfl, rfl⟩)
        go_ret2
        exact ⟨Below.refl _ _, rfl⟩
      · have h1' : ¬ (65536 : Int) < (n : Int) := by omega
        have h2' : (zs.length : Int) < (k : Int) + (n : Int) + 4 := by omega
        go_enter Tryz.func85, Tryz.ntmps85
        go_wp2_with (go_at_call 101; refine hlen.out.mono ?_; rintro e w' ⟨rfl, rfl⟩)
        go_ret2
        exact ⟨Below.refl _ _, rfl⟩
    · have h1' : ¬ (65536 : Int) < (n : Int) := by omega
      have h2' : ¬ (zs.length : Int) < (k : Int) + (n : Int) + 4 := by omega
      obtain ⟨b, off, rfl, _⟩ := (h.at).2.2.2 (by omega)
      have HA := hid (fun (W : World) (e : W.heap = w.heap) => (show IsB w (.slice (some ⟨b, off, none⟩) (k + n) c) (zs.take (k + n)) by simpa using h.part 0 (k + n) (by omega) (by omega) (k + n) c (by omega) (by omega) (by unfold maxLen; omega)).heap e)
      have HS := hid (fun (W : World) (e : W.heap = w.heap) => (h.part (k + n) (k + n + 4) (by omega) (by omega) 4 (c - (k + n)) (by omega) (by omega) (by unfold maxLen; omega)).heap e)
      have HP := hid (h.part k (k + n) (by omega) (by omega) n (c - k) (by omega) (by omega) (by unfold maxLen; omega))
      have HQ := hid (fun (w1 : World) (b1 : Below w.heap.size w w1) => fun (W : World) (e : W.heap = w1.heap) => ((HS.out w rfl).below b1).heap e)
      clear HS
      cases hq : ((zs.drop (k + n)).take 4 == four ((sum (zs.take (k + n))).toNat : Int))
      · have e : nextP zs = none := by
          unfold nextP
          rw [hp]
          simp only
          rw [if_neg hbad, if_neg (by simpa using hq)]
        rw [e]
        replace hp := hid hp
        clear hz hk h
        go_enter Tryz.func85, Tryz.ntmps85
        go_wp2_with (go_at_call 101; refine hlen.out.mono ?_; rintro e w' ⟨rfl, rfl⟩)
        clear hlen
        go_region_with (first | (go_at_call 92; refine (sum_one (HA.out _ rfl) (by first | exact (alloc_below _ _).drew | exact (Below.refl _ _).drew.alloc (Nat.le_refl _) _ | exact alloc_below _ _) (by first | exact new_block _ _ | exact new_block (World.drew _) _)).mono ?_; rintro e w1 ⟨a1, c1, rfl, o1, b1⟩; have O1 := hid (fun (W : World) (e : W.heap = w1.heap) => o1.heap e); have P1 := hid (HQ.out w1 b1); have B1 := hid b1; clear o1 b1 HQ HA) | (go_at_call 102; refine (equal_any _ _ _ _ _ (P1.out _ rfl) (O1.out _ rfl)).mono ?_; rintro e w2 ⟨rfl, rfl⟩))
        all_goals
          go_wp2
          go_ret2
          exact ⟨B1.out, rfl⟩
      · have e : nextP zs = some ((zs.drop k).take n, k + n + 4) := by
          unfold nextP
          rw [hp]
          simp only
          rw [if_neg hbad, if_pos (by simpa using hq)]
        rw [e]
        have hpl : ((zs.drop k).take n).length = n := by simp; omega
        have HE : Hid (IsB w (.slice (some ⟨b, off + (k + n + 4 - 4 - ((zs.drop k).take n).length), none⟩) ((zs.drop k).take n).length (c - k)) ((zs.drop k).take n) ∧ Value.slice (some ⟨b, off + k, none⟩) (k + n - k) (c - k) = .slice (some ⟨b, off + (k + n + 4 - 4 - ((zs.drop k).take n).length), none⟩) ((zs.drop k).take n).length (c - k)) := by
          rw [hpl, show k + n + 4 - 4 - n = k by omega, show k + n - k = n by omega]
          exact ⟨HP.out, rfl⟩
        clear hpl HP e
        replace hp := hid hp
        clear hz hk h
        go_enter Tryz.func85, Tryz.ntmps85
        go_wp2_with (go_at_call 101; refine hlen.out.mono ?_; rintro e w' ⟨rfl, rfl⟩)
        clear hlen
        go_region_with (first | (go_at_call 92; refine (sum_one (HA.out _ rfl) (by first | exact (alloc_below _ _).drew | exact (Below.refl _ _).drew.alloc (Nat.le_refl _) _ | exact alloc_below _ _) (by first | exact new_block _ _ | exact new_block (World.drew _) _)).mono ?_; rintro e w1 ⟨a1, c1, rfl, o1, b1⟩; have O1 := hid (fun (W : World) (e : W.heap = w1.heap) => o1.heap e); have P1 := hid (HQ.out w1 b1); have B1 := hid b1; clear o1 b1 HQ HA) | (go_at_call 102; refine (equal_any _ _ _ _ _ (P1.out _ rfl) (O1.out _ rfl)).mono ?_; rintro e w2 ⟨rfl, rfl⟩))
        all_goals
          go_wp2
          go_ret2
          refine ⟨B1.out, b, off, c - k, rfl, HE.out.1, ?_⟩
          rw [← HE.out.2, show ((k + n + 4 : Nat) : Int) = (k : Int) + n + 4 by omega]
          rfl
theorem first_none {a : Option Addr} {m c : Nat} {zs : List Int} {w : World} (h : IsB w (.slice a m c) zs) (hn : nextP zs = none) :
    Calls Tryz.prog 85 #[.slice a m c] w fun e w' => e = .returned (.tuple #[.slice none 0 0, .int .i64 0]) ∧ Below w.heap.size w w' := by
  refine (first_any a m c zs w h).mono ?_
  rintro e w' ⟨hb, h⟩
  rw [hn] at h
  exact ⟨h, hb⟩
theorem first_some {a : Option Addr} {m c : Nat} {zs : List Int} {w : World} (h : IsB w (.slice a m c) zs) {p : List Int} {u : Nat} (hn : nextP zs = some (p, u)) :
    Calls Tryz.prog 85 #[.slice a m c] w fun e w' => ∃ b off o d, a = some ⟨b, off, none⟩ ∧ IsB w (.slice (some ⟨b, o, none⟩) p.length d) p ∧ e = .returned (.tuple #[.slice (some ⟨b, o, none⟩) p.length d, .int .i64 (u : Int)]) ∧ Below w.heap.size w w' := by
  refine (first_any a m c zs w h).mono ?_
  rintro e w' ⟨hb, h⟩
  rw [hn] at h
  obtain ⟨b, off, d, h1, h2, h3⟩ := h
  exact ⟨b, off, _, d, h1, h2, h3, hb⟩
end Go.Proofs.YtihgikekkgoddaaGreatDoor.Frm
/- Contract of the program's Next. -/
namespace Go.Proofs.YtihgikekkgoddaaGreatDoor.Frm
open Go.RowKit

set_option maxHeartbeats 1000000 in
theorem next_no {v : Value} {zs : List Int} {w : World} (h : IsB w v zs) (hn : nextP zs = none) :
    Calls Tryz.prog 54 #[v] w fun e w' => e = .returned (.tuple #[.slice none 0 0, .int .i64 0, .int .i64 40]) ∧ Below w.heap.size w w' := by
  obtain ⟨a, c, rfl⟩ := h.slice
  have hf := hid (first_none h hn)
  clear h hn
  go_enter Tryz.func54, Tryz.ntmps54
  go_wp2_with (go_at_call 85; refine hf.out.mono ?_; rintro e w1 ⟨rfl, b1⟩)
  exact bodyPost_ret (v := .tuple #[.slice none 0 0, .int .i64 0, .int .i64 40]) (by simp [results, Tryz.results54, go_sem]) rfl ⟨rfl, b1⟩
set_option maxHeartbeats 1000000 in
theorem next_yes {v : Value} {zs : List Int} {w : World} (h : IsB w v zs) {p : List Int} {u : Nat} (hn : nextP zs = some (p, u)) :
    Calls Tryz.prog 54 #[v] w fun e w' => ∃ a c, e = .returned (.tuple #[.slice a p.length c, .int .i64 (u : Int), .int .i64 0]) ∧ Own w.heap.size w' (.slice a p.length c) p ∧ Below w.heap.size w w' := by
  obtain ⟨a, c, rfl⟩ := h.slice
  have hb := h.bound
  obtain ⟨hu, hp, hu5⟩ := next_le h.byt hn
  have hu0 : ((u : Int) == 0) = false := by simp; omega
  have hf := hid (first_some h hn)
  clear h hn
  go_enter Tryz.func54, Tryz.ntmps54
  go_wp2_with fail
  refine hf.out.mono ?_
  rintro e w1 ⟨b, off, o, d, rfl, hB, rfl, b1⟩
  have hc := hid (clone_any _ _ _ (hB.below b1) (by omega))
  replace b1 := hid b1
  clear hB hf
  go_wp2_with fail
  refine hc.out.mono ?_
  rintro e w2 ⟨a2, c2, rfl, o2, b2⟩
  have O2 := hid (o2.base b1.out.size)
  have B2 := hid (low' b1.out b2)
  clear o2 b2 hc b1
  go_wp2_with fail
  exact bodyPost_ret (v := .tuple #[.slice a2 p.length c2, .int .i64 (u : Int), .int .i64 0]) (by simp [results, Tryz.results54, go_sem]) rfl ⟨_, _, rfl, O2.out, B2.out⟩
end Go.Proofs.YtihgikekkgoddaaGreatDoor.Frm
