/- Contracts of the program's length, of bytes.Equal and bytes.Clone, of the program's first, Next. -/
import Derived.Test.YtffopkpbekjanaaZ1
namespace Go.Proofs.Ytffopkpbekjanaa
open Go.RowKit

def lenV (b : List Int) : Nat × Nat := (lenP b).getD (0, 0)
theorem and_all : ∀ m : Fin 256, bits .and .u8 ((m.val : Nat) : Int) 127 = ((m.val % 128 : Nat) : Int) := by decide +kernel
theorem and7 (z : Int) (h0 : 0 ≤ z) (h : z < 256) : bits .and .u8 z 127 = z % 128 := by
  have h := and_all ⟨z.toNat, by omega⟩
  simp only at h
  rw [show ((z.toNat : Nat) : Int) = z by omega] at h
  rw [h]; omega
def acc (zs : List Int) (k : Nat) : Int := if k = 0 then 0 else if k = 1 then zs.getD 0 0 % 128 else if k = 2 then zs.getD 0 0 % 128 + 128 * (zs.getD 1 0 % 128) else zs.getD 0 0 % 128 + 128 * (zs.getD 1 0 % 128) + 16384 * (zs.getD 2 0 % 128)
theorem len_hit (zs : List Int) (hb : Byt zs) (k : Nat) (hk : k < 3) (hl : k < zs.length) (hp : ∀ i, i < k → 128 ≤ zs.getD i 0) (hc : zs.getD k 0 < 128) (hz : ¬ (zs.getD k 0 = 0 ∧ 0 < k)) : ((lenV zs).1 : Int) = acc zs (k + 1) ∧ ((lenV zs).2 : Int) = k + 1 := by
  obtain rfl | rfl | rfl : k = 0 ∨ k = 1 ∨ k = 2 := by omega
  · match zs, hb, hl with
    | x :: zs, hb, _ =>
      have h0 := hb x (by simp)
      simp at hc
      simp [lenV, lenP, acc, hc]; omega
  · match zs, hb, hl with
    | x :: y :: zs, hb, _ =>
      have h0 := hb x (by simp)
      have h1 := hb y (by simp)
      have p0 := hp 0 (by omega)
      simp at hc hz p0
      have p0' : ¬ x < 128 := by omega
      simp [lenV, lenP, acc, hc, hz, p0']; omega
  · match zs, hb, hl with
    | x :: y :: z :: zs, hb, _ =>
      have h0 := hb x (by simp)
      have h1 := hb y (by simp)
      have h2 := hb z (by simp)
      have p0 := hp 0 (by omega)
      have p1 := hp 1 (by omega)
      simp at hc hz p0 p1
      have p0' : ¬ x < 128 := by omega
      have p1' : ¬ y < 128 := by omega
      simp [lenV, lenP, acc, hc, hz, p0', p1']; omega
theorem len_zero (zs : List Int) (hb : Byt zs) (k : Nat) (hk : k < 3) (hl : k < zs.length) (hp : ∀ i, i < k → 128 ≤ zs.getD i 0) (hc : zs.getD k 0 = 0) (hz : 0 < k) : lenV zs = (0, 0) := by
  obtain rfl | rfl : k = 1 ∨ k = 2 := by omega
  · match zs, hb, hl with
    | x :: y :: zs, hb, _ =>
      have p0 := hp 0 (by omega)
      simp at hc p0
      have p0' : ¬ x < 128 := by omega
      simp [lenV, lenP, hc, p0']
  · match zs, hb, hl with
    | x :: y :: z :: zs, hb, _ =>
      have p0 := hp 0 (by omega)
      have p1 := hp 1 (by omega)
      simp at hc p0 p1
      have p0' : ¬ x < 128 := by omega
      have p1' : ¬ y < 128 := by omega
      simp [lenV, lenP, hc, p0', p1']
theorem len_out (zs : List Int) (k : Nat) (hk : k = 3 ∨ k = zs.length) (hk3 : k ≤ 3) (hl : k ≤ zs.length) (hp : ∀ i, i < k → 128 ≤ zs.getD i 0) : lenV zs = (0, 0) := by
  have q : ∀ x : Int, 128 ≤ x → ¬ x < 128 := by omega
  match zs, hl, hk with
  | [], _, _ => rfl
  | [x], hl, hk =>
    have p0 := hp 0 (by simp at hl hk; omega)
    simp at p0
    simp [lenV, lenP, q x p0]
  | [x, y], hl, hk =>
    have p0 := hp 0 (by simp at hl hk; omega)
    have p1 := hp 1 (by simp at hl hk; omega)
    simp at p0 p1
    simp [lenV, lenP, q x p0, q y p1]
  | x :: y :: z :: zs, hl, hk =>
    obtain rfl : k = 3 := by simp at hl hk; omega
    have p0 := hp 0 (by omega)
    have p1 := hp 1 (by omega)
    have p2 := hp 2 (by omega)
    simp at p0 p1 p2
    simp [lenV, lenP, q x p0, q y p1, q z p2]
theorem acc_succ (zs : List Int) (k : Nat) (h : k < 3) : acc zs (k + 1) = acc zs k + 128 ^ k * (zs.getD k 0 % 128) := by
  obtain rfl | rfl | rfl : k = 0 ∨ k = 1 ∨ k = 2 := by omega
  all_goals simp [acc]
theorem acc_lt (zs : List Int) (k : Nat) (h : k < 3) : 0 ≤ acc zs k ∧ acc zs k < 128 ^ k := by
  obtain rfl | rfl | rfl : k = 0 ∨ k = 1 ∨ k = 2 := by omega
  all_goals simp [acc]
  all_goals omega
theorem or_add (n c s : Nat) (h : n < 2 ^ s) (hb : n + c * 2 ^ s < 2 ^ 62) : bits .or .i64 (n : Int) ((c * 2 ^ s : Nat) : Int) = ((n + c * 2 ^ s : Nat) : Int) := by
  show IntKind.i64.wrap (((BitVec.ofInt 64 (n : Int) ||| BitVec.ofInt 64 ((c * 2 ^ s : Nat) : Int)).toNat : Nat) : Int) = _
  rw [BitVec.ofInt_natCast, BitVec.ofInt_natCast, BitVec.toNat_or, BitVec.toNat_ofNat, BitVec.toNat_ofNat, Nat.mod_eq_of_lt (by omega), Nat.mod_eq_of_lt (by omega)]
  have e := Nat.shiftLeft_add_eq_or_of_lt h c
  rw [Nat.shiftLeft_eq] at e
  rw [Nat.or_comm, ← e, IntKind.wrap_i64]
  omega
theorem or_form (n x : Int) (k : Nat) (hk : k < 3) (h0 : 0 ≤ n) (h1 : n < 128 ^ k) (hx : 0 ≤ x) : bits .or .i64 n (x % 128 * 128 ^ k) = n + 128 ^ k * (x % 128) := by
  obtain ⟨m, rfl⟩ : ∃ m : Nat, n = (m : Int) := ⟨n.toNat, by omega⟩
  obtain ⟨y, rfl⟩ : ∃ y : Nat, x = (y : Int) := ⟨x.toNat, by omega⟩
  obtain rfl | rfl | rfl : k = 0 ∨ k = 1 ∨ k = 2 := by omega
  · have := or_add m (y % 128) 0 (by omega) (by omega)
    rw [show ((y : Int) % 128 * 128 ^ 0) = ((y % 128 * 2 ^ 0 : Nat) : Int) by omega, this]; omega
  · have := or_add m (y % 128) 7 (by omega) (by omega)
    rw [show ((y : Int) % 128 * 128 ^ 1) = ((y % 128 * 2 ^ 7 : Nat) : Int) by omega, this]; omega
  · have := or_add m (y % 128) 14 (by omega) (by omega)
    rw [show ((y : Int) % 128 * 128 ^ 2) = ((y % 128 * 2 ^ 14 : Nat) : Int) by omega, this]; omega
set_option maxHeartbeats 1000000 in
theorem length_any (v : Value) (zs : List Int) (w : World) (h : IsB w v zs) :
    Calls Try.prog 36 #[v] w fun e w' => e = .returned (.tuple #[.int .i64 ((lenV zs).1 : Int), .int .i64 ((lenV zs).2 : Int)]) ∧ w' = w := by
  obtain ⟨a, c, rfl⟩ := h.slice
  have hb := h.bound
  have HB := hid h.byt
  obtain ⟨_, _, _, hc⟩ := h.at
  have HC := hid hc
  clear h hc
  by_cases h3 : 3 < zs.length
  · have h3' : (3 : Int) < (zs.length : Int) := by omega
    go_enter Try.func36, Try.ntmps36
    go_wp2
    go_loop [2, 12] (fun nv iv => ∃ k : Nat, k ≤ 3 ∧ iv = .int .i64 (k : Int) ∧ nv = .int .i64 (acc zs k) ∧ ∀ i, i < k → 128 ≤ zs.getD i 0) (fun _ iv => 3 - (intOf iv).toNat)
    case atStart => exact ⟨0, by omega, rfl, rfl, by intro i hi; omega⟩
    case round =>
      obtain ⟨k, hk, rfl, rfl, hp⟩ := hrel
      by_cases hlt : k < 3
      · have hlt' : (k : Int) < 3 := by omega
        have hlt2 : (k : Int) < zs.length := by omega
        obtain ⟨b, off, rfl, hcell⟩ := HC.out (by omega)
        have hck := hcell k (by omega)
        have hz := HB.out _ (getD_mem zs k (by omega))
        have h7 := and7 _ hz.1 hz.2
        have hhit := len_hit zs HB.out k (by omega) (by omega) hp
        have hzero := len_zero zs HB.out k (by omega) (by omega) hp
        have hac := acc_succ zs k (by omega)
        have hab := acc_lt zs k (by omega)
        clear hcell
        obtain ⟨x, hx⟩ : ∃ x, x = zs.getD k 0 := ⟨_, rfl⟩
        obtain ⟨n, hn⟩ : ∃ n, n = acc zs k := ⟨_, rfl⟩
        rw [← hx] at hck h7 hz hhit hzero
        rw [← hn, ← hx] at hac
        rw [← hn] at hab ⊢
        replace hhit := hid hhit
        replace hzero := hid hzero
        replace hac := hid hac
        replace hx := hid hx
        replace hn := hid hn
        replace hp := hid hp
        obtain ⟨hz0, hz1⟩ := hz
        obtain ⟨hn0, hn1⟩ := hab
        have hor := or_form n x k (by omega) hn0 hn1 hz0
        by_cases hc128 : 128 ≤ x
        · have hp' : Hid (∀ i, i < k + 1 → 128 ≤ zs.getD i 0) := fun i hi => by
            by_cases h : i = k
            · subst h; rw [← hx.out]; exact hc128
            · exact hp.out i (by omega)
          rw [← hac.out] at hor
          obtain rfl | rfl | rfl : k = 0 ∨ k = 1 ∨ k = 2 := by omega
          all_goals
            try simp only [Nat.add_zero, Int.pow_zero, Int.mul_one] at hck hor
            replace hor := hid hor
            go_wp2
            first
              | exact ⟨⟨1, by omega, rfl, congrArg (Value.int .i64) hor.out, hp'.out⟩, by simp [intOf]⟩
              | exact ⟨⟨2, by omega, rfl, congrArg (Value.int .i64) hor.out, hp'.out⟩, by simp [intOf]⟩
              | exact ⟨⟨3, by omega, rfl, congrArg (Value.int .i64) hor.out, hp'.out⟩, by simp [intOf]⟩
        · have hc' : x < 128 := by omega
          by_cases hx0 : x = 0 ∧ 0 < k
          · obtain ⟨rfl, hk0⟩ := hx0
            have e := hid (hzero.out rfl hk0)
            have hk0' : (0 : Int) < (k : Int) := by omega
            clear hor
            obtain rfl | rfl : k = 1 ∨ k = 2 := by omega
            all_goals
              go_wp2
              go_ret2
              exact ⟨by rw [e.out]; rfl, rfl⟩
          · have e := hid (hhit.out hc' hx0)
            rw [← hac.out] at hor
            by_cases hxz : x = 0
            · subst hxz
              obtain rfl : k = 0 := by omega
              simp only [Nat.add_zero, Int.pow_zero, Int.mul_one, Int.zero_emod] at hck hor
              replace hor := hid hor
              go_wp2
              go_ret2
              refine ⟨?_, rfl⟩
              rw [e.out.1, e.out.2, ← hor.out]
              rfl
            · have hxz' : (x == 0) = false := by simpa using hxz
              clear hxz
              obtain rfl | rfl | rfl : k = 0 ∨ k = 1 ∨ k = 2 := by omega
              all_goals
                try simp only [Nat.add_zero, Int.pow_zero, Int.mul_one] at hck hor
                replace hor := hid hor
                go_wp2
                go_ret2
                refine ⟨?_, rfl⟩
                rw [e.out.1, e.out.2, ← hor.out]
                rfl
      · have hlt' : ¬ (k : Int) < 3 := by omega
        have e := len_out zs k (by omega) (by omega) (by omega) hp
        replace e := hid e
        clear hp
        go_wp2
        go_ret2
        exact ⟨by rw [e.out]; rfl, rfl⟩
  · have h3' : ¬ (3 : Int) < (zs.length : Int) := by omega
    go_enter Try.func36, Try.ntmps36
    go_wp2
    go_loop [2, 12] (fun nv iv => ∃ k : Nat, k ≤ zs.length ∧ iv = .int .i64 (k : Int) ∧ nv = .int .i64 (acc zs k) ∧ ∀ i, i < k → 128 ≤ zs.getD i 0) (fun _ iv => 3 - (intOf iv).toNat)
    case atStart => exact ⟨0, by omega, rfl, rfl, by intro i hi; omega⟩
    case round =>
      obtain ⟨k, hk, rfl, rfl, hp⟩ := hrel
      by_cases hlt : k < zs.length
      · have hlt' : (k : Int) < zs.length := by omega
        have hlt2 : (k : Int) < zs.length := by omega
        obtain ⟨b, off, rfl, hcell⟩ := HC.out (by omega)
        have hck := hcell k (by omega)
        have hz := HB.out _ (getD_mem zs k (by omega))
        have h7 := and7 _ hz.1 hz.2
        have hhit := len_hit zs HB.out k (by omega) (by omega) hp
        have hzero := len_zero zs HB.out k (by omega) (by omega) hp
        have hac := acc_succ zs k (by omega)
        have hab := acc_lt zs k (by omega)
        clear hcell
        obtain ⟨x, hx⟩ : ∃ x, x = zs.getD k 0 := ⟨_, rfl⟩
        obtain ⟨n, hn⟩ : ∃ n, n = acc zs k := ⟨_, rfl⟩
        rw [← hx] at hck h7 hz hhit hzero
        rw [← hn, ← hx] at hac
        rw [← hn] at hab ⊢
        replace hhit := hid hhit
        replace hzero := hid hzero
        replace hac := hid hac
        replace hx := hid hx
        replace hn := hid hn
        replace hp := hid hp
        obtain ⟨hz0, hz1⟩ := hz
        obtain ⟨hn0, hn1⟩ := hab
        have hor := or_form n x k (by omega) hn0 hn1 hz0
        by_cases hc128 : 128 ≤ x
        · have hp' : Hid (∀ i, i < k + 1 → 128 ≤ zs.getD i 0) := fun i hi => by
            by_cases h : i = k
            · subst h; rw [← hx.out]; exact hc128
            · exact hp.out i (by omega)
          rw [← hac.out] at hor
          obtain rfl | rfl | rfl : k = 0 ∨ k = 1 ∨ k = 2 := by omega
          all_goals
            try simp only [Nat.add_zero, Int.pow_zero, Int.mul_one] at hck hor
            replace hor := hid hor
            go_wp2
            first
              | exact ⟨⟨1, by omega, rfl, congrArg (Value.int .i64) hor.out, hp'.out⟩, by simp [intOf]⟩
              | exact ⟨⟨2, by omega, rfl, congrArg (Value.int .i64) hor.out, hp'.out⟩, by simp [intOf]⟩
              | exact ⟨⟨3, by omega, rfl, congrArg (Value.int .i64) hor.out, hp'.out⟩, by simp [intOf]⟩
        · have hc' : x < 128 := by omega
          by_cases hx0 : x = 0 ∧ 0 < k
          · obtain ⟨rfl, hk0⟩ := hx0
            have e := hid (hzero.out rfl hk0)
            have hk0' : (0 : Int) < (k : Int) := by omega
            clear hor
            obtain rfl | rfl : k = 1 ∨ k = 2 := by omega
            all_goals
              go_wp2
              go_ret2
              exact ⟨by rw [e.out]; rfl, rfl⟩
          · have e := hid (hhit.out hc' hx0)
            rw [← hac.out] at hor
            by_cases hxz : x = 0
            · subst hxz
              obtain rfl : k = 0 := by omega
              simp only [Nat.add_zero, Int.pow_zero, Int.mul_one, Int.zero_emod] at hck hor
              replace hor := hid hor
              go_wp2
              go_ret2
              refine ⟨?_, rfl⟩
              rw [e.out.1, e.out.2, ← hor.out]
              rfl
            · have hxz' : (x == 0) = false := by simpa using hxz
              clear hxz
              obtain rfl | rfl | rfl : k = 0 ∨ k = 1 ∨ k = 2 := by omega
              all_goals
                try simp only [Nat.add_zero, Int.pow_zero, Int.mul_one] at hck hor
                replace hor := hid hor
                go_wp2
                go_ret2
                refine ⟨?_, rfl⟩
                rw [e.out.1, e.out.2, ← hor.out]
                rfl
      · have hlt' : ¬ (k : Int) < zs.length := by omega
        have e := len_out zs k (by omega) (by omega) (by omega) hp
        replace e := hid e
        clear hp
        go_wp2
        go_ret2
        exact ⟨by rw [e.out]; rfl, rfl⟩
end Go.Proofs.Ytffopkpbekjanaa
