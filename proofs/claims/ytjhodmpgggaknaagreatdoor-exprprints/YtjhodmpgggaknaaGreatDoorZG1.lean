import Derived.Test.YtjhodmpgggaknaaGreatDoorZHG
import Derived.Test.YtjhodmpgggaknaaGreatDoorZNRefC
import Derived.Test.YtjhodmpgggaknaaGreatDoorZHB
import Derived.Deep.OwnRows
/- The document's decimal, side, Copy. -/
namespace Go.Proofs.YtjhodmpgggaknaaGreatDoor
open Go.RowKit Go.Shelf Go.Maps

def decT (n : Int) : Tx := if n < 0 then [45] else Lib.decDigits n.toNat
theorem decT_len {n : Int} (h : n ≤ 9223372036854775807) : (decT n).length ≤ 20 := by
  unfold decT
  split
  · simp
  · exact Num.dec_len _ (by omega)
set_option maxRecDepth 100000 in
set_option maxHeartbeats 1000000 in
theorem decimal_any (n : Int) (hn : n ≤ 9223372036854775807) (w : World) : Calls Tryz.prog 29 #[.int .i64 n] w fun e w' => e = .returned (str (decT n)) ∧ Below w.heap.size w w' := by
  by_cases h0 : n < 0
  · have e : decT n = [45] := by unfold decT; rw [if_pos h0]
    rw [e]
    have q : decide (n < 0) = true := decide_eq_true h0
    clear e hn
    unfold str
    go_enter Tryz.func29, Tryz.ntmps29
    go_wp2
    go_ret
    exact ⟨rfl, Below.refl _ _⟩
  · have e : decT n = Lib.decDigits n.toNat := by unfold decT; rw [if_neg h0]
    rw [e]
    have q : decide (n < 0) = false := decide_eq_false h0
    have d1 := Num.dec_len n.toNat (by omega)
    obtain ⟨full, hfull⟩ : ∃ full, full = Lib.decDigits n.toNat := ⟨_, rfl⟩
    rw [← hfull] at d1 ⊢
    have hw0 : Hid (Num.Whole full n.toNat []) := .inl ⟨rfl, hfull⟩
    have hn0 : 0 ≤ n := by omega
    clear e h0 hfull
    unfold str
    go_enter Tryz.func29, Tryz.ntmps29
    go_wp2
    clear q
    go_loopw [0, 3] (fun v s wr => ∃ (l : List UInt8) (u : Int), s = .string ⟨l.toArray⟩ ∧ v = .int .i64 u ∧ 0 ≤ u ∧ u ≤ 9223372036854775807 ∧ l.length ≤ 20 ∧ Hid (Num.Whole full u.toNat l) ∧ Below w.heap.size w wr) (fun v s _ => (intOf v).toNat + Num.emptyText s)
    case atStart => exact ⟨[], n, rfl, rfl, by omega, by omega, by simp, hw0, Below.refl _ _⟩
    case round =>
      obtain ⟨l, u, rfl, rfl, u0, u1, hl, HW, hbel⟩ := hrel
      have hconv := Num.conv_one wr (u % 10) (by omega) (by omega)
      by_cases hgo : 0 < u ∨ l = []
      · have hw2 := HW.out.next (by rcases hgo with h | h
                                    · left; omega
                                    · exact .inr h)
        have HW2 : Hid (Num.Whole full (u / 10).toNat (Num.dgt (u % 10) :: l)) := by
          show Num.Whole _ _ _
          unfold Num.dgt
          rw [show (u / 10).toNat = u.toNat / 10 by omega, show (u % 10).toNat = u.toNat % 10 by omega]
          exact hw2
        have hl2 := HW2.out.len
        have hl3 : (Num.dgt (u % 10) :: l).length ≤ 20 := by omega
        clear hw2 hl2
        by_cases hu : 0 < u
        · clear hgo
          go_wp2
          go_roundw
          case rel => exact ⟨Num.dgt (u % 10) :: l, u / 10, by rw [Num.bytes_one, Num.bytes_app]; rfl, rfl, by omega, by omega, hl3, HW2, hbel.alloc hbel.size _⟩
          case measure =>
            rw [Num.bytes_one, Num.bytes_app]
            simp [intOf, Num.emptyText]; omega
        · have hl0 : l = [] := by
            rcases hgo with h | h
            · exact absurd h hu
            · exact h
          subst hl0
          clear hgo
          go_wp2
          go_roundw
          case rel => exact ⟨[Num.dgt (u % 10)], u / 10, by rw [Num.bytes_one, show (⟨#[]⟩ : ByteArray) = ⟨[].toArray⟩ from rfl, Num.bytes_app]; rfl, rfl, by omega, by omega, hl3, HW2, hbel.alloc hbel.size _⟩
          case measure =>
            rw [Num.bytes_one, show (⟨#[]⟩ : ByteArray) = ⟨[].toArray⟩ from rfl, Num.bytes_app]
            simp [intOf, Num.emptyText]; omega
      · have hl0 : l ≠ [] := fun h => hgo (.inr h)
        have hu : ¬ 0 < u := fun h => hgo (.inl h)
        have hu0 : u = 0 := by omega
        subst hu0
        have hemp : l.isEmpty = false := by simpa using hl0
        have hfin := HW.out.done hl0
        subst hfin
        clear hgo HW hconv
        go_wp2
        go_ret
        exact ⟨rfl, hbel⟩
/-- texts in memory. -/
def IsX (w : World) (b n : Nat) (tx : List Tx) : Prop := tx.length ≤ n ∧ ∃ f : Nat → Value, w.rowIs b 9 n f ∧ ∀ i x, tx[i]? = some x → f i = str x
def sideT (x : Tx) (p : Bool) : Tx := if p then 40 :: (x ++ [41]) else x
set_option maxRecDepth 100000 in
set_option maxHeartbeats 1000000 in
theorem side_any {w : World} {v : Value} {b n : Nat} {tx : List Tx} (hv : ∃ a l c, v = .slice a l c) (h : IsX w b n tx) (i : Nat) (x : Tx) (hx : tx[i]? = some x) (hl : x.length ≤ 20000) (p : Bool) : Calls Tryz.prog 32 #[v, .slice (some ⟨b, 0, none⟩) n n, .int .i64 (i : Int), .bool p] w fun e w' => e = .returned (str (sideT x p)) ∧ Below w.heap.size w w' := by
  obtain ⟨a, l, c, rfl⟩ := hv
  obtain ⟨h1, f, hf, hfx⟩ := h
  have hi : i < n := by have := (List.getElem?_eq_some_iff.1 hx).1; omega
  have x0 := hf.cell hi
  rw [hfx i x hx] at x0
  have i0 : (0 : Int) ≤ (i : Int) := by omega
  have i1 : (i : Int) < (n : Int) := by omega
  unfold str at *
  clear hfx hf hx h1
  cases p
  · show Calls _ _ _ _ fun e w' => e = .returned (.string ⟨x.toArray⟩) ∧ _
    go_enter Tryz.func32, Tryz.ntmps32
    go_wp2
    go_ret
    exact ⟨rfl, Below.refl _ _⟩
  · have e : (⟨#[40]⟩ : ByteArray) ++ ⟨x.toArray⟩ ++ ⟨#[41]⟩ = ⟨(sideT x true).toArray⟩ := by
      rw [show (⟨#[40]⟩ : ByteArray) = ⟨([40] : Tx).toArray⟩ from rfl, show (⟨#[41]⟩ : ByteArray) = ⟨([41] : Tx).toArray⟩ from rfl, app_str, app_str]
      rfl
    have k1 : (9223372036854775807 < 1 + x.length) = False := eq_false (by omega)
    have k2 : (9223372036854775807 < 1 + x.length + 1) = False := eq_false (by omega)
    have he := hid e
    clear e
    go_enter Tryz.func32, Tryz.ntmps32
    go_wp2
    go_ret
    exact ⟨by rw [he.out]; rfl, Below.refl _ _⟩
end Go.Proofs.YtjhodmpgggaknaaGreatDoor
