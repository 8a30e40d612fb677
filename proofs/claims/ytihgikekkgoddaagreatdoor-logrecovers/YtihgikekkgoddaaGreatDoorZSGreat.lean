/- Contract of Great: false only of at most 100 calls with at most 30,000 bytes. -/
import Derived.Test.YtihgikekkgoddaaGreatDoorZSOpen2
import Derived.Deep.QuietTactic
import Derived.BigQuiet
namespace Go.Proofs.YtihgikekkgoddaaGreatDoor.Sto
open Go.RowKit Go.Maps Go.MapKept Go.Shelf

def wt (x : ActD) : Nat := x.b.length + x.name.length + x.other.length
def sumw (l : List ActD) (k : Nat) : Nat := ((l.take k).map wt).sum
theorem sumw_succ (l : List ActD) (k : Nat) (hk : k < l.length) : sumw l (k + 1) = sumw l k + wt l[k] := by
  unfold sumw
  rw [List.take_succ_eq_append_getElem hk, List.map_append, List.sum_append]
  congr 1
/-- not too many calls, not too many bytes. -/
def Fit (l : List ActD) : Prop := l.length ≤ 100 ∧ sumw l l.length ≤ 30000
theorem IsActs.at {w : World} {a : Option Addr} {n c : Nat} {l : List ActD} (h : IsActs w (.slice a n c) l) (k : Nat) (hk : k < l.length) : ∃ b off vb vk, a = some ⟨b, off, none⟩ ∧ ActOk l[k] ∧ IsB w vb l[k].b ∧ IsI w vk l[k].keep ∧
    w.cell? ⟨b, off + k * 6, none⟩ = some (.int .u8 (l[k].kind : Int)) ∧ w.cell? ⟨b, off + k * 6 + 1, none⟩ = some (str l[k].name) ∧ w.cell? ⟨b, off + k * 6 + 2, none⟩ = some (str l[k].other) ∧ w.cell? ⟨b, off + k * 6 + 3, none⟩ = some vb ∧ w.cell? ⟨b, off + k * 6 + 4, none⟩ = some (.int .i64 l[k].n) ∧ w.cell? ⟨b, off + k * 6 + 5, none⟩ = some vk := by
  obtain ⟨_, a', c', e, h2⟩ := h
  cases e
  rcases h2 with h2 | ⟨b, off, ha, h2⟩
  · subst h2; cases hk
  · obtain ⟨cs, ⟨h3, vb, vk, rfl, h4, h5⟩, h6⟩ := h2 k hk
    exact ⟨b, off, vb, vk, ha, h3, h4, h5, h6 0 (by decide), h6 1 (by decide), h6 2 (by decide), h6 3 (by decide), h6 4 (by decide), h6 5 (by decide)⟩
def GreatPost (l : List ActD) (w : World) (e : Ending) (w' : World) : Prop := ∃ r : Bool, e = .returned (.bool r) ∧ (r = false → Fit l) ∧ ∃ q, w' = w.drewN q
set_option maxHeartbeats 4000000 in
theorem great_any (v : Value) (l : List ActD) (w : World) (h : IsActs w v l) :
    Calls Tryz.prog 43 #[v] w (GreatPost l w) := by
  have hml := h.1
  unfold maxLen at hml
  obtain ⟨av, cv, hv⟩ : ∃ a c, v = .slice a l.length c := by obtain ⟨_, a, c, e, _⟩ := h; exact ⟨a, c, e⟩
  rw [hv] at h ⊢
  replace h := hid h
  clear hv
  by_cases h100 : 100 < l.length
  · have h100' : (100 : Int) < (l.length : Int) := by omega
    go_enter Tryz.func43, Tryz.ntmps43
    go_wp2
    go_ret
    exact ⟨true, rfl, (fun e => by cases e), 0, rfl⟩
  have h100' : ¬ (100 : Int) < (l.length : Int) := by omega
  go_enter Tryz.func43, Tryz.ntmps43
  go_wp2
  go_loopw [3, 4] (fun nv iv wr => ∃ (k q : Nat), k ≤ l.length ∧ iv = .int .i64 k ∧ nv = .int .i64 (sumw l k) ∧ sumw l k ≤ 90000 * k ∧ wr = w.drewN q) (fun _ iv _ => l.length - (intOf iv).toNat)
  case atStart => exact ⟨0, 0, by omega, rfl, rfl, by simp [sumw], rfl⟩
  case round =>
    obtain ⟨k, q, hk, rfl, rfl, hs, rfl⟩ := hrel
    by_cases hlt : k < l.length
    · have hlt' : (k : Int) < (l.length : Int) := by omega
      obtain ⟨b, off, vb, vk, rfl, hok, hB, hI, c0, c1, c2, c3, c4, c5⟩ := h.out.at k hlt
      obtain ⟨hbl, va, vc, rfl, _⟩ := hB
      unfold maxLen at hbl
      have n1 := hok.name
      have n2 := hok.other
      unfold maxLen at n1 n2
      have hsu := hid (sumw_succ l k hlt)
      have hs1 : (⟨l[k].name.toArray⟩ : ByteArray).size = l[k].name.length := by show l[k].name.toArray.size = _; simp
      have hs2 : (⟨l[k].other.toArray⟩ : ByteArray).size = l[k].other.length := by show l[k].other.toArray.size = _; simp
      have hwt : Hid (wt l[k] = l[k].b.length + l[k].name.length + l[k].other.length) := rfl
      unfold str at c1 c2
      clear c0 c4 c5 hok hI
      generalize l[k] = x at *
      generalize sumw l k = m at *
      by_cases t1 : 30000 < x.b.length
      · have t1' : (30000 : Int) < (x.b.length : Int) := by omega
        go_wp2
        go_ret
        exact ⟨true, rfl, (fun e => by cases e), q, rfl⟩
      · have t1' : ¬ (30000 : Int) < (x.b.length : Int) := by omega
        by_cases t2 : 30000 < x.name.length
        · have t2' : (30000 : Int) < (x.name.length : Int) := by omega
          go_wp2
          go_ret
          exact ⟨true, rfl, (fun e => by cases e), q, rfl⟩
        · have t2' : ¬ (30000 : Int) < (x.name.length : Int) := by omega
          by_cases t3 : 30000 < x.other.length
          · have t3' : (30000 : Int) < (x.other.length : Int) := by omega
            go_wp2
            go_ret
            exact ⟨true, rfl, (fun e => by cases e), q, rfl⟩
          · have t3' : ¬ (30000 : Int) < (x.other.length : Int) := by omega
            go_wp2
            go_quiet (fail)
            go_wp2
            refine ⟨⟨k + 1, _, by omega, by go_num, by rw [hsu.out, hwt.out]; go_num, by rw [hsu.out, hwt.out]; omega, rfl⟩, by simp [intOf]; omega⟩
    · have hge : ¬ (k : Int) < (l.length : Int) := by omega
      obtain rfl : k = l.length := by omega
      have fin : Hid (∀ r : Bool, r = decide ((30000 : Int) < (sumw l l.length : Int)) → r = false → Fit l) := fun r hr e => by
        rw [e] at hr
        have := of_decide_eq_false hr.symm
        exact ⟨by omega, by omega⟩
      generalize sumw l l.length = m at *
      go_wp2
      go_ret
      exact ⟨_, rfl, fin.out _ rfl, q, rfl⟩
end Go.Proofs.YtihgikekkgoddaaGreatDoor.Sto
