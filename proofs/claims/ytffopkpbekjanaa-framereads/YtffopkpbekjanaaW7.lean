/- Contracts of bytes.Equal and bytes.Clone, of the program's first. -/
import Derived.Test.YtffopkpbekjanaaW6
import Derived.Laws.BytesArg
import Derived.Lib.SliceRun
import Derived.Deep.RegionWith
namespace Go.Proofs.Ytffopkpbekjanaa
open Go.RowKit

def oct (zs : List Int) : List UInt8 := zs.map fun n => UInt8.ofNat n.toNat
theorem oct_str (zs : List Int) : strOfNums zs = ⟨(oct zs).toArray⟩ := by
  have h : (strOfNums zs).data.toList = oct zs := by rw [strOfNums_data]; rfl
  have h2 : (strOfNums zs).data = (oct zs).toArray := by rw [← Array.toArray_toList (xs := (strOfNums zs).data), h]
  cases hx : strOfNums zs with
  | mk d => rw [hx] at h2; simp only at h2; rw [h2]
/-- string(b). -/
theorem conv_str {w : World} {v : Value} {zs : List Int} (h : IsB w v zs) : (convert 22 9 v).run Try.prog w = .ok (.string ⟨(oct zs).toArray⟩) w := by
  rw [← oct_str]
  obtain ⟨_, _, a, c, rfl, _, _, h2⟩ := h
  rcases h2 with rfl | ⟨b, off, rfl, hc⟩
  · cases a with
    | none => exact run_convert_bytes_nil w 22 5 Try.underlying22 Try.underlying5 0 c 9 Try.underlying9
    | some ad =>
      have e := run_convert_bytes_string (P := Try.prog) w 22 9 5 (some ad) 0 c Try.underlying22 Try.underlying5 Try.underlying9
      have e2 := run_bytesToString (P := Try.prog) w ad 0 c [] (by simp [loadCells, loadCellsFrom])
      show (convert 22 9 (.slice (some ad) 0 c)).run Try.prog w = _
      rw [e, e2]; rfl
  · exact run_convert_bytes_arg (P := Try.prog) w 22 5 Try.underlying22 Try.underlying5 b off zs.length c zs rfl hc 9 Try.underlying9
theorem oct_eq (a b : List Int) (ha : Byt a) (hb : Byt b) : (oct a == oct b) = (a == b) := by
  rw [Bool.eq_iff_iff]
  simp only [beq_iff_eq]
  constructor
  · intro h2
    unfold oct at h2
    apply List.ext_getElem
    · have := congrArg List.length h2; simpa using this
    · intro i h1 h3
      have e := congrArg (fun l : List UInt8 => l[i]?) h2
      simp [List.getElem?_map, List.getElem?_eq_getElem h1, List.getElem?_eq_getElem h3] at e
      have p := ha _ (List.getElem_mem h1)
      have q := hb _ (List.getElem_mem h3)
      have e2 := congrArg UInt8.toNat e
      simp at e2
      omega
  · intro h; rw [h]
set_option maxHeartbeats 1000000 in
theorem equal_any (va vb : Value) (a b : List Int) (w : World) (ha : IsB w va a) (hb : IsB w vb b) :
    Calls Try.prog 37 #[va, vb] w fun e w' => e = .returned (.bool (a == b)) ∧ w' = w := by
  have e1 := conv_str ha
  have e2 := conv_str hb
  have e3 := oct_eq a b ha.byt hb.byt
  obtain ⟨aa, ca, rfl⟩ := ha.slice
  obtain ⟨ab, cb, rfl⟩ := hb.slice
  clear ha hb
  replace e3 := hid e3
  generalize oct a = sa at *
  generalize oct b = sb at *
  go_enter Try.func37, Try.ntmps37
  go_wp2
  go_ret
  refine ⟨?_, rfl⟩
  rw [← e3.out]
  rfl
set_option maxHeartbeats 1000000 in
theorem clone_any (v : Value) (zs : List Int) (w : World) (h : IsB w v zs) (hl : zs.length ≤ 140737488355328) :
    Calls Try.prog 28 #[v] w fun e w' => ∃ a c, e = .returned (.slice a zs.length c) ∧ Own w.heap.size w' (.slice a zs.length c) zs ∧ Below w.heap.size w w' := by
  obtain ⟨a, c, rfl⟩ := h.slice
  have q : ∀ (w : World) (a : Option Addr) (n c n' c' : Nat), (binOp .eql 22 (.slice a n c) (.slice none n' c')).run Try.prog w = .ok (.bool a.isNone) w := fun w a n c n' c' => Lib.run_eql_slice_nil w _ _ a n c n' c' Try.underlying22
  cases a with
  | none =>
    obtain rfl : zs = [] := by
      obtain ⟨_, _, a', c', e, _, _, h3⟩ := h
      cases e
      rcases h3 with h3 | ⟨_, _, h3, _⟩
      · exact h3
      · cases h3
    clear h
    go_enter Try.func28, Try.ntmps28
    go_wp2
    go_ret
    exact ⟨none, 0, rfl, own_nil _ _, Below.refl _ _⟩
  | some ad =>
    obtain ⟨a', c', w', hrun, ho, hb⟩ := copy_run h hl
    replace ho := hid ho
    replace hb := hid hb
    clear h
    go_enter Try.func28, Try.ntmps28
    go_wp2_with (at_builtin; refine wpList_append_run _ rfl _ _ 22 rfl _ _ _ _ rfl rfl hrun ?_)
    go_ret
    exact ⟨_, _, rfl, ho.out, hb.out⟩
theorem isP_one' {w : World} {v : Value} {zs : List Int} (t : TypeId) (g : Nat) (hg : g = w.heap.size) (h : IsB w v zs) : IsP (w.alloc (.cells #[v] t)) (.slice (some ⟨g, 0, none⟩) 1 1) [zs] := by
  subst hg; exact isP_one t h
theorem one_flat (a : List Int) : [a].flatten = a := by simp
theorem IsB.heap {w w' : World} {v : Value} {zs : List Int} (h : IsB w v zs) (e : w'.heap = w.heap) : IsB w' v zs := h.block fun b _ _ => by rw [e]
theorem sum_one {w W : World} {v : Value} {zs : List Int} {t : TypeId} (h : IsB w v zs) (hW : Below w.heap.size w W) (hc : W.heap[w.heap.size]? = some (.cells #[v] t)) :
    Calls Try.prog 24 #[.slice (some ⟨w.heap.size, 0, none⟩) 1 1] W fun e w' => ∃ a c, e = .returned (.slice a 4 c) ∧ IsB w' (.slice a 4 c) (four ((sum zs).toNat : Int)) ∧ Below w.heap.size w w' := by
  have hP : IsP W (.slice (some ⟨w.heap.size, 0, none⟩) 1 1) [zs] := by
    refine ⟨by unfold maxLen; simp, _, _, rfl, .inr ⟨_, _, rfl, fun i hi => ?_⟩⟩
    obtain rfl : i = 0 := by simp at hi; omega
    exact ⟨v, by rw [cell_of hc]; rfl, h.below hW⟩
  refine (sum_of _ _ _ hP).mono ?_
  rintro e w' ⟨a, c, rfl, o, b⟩
  rw [one_flat] at o
  exact ⟨a, c, rfl, o.isB, low' hW b⟩
theorem lenV_some {zs : List Int} {n k : Nat} (h : lenP zs = some (n, k)) : lenV zs = (n, k) := by unfold lenV; rw [h]; rfl
theorem lenV_none {zs : List Int} (h : lenP zs = none) : lenV zs = (0, 0) := by unfold lenV; rw [h]; rfl
set_option maxHeartbeats 1000000 in
theorem first_any (a : Option Addr) (m c : Nat) (zs : List Int) (w : World) (h : IsB w (.slice a m c) zs) :
    Calls Try.prog 27 #[.slice a m c] w fun e w' => Below w.heap.size w w' ∧ match nextP zs with
      | none => e = .returned (.tuple #[.slice none 0 0, .int .i64 0])
      | some (p, u) => ∃ b off d, a = some ⟨b, off, none⟩ ∧ IsB w (.slice (some ⟨b, off + (u - 4 - p.length), none⟩) p.length d) p ∧ e = .returned (.tuple #[.slice (some ⟨b, off + (u - 4 - p.length), none⟩) p.length d, .int .i64 (u : Int)]) := by
  have hb := h.bound
  obtain ⟨rfl, hmc, hcm⟩ := hb
  have hlen := hid (length_any _ _ _ h)
  cases hp : lenP zs with
  | none =>
    rw [lenV_none hp] at hlen
    have e : nextP zs = none := by unfold nextP; rw [hp]
    rw [e]
    clear e hp h
    go_enter Try.func27, Try.ntmps27
    go_wp2_with (go_at_call 36; refine hlen.out.mono ?_; rintro e w' ⟨rfl, rfl⟩)
    go_ret2
    exact ⟨Below.refl _ _, rfl⟩
  | some x =>
    obtain ⟨n, k⟩ := x
    rw [lenV_some hp] at hlen
    obtain ⟨hn, hk, hz⟩ := lenP_some h.byt hp
    have hk1 : 1 ≤ k ∧ k ≤ 3 := by rw [hk, vi_len hn]; unfold wide; split <;> (try split) <;> omega
    have hkz : ((k : Int) == 0) = false := by simp; omega
    by_cases hbad : 65536 < n ∨ zs.length < k + n + 4
    · have e : nextP zs = none := by unfold nextP; rw [hp]; simp only; rw [if_pos hbad]
      rw [e]
      clear e hp h hz hk
      by_cases h1 : 65536 < n
      · have h1' : (65536 : Int) < (n : Int) := by omega
        go_enter Try.func27, Try.ntmps27
        go_wp2_with (go_at_call 36; refine hlen.out.mono ?_; rintro e w' ⟨rfl, rfl⟩)
        go_ret2
        exact ⟨Below.refl _ _, rfl⟩
      · have h1' : ¬ (65536 : Int) < (n : Int) := by omega
        have h2' : (zs.length : Int) < (k : Int) + (n : Int) + 4 := by omega
        go_enter Try.func27, Try.ntmps27
        go_wp2_with (go_at_call 36; refine hlen.out.mono ?_; rintro e w' ⟨rfl, rfl⟩)
        go_ret2
        exact ⟨Below.refl _ _, rfl⟩
    · have h1' : ¬ (65536 : Int) < (n : Int) := by omega
      have h2' : ¬ (zs.length : Int) < (k : Int) + (n : Int) + 4 := by omega
      obtain ⟨b, off, rfl, _⟩ := (h.at).2.2.2 (by omega)
      have HA := hid (fun (W : World) (e : W.heap = w.heap) => (show IsB w (.slice (some ⟨b, off, none⟩) (k + n) c) (zs.take (k + n)) by simpa using h.part 0 (k + n) (by omega) (by omega) (k + n) c (by omega) (by omega) (by unfold maxLen; omega)).heap e)
      have HS := hid (fun (W : World) (e : W.heap = w.heap) => (h.part (k + n) (k + n + 4) (by omega) (by omega) 4 (c - (k + n)) (by omega) (by omega) (by unfold maxLen; omega)).heap e)
      have HP := hid (h.part k (k + n) (by omega) (by omega) n (c - k) (by omega) (by omega) (by unfold maxLen; omega))
      have HQ := hid (fun (w1 : World) (b1 : Below w.heap.size w w1) => fun (W : World) (e : W.heap = w1.heap) => ((HS.out w rfl).below b1).heap e)
      clear HS
      cases hq : ((zs.drop (k + n)).take 4 == four ((sum (zs.take (k + n))).toNat : Int))
      · have e : nextP zs = none := by
          unfold nextP
          rw [hp]
          simp only
          rw [if_neg hbad, if_neg (by simpa using hq)]
        rw [e]
        replace hp := hid hp
        clear hz hk h
        go_enter Try.func27, Try.ntmps27
        go_wp2_with (go_at_call 36; refine hlen.out.mono ?_; rintro e w' ⟨rfl, rfl⟩)
        clear hlen
        go_region_with (first | (go_at_call 24; refine (sum_one (HA.out _ rfl) (by first | exact (alloc_below _ _).drew | exact (Below.refl _ _).drew.alloc (Nat.le_refl _) _ | exact alloc_below _ _) (by first | exact new_block _ _ | exact new_block (World.drew _) _)).mono ?_; rintro e w1 ⟨a1, c1, rfl, o1, b1⟩; have O1 := hid (fun (W : World) (e : W.heap = w1.heap) => o1.heap e); have P1 := hid (HQ.out w1 b1); have B1 := hid b1; clear o1 b1 HQ HA) | (go_at_call 37; refine (equal_any _ _ _ _ _ (P1.out _ rfl) (O1.out _ rfl)).mono ?_; rintro e w2 ⟨rfl, rfl⟩))
        all_goals
          go_wp2
          go_ret2
          exact ⟨B1.out, rfl⟩
      · have e : nextP zs = some ((zs.drop k).take n, k + n + 4) := by
          unfold nextP
          rw [hp]
          simp only
          rw [if_neg hbad, if_pos (by simpa using hq)]
        rw [e]
        have hpl : ((zs.drop k).take n).length = n := by simp; omega
        have HE : Hid (IsB w (.slice (some ⟨b, off + (k + n + 4 - 4 - ((zs.drop k).take n).length), none⟩) ((zs.drop k).take n).length (c - k)) ((zs.drop k).take n) ∧ Value.slice (some ⟨b, off + k, none⟩) (k + n - k) (c - k) = .slice (some ⟨b, off + (k + n + 4 - 4 - ((zs.drop k).take n).length), none⟩) ((zs.drop k).take n).length (c - k)) := by
          rw [hpl, show k + n + 4 - 4 - n = k by omega, show k + n - k = n by omega]
          exact ⟨HP.out, rfl⟩
        clear hpl HP e
        replace hp := hid hp
        clear hz hk h
        go_enter Try.func27, Try.ntmps27
        go_wp2_with (go_at_call 36; refine hlen.out.mono ?_; rintro e w' ⟨rfl, rfl⟩)
        clear hlen
        go_region_with (first | (go_at_call 24; refine (sum_one (HA.out _ rfl) (by first | exact (alloc_below _ _).drew | exact (Below.refl _ _).drew.alloc (Nat.le_refl _) _ | exact alloc_below _ _) (by first | exact new_block _ _ | exact new_block (World.drew _) _)).mono ?_; rintro e w1 ⟨a1, c1, rfl, o1, b1⟩; have O1 := hid (fun (W : World) (e : W.heap = w1.heap) => o1.heap e); have P1 := hid (HQ.out w1 b1); have B1 := hid b1; clear o1 b1 HQ HA) | (go_at_call 37; refine (equal_any _ _ _ _ _ (P1.out _ rfl) (O1.out _ rfl)).mono ?_; rintro e w2 ⟨rfl, rfl⟩))
        all_goals
          go_wp2
          go_ret2
          refine ⟨B1.out, b, off, c - k, rfl, HE.out.1, ?_⟩
          rw [← HE.out.2, show ((k + n + 4 : Nat) : Int) = (k : Int) + n + 4 by omega]
          rfl
theorem first_none {a : Option Addr} {m c : Nat} {zs : List Int} {w : World} (h : IsB w (.slice a m c) zs) (hn : nextP zs = none) :
    Calls Try.prog 27 #[.slice a m c] w fun e w' => e = .returned (.tuple #[.slice none 0 0, .int .i64 0]) ∧ Below w.heap.size w w' := by
  refine (first_any a m c zs w h).mono ?_
  rintro e w' ⟨hb, h⟩
  rw [hn] at h
  exact ⟨h, hb⟩
theorem first_some {a : Option Addr} {m c : Nat} {zs : List Int} {w : World} (h : IsB w (.slice a m c) zs) {p : List Int} {u : Nat} (hn : nextP zs = some (p, u)) :
    Calls Try.prog 27 #[.slice a m c] w fun e w' => ∃ b off o d, a = some ⟨b, off, none⟩ ∧ IsB w (.slice (some ⟨b, o, none⟩) p.length d) p ∧ e = .returned (.tuple #[.slice (some ⟨b, o, none⟩) p.length d, .int .i64 (u : Int)]) ∧ Below w.heap.size w w' := by
  refine (first_any a m c zs w h).mono ?_
  rintro e w' ⟨hb, h⟩
  rw [hn] at h
  obtain ⟨b, off, d, h1, h2, h3⟩ := h
  exact ⟨b, off, _, d, h1, h2, h3, hb⟩
end Go.Proofs.Ytffopkpbekjanaa
