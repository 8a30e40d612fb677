/- Joined: U1 W1 U2. -/
import Derived.Test.YtjhodmpgggaknaaGreatDoorZGR
import Derived.Test.YtjhodmpgggaknaaGreatDoorZShelf
import Derived.Maps.OwnOps
import Derived.Maps.OwnSet
import Derived.Maps.Views
import Derived.WalkArith
import Derived.Shelf.Abstract
import Derived.WalkMore
import Derived.Deep.RegionHeld3
import Derived.Deep.RegionWith
/- Contract of the map of questions: which function stands at an Op; what each asks. -/
namespace Go.Proofs.YtjhodmpgggaknaaGreatDoor.Mat
open Go.RowKit Go.Shelf Go.Maps

/-- how the map's elements read: a function's number. -/
def fnR (v : Value) : Option (DataW Unit × List MemPlace) :=
  match v with
  | .func (.func k) f c => if f.size = 0 ∧ c.size = 0 then some (.lit (.int .i64 (k : Int)), []) else none
  | .nilFunc => some (.nil, [])
  | _ => none
theorem fnR_inv {v : Value} {k : Nat} {ps : List MemPlace} (h : fnR v = some (.lit (.int .i64 (k : Int)), ps)) : v = .func (.func k) #[] #[] := by
  unfold fnR at h
  split at h
  · split at h
    · rename_i hz
      simp at h
      have e := h.1
      rw [Int.ofNat_inj.1 e, Array.eq_empty_of_size_eq_zero hz.1, Array.eq_empty_of_size_eq_zero hz.2]
    · cases h
  · simp at h
  · cases h
theorem fnR_nil {v : Value} {ps : List MemPlace} (h : fnR v = some (.nil, ps)) : v = .nilFunc := by
  unfold fnR at h
  split at h
  · split at h
    · simp at h
    · cases h
  · rfl
  · cases h
theorem lawU : Keyed Tryz.prog 5 := int_keyed Tryz.underlying5
theorem keyU (o : UInt8) : keyOf Tryz.prog 5 (opv o) = some (.int .u8 (o.toNat : Int)) := keyOf_int_mk Tryz.underlying5 (WalkArith.wf_u8 (by
  have := UInt8.toNat_lt o
  omega))
theorem zeroF (w : World) : (zeroValue 108).run Tryz.prog w = .ok .nilFunc w := by kernel_rfl
def keyAt (n : Nat) : Lit := .int .u8 (n : Int)
def numAt (n : Nat) : DataW Unit := .lit (.int .i64 (n : Int))
def D3 : DataW Unit := (((DataW.map []).put (keyAt 0) (numAt 97)).put (keyAt 1) (numAt 98)).put (keyAt 2) (numAt 99)
/-- the function at an Op. -/
def fnAt (o : UInt8) : Value := if o = 0 then .func (.func 97) #[] #[] else if o = 1 then .func (.func 98) #[] #[] else if o = 2 then .func (.func 99) #[] #[] else .nilFunc
def QsAt (w : World) (b : Nat) : Prop := ∃ n, w.ownsMap Tryz.prog 5 fnR b n D3
theorem isMap0 : IsMap (DataW.map [] : DataW Unit) := ⟨[], rfl⟩
theorem key_ne {a b : Nat} (h : a ≠ b) : keyAt a ≠ keyAt b := by
  unfold keyAt
  intro e
  injection e with e1 e2
  exact h (Int.ofNat_inj.1 e2)
theorem D3_at (o : UInt8) : D3.atKey (keyAt o.toNat) .nil = if o = 0 then numAt 97 else if o = 1 then numAt 98 else if o = 2 then numAt 99 else .nil := by
  have m1 := isMap0.put (keyAt 0) (numAt 97)
  have m2 := m1.put (keyAt 1) (numAt 98)
  have hk : ∀ n, WideAt.IsKeyLit (keyAt n) := fun n => trivial
  unfold D3
  by_cases h2 : o = 2
  · subst h2
    rw [if_neg (by decide), if_neg (by decide), if_pos rfl]
    exact atKey_put_same m2 (hk 2) _ _
  · have n2 : o.toNat ≠ 2 := fun e => h2 (UInt8.toNat_inj.1 e)
    rw [atKey_put_other (key_ne n2)]
    by_cases h1 : o = 1
    · subst h1
      rw [if_neg (by decide), if_pos rfl]
      exact atKey_put_same m1 (hk 1) _ _
    · have n1 : o.toNat ≠ 1 := fun e => h1 (UInt8.toNat_inj.1 e)
      rw [atKey_put_other (key_ne n1)]
      by_cases h0 : o = 0
      · subst h0
        rw [if_pos rfl]
        exact atKey_put_same isMap0 (hk 0) _ _
      · have n0 : o.toNat ≠ 0 := fun e => h0 (UInt8.toNat_inj.1 e)
        rw [atKey_put_other (key_ne n0), if_neg h0, if_neg h1, if_neg h2]
        rfl
theorem look_at {w : World} {b : Nat} (h : QsAt w b) (o : UInt8) : (Instr.lookup 106 (.map (some b)) (opv o) false).run Tryz.prog w = .ok (fnAt o) w := by
  obtain ⟨n, h⟩ := h
  obtain ⟨v, ps, hrun, hv⟩ := h.lookup lawU Tryz.underlying106 (zeroF w) (zd := .nil) (zp := []) rfl (keyU o)
  rw [hrun]
  have e := D3_at o
  unfold keyAt at e
  rw [e] at hv
  unfold fnAt
  by_cases h0 : o = 0
  · rw [if_pos h0] at hv ⊢
    rw [fnR_inv hv]
  · rw [if_neg h0] at hv ⊢
    by_cases h1 : o = 1
    · rw [if_pos h1] at hv ⊢
      rw [fnR_inv hv]
    · rw [if_neg h1] at hv ⊢
      by_cases h2 : o = 2
      · rw [if_pos h2] at hv ⊢
        rw [fnR_inv hv]
      · rw [if_neg h2] at hv ⊢
        rw [fnR_nil hv]
theorem QsAt.lt {w : World} {b : Nat} (h : QsAt w b) : b < w.heap.size := by
  obtain ⟨n, h⟩ := h
  exact h.lt
theorem QsAt.block {w w' : World} {b : Nat} (h : QsAt w b) (hb : w'.heap[b]? = w.heap[b]?) : QsAt w' b := by
  obtain ⟨n, es, clock, h1, h2⟩ := h
  exact ⟨n, es, clock, hb.trans h1, h2⟩
theorem QsAt.below {w w' : World} {b : Nat} (h : QsAt w b) (hb : Below w.heap.size w w') : QsAt w' b := h.block (hb.block b h.lt)
theorem grown_below {w w' : World} {B b : Nat} (h : w.grownBy w' (some b)) (hB : B ≤ w.heap.size) (hb : B ≤ b) : Below B w w' :=
  ⟨h.os, h.tape, h.output, h.size, fun k hk => h.block k (by omega) fun e => by cases e; omega⟩
set_option maxHeartbeats 1000000 in
theorem questions_any (w : World) : Calls Tryz.prog 70 #[] w fun e w' => ∃ b, e = .returned (.map (some b)) ∧ QsAt w' b ∧ Below w.heap.size w w' := by
  have hmm := @run_makeMap Tryz.prog
  have h0 := World.ownsMap_made w Tryz.prog 5 fnR
  have hs0 : (w.alloc (.map #[] 0)).heap.size = w.heap.size + 1 := by simp
  have b0 := alloc_below w (.map #[] 0)
  obtain ⟨w1, r1, h1, g1⟩ := h0.update lawU Tryz.underlying106 (by decide) (keyU 0) (val := .func (.func 97) #[] #[]) (d := numAt 97) (ps := []) rfl
  have b1 := b0.trans (grown_below g1 (by omega) (Nat.le_refl _))
  obtain ⟨w2, r2, h2, g2⟩ := h1.update lawU Tryz.underlying106 (by decide) (keyU 1) (val := .func (.func 98) #[] #[]) (d := numAt 98) (ps := []) rfl
  have b2 := b1.trans (grown_below g2 b1.size (Nat.le_refl _))
  obtain ⟨w3, r3, h3, g3⟩ := h2.update lawU Tryz.underlying106 (by decide) (keyU 2) (val := .func (.func 99) #[] #[]) (d := numAt 99) (ps := []) rfl
  have b3 := hid (b2.trans (grown_below g3 b2.size (Nat.le_refl _)))
  have q3 : Hid (QsAt w3 w.heap.size) := ⟨_, h3⟩
  have e1 : opv 0 = .int .u8 0 := rfl
  have e2 : opv 1 = .int .u8 1 := rfl
  have e3 : opv 2 = .int .u8 2 := rfl
  rw [e1] at r1
  rw [e2] at r2
  rw [e3] at r3
  clear h0 h1 h2 h3 g1 g2 g3 b0 b1 b2 hs0 e1 e2 e3
  go_enter Tryz.func70, Tryz.ntmps70
  go_wp2
  go_ret
  exact ⟨_, rfl, q3.out, b3.out⟩
end Go.Proofs.YtjhodmpgggaknaaGreatDoor.Mat
/- Contracts: which bytes may be; MayName, MayValue. -/
namespace Go.Proofs.YtjhodmpgggaknaaGreatDoor.Mat
open Go.RowKit Go.Shelf

theorem ret_bool {a b : Bool} (h : a = b) : Ending.returned (.bool a) = .returned (.bool b) := by rw [h]
theorem size_of (s : Tx) : (⟨s.toArray⟩ : ByteArray).size = s.length := by simp [ByteArray.size]
theorem get_at {s : Tx} {j : Nat} (h : j < s.length) : (⟨s.toArray⟩ : ByteArray)[j]'(by rw [size_of]; exact h) = s.getD j 0 := by
  simp [List.getD, List.getElem?_eq_getElem h, ByteArray.getElem_eq_getElem_data]
set_option maxHeartbeats 400000 in
theorem letter_any (c : UInt8) (w : World) : Calls Tryz.prog 102 #[.int .u8 (c.toNat : Int)] w fun e w' => e = .returned (.bool (low c)) ∧ w' = w := by
  have hl : Hid (low c = (decide (97 ≤ c.toNat) && decide (c.toNat ≤ 122))) := rfl
  generalize low c = b at *
  by_cases h1 : 97 ≤ c.toNat
  · have h1' : (97 : Int) ≤ (c.toNat : Int) := by omega
    by_cases h2 : c.toNat ≤ 122
    · have h2' : (c.toNat : Int) ≤ 122 := by omega
      have e := hl.out
      rw [decide_eq_true h1, decide_eq_true h2] at e
      subst e
      clear hl h1 h2
      go_enter Tryz.func102, Tryz.ntmps102
      go_wp2
      go_ret
      exact ⟨rfl, rfl⟩
    · have h2' : ¬ (c.toNat : Int) ≤ 122 := by omega
      have e := hl.out
      rw [decide_eq_true h1, decide_eq_false h2] at e
      subst e
      clear hl h1 h2
      go_enter Tryz.func102, Tryz.ntmps102
      go_wp2
      go_ret
      exact ⟨rfl, rfl⟩
  · have h1' : ¬ (97 : Int) ≤ (c.toNat : Int) := by omega
    have e := hl.out
    rw [decide_eq_false h1] at e
    subst e
    clear hl h1
    go_enter Tryz.func102, Tryz.ntmps102
    go_wp2
    go_ret
    exact ⟨rfl, rfl⟩
set_option maxHeartbeats 1000000 in
theorem maybe_any (f : UInt8 → Bool) (k : Nat) (lb : Array Value) (ek : Enters Tryz.prog k) (hc : ∀ c w, Calls Tryz.prog k (#[.int .u8 (UInt8.toNat c : Int)] ++ lb) w fun e w' => e = .returned (.bool (f c)) ∧ w' = w) (s : Tx) (most : Nat) (hs : s.length ≤ 9223372036854775807) (w : World) :
    Calls Tryz.prog 100 #[str s, .int .i64 (most : Int), .func (.func k) #[] lb] w fun e w' => e = .returned (.bool (mayB most f s)) ∧ w' = w := by
  replace hc := hid hc
  have ek' : ∀ (args : Array Value) (w : World), (callFunc k args).run Tryz.prog w = .ok (.enter k args) w := ek
  by_cases h0 : s = []
  · subst h0
    unfold str
    go_enter Tryz.func100, Tryz.ntmps100
    go_wp2
    go_ret
    exact ⟨rfl, rfl⟩
  have h0' : s.isEmpty = false := by cases s <;> simp_all
  by_cases h1 : most < s.length
  · have e : mayB most f s = false := by
      unfold mayB
      rw [decide_eq_false (by omega : ¬ s.length ≤ most)]
      simp
    rw [e]
    unfold str
    go_enter Tryz.func100, Tryz.ntmps100
    go_wp2
    go_ret
    exact ⟨rfl, rfl⟩
  have h1' : ¬ (most : Int) < (s.length : Int) := by omega
  unfold str
  go_enter Tryz.func100, Tryz.ntmps100
  go_wp2
  go_loop [18] (fun iv => ∃ j : Nat, j ≤ s.length ∧ iv = .int .i64 j ∧ Hid (∀ i, i < j → f (s.getD i 0) = true)) (fun iv => s.length - (intOf iv).toNat)
  case atStart => exact ⟨0, by omega, rfl, fun i hi => by omega⟩
  case round =>
    obtain ⟨j, hj, rfl, hp⟩ := hrel
    by_cases hlt : j < s.length
    · have hlt' : (j : Int) < (s.length : Int) := by omega
      have hget := get_at hlt
      obtain ⟨c, hcd⟩ : ∃ c, c = s.getD j 0 := ⟨_, rfl⟩
      rw [← hcd] at hget
      cases hf : f c
      · have e : Hid (false = mayB most f s) := by
          unfold Hid mayB
          rw [List.all_eq_false.2 ⟨c, by rw [hcd]; simp [List.getD, List.getElem?_eq_getElem hlt], by rw [hf]; simp⟩]
          simp
        clear hp hcd
        go_wp2_with (go_at_fn k; refine (hc.out _ _).mono ?_; rintro e w' ⟨rfl, rfl⟩)
        go_ret
        exact ⟨ret_bool e.out, rfl⟩
      · have hp' : Hid (∀ i, i < j + 1 → f (s.getD i 0) = true) := fun i hi => by
          by_cases h : i = j
          · subst h; rw [← hcd]; exact hf
          · exact hp.out i (by omega)
        clear hp hcd
        go_wp2_with (go_at_fn k; refine (hc.out _ _).mono ?_; rintro e w' ⟨rfl, rfl⟩)
        exact ⟨⟨j + 1, by omega, by go_num, hp'⟩, by simp [intOf]; omega⟩
    · have hlt' : ¬ (j : Int) < (s.length : Int) := by omega
      obtain rfl : j = s.length := by omega
      have e : Hid (true = mayB most f s) := by
        unfold Hid
        symm
        rw [mayB_iff]
        refine ⟨h0, by omega, fun c hc => ?_⟩
        obtain ⟨i, hi⟩ := List.mem_iff_getElem?.1 hc
        have := hp.out i (List.getElem?_eq_some_iff.1 hi).1
        simpa [List.getD, hi] using this
      clear hp
      go_wp2
      go_ret
      exact ⟨ret_bool e.out, rfl⟩
theorem e_ofName : Enters Tryz.prog 101 := enters_of Tryz.func101 (by kernel_rfl) rfl
theorem e_ofValue : Enters Tryz.prog 127 := enters_of Tryz.func127 (by kernel_rfl) rfl
set_option maxHeartbeats 1000000 in
theorem ofName_any (c : UInt8) (w : World) : Calls Tryz.prog 101 #[.int .u8 (c.toNat : Int)] w fun e w' => e = .returned (.bool (nmc c)) ∧ w' = w := by
  have hl : Hid (nmc c = (low c || (decide (48 ≤ c.toNat) && decide (c.toNat ≤ 57)) || c.toNat == 95)) := rfl
  have hlo := hid (letter_any c)
  generalize nmc c = b at *
  cases hb : low c
  · rw [hb] at hlo hl
    clear hb
    by_cases h1 : 48 ≤ c.toNat
    · have h1' : (48 : Int) ≤ (c.toNat : Int) := by omega
      by_cases h2 : c.toNat ≤ 57
      · have h2' : (c.toNat : Int) ≤ 57 := by omega
        have e := hl.out
        rw [decide_eq_true h1, decide_eq_true h2] at e
        simp at e
        subst e
        clear hl h1 h2
        go_enter Tryz.func101, Tryz.ntmps101
        go_wp2_with (go_at_call 102; refine (hlo.out _).mono ?_; rintro e w' ⟨rfl, rfl⟩)
        go_ret
        exact ⟨rfl, rfl⟩
      · have h2' : decide ((c.toNat : Int) ≤ 57) = false := by simp; omega
        have e := hl.out
        rw [decide_eq_false h2] at e
        simp at e
        by_cases h3 : c.toNat = 95
        · have h3' : ((c.toNat : Int) == 95) = true := by simp; omega
          have : (c.toNat == 95) = true := by simpa using h3
          have e' : b = true := by rw [e]; simpa using h3
          subst e'
          clear hl h1 h2 h3 e this
          go_enter Tryz.func101, Tryz.ntmps101
          go_wp2_with (go_at_call 102; refine (hlo.out _).mono ?_; rintro e w' ⟨rfl, rfl⟩)
          go_ret
          exact ⟨rfl, rfl⟩
        · have h3' : ((c.toNat : Int) == 95) = false := by simp; omega
          have e' : b = false := by rw [e]; simpa using h3
          subst e'
          clear hl h1 h2 h3 e
          go_enter Tryz.func101, Tryz.ntmps101
          go_wp2_with (go_at_call 102; refine (hlo.out _).mono ?_; rintro e w' ⟨rfl, rfl⟩)
          go_ret
          exact ⟨rfl, rfl⟩
    · have h1' : ¬ (48 : Int) ≤ (c.toNat : Int) := by omega
      have h2' : (c.toNat : Int) ≤ 57 := by omega
      have h3' : ((c.toNat : Int) == 95) = false := by simp; omega
      have e := hl.out
      have h3 : (c.toNat == 95) = false := by simp; omega
      rw [decide_eq_false h1, h3] at e
      simp at e
      subst e
      clear hl h1 h3
      go_enter Tryz.func101, Tryz.ntmps101
      go_wp2_with (go_at_call 102; refine (hlo.out _).mono ?_; rintro e w' ⟨rfl, rfl⟩)
      go_ret
      exact ⟨rfl, rfl⟩
  · rw [hb] at hlo hl
    have e := hl.out
    simp at e
    subst e
    clear hl hb
    go_enter Tryz.func101, Tryz.ntmps101
    go_wp2_with (go_at_call 102; refine (hlo.out _).mono ?_; rintro e w' ⟨rfl, rfl⟩)
    go_ret
    exact ⟨rfl, rfl⟩
set_option maxHeartbeats 400000 in
theorem ofValue_any (c : UInt8) (w : World) : Calls Tryz.prog 127 #[.int .u8 (c.toNat : Int)] w fun e w' => e = .returned (.bool (vlc c)) ∧ w' = w := by
  have hl : Hid (vlc c = (decide (32 ≤ c.toNat) && decide (c.toNat ≤ 126))) := rfl
  generalize vlc c = b at *
  by_cases h1 : 32 ≤ c.toNat
  · have h1' : (32 : Int) ≤ (c.toNat : Int) := by omega
    by_cases h2 : c.toNat ≤ 126
    · have h2' : (c.toNat : Int) ≤ 126 := by omega
      have e := hl.out
      rw [decide_eq_true h1, decide_eq_true h2] at e
      subst e
      clear hl h1 h2
      go_enter Tryz.func127, Tryz.ntmps127
      go_wp2
      go_ret
      exact ⟨rfl, rfl⟩
    · have h2' : ¬ (c.toNat : Int) ≤ 126 := by omega
      have e := hl.out
      rw [decide_eq_true h1, decide_eq_false h2] at e
      subst e
      clear hl h1 h2
      go_enter Tryz.func127, Tryz.ntmps127
      go_wp2
      go_ret
      exact ⟨rfl, rfl⟩
  · have h1' : ¬ (32 : Int) ≤ (c.toNat : Int) := by omega
    have e := hl.out
    rw [decide_eq_false h1] at e
    subst e
    clear hl h1
    go_enter Tryz.func127, Tryz.ntmps127
    go_wp2
    go_ret
    exact ⟨rfl, rfl⟩
set_option maxHeartbeats 400000 in
theorem mayName_any (s : Tx) (w : World) (hs : s.length ≤ 9223372036854775807) : Calls Tryz.prog 71 #[str s] w fun e w' => e = .returned (.bool (mayN s)) ∧ w' = w := by
  have hm := hid (maybe_any nmc _ #[] e_ofName (fun c w => ofName_any c w) s 16 hs w)
  have hl : Hid (mayN s = (mayB 16 nmc s && low (s.headD 0))) := rfl
  generalize mayN s = b at *
  unfold str at *
  cases hb : mayB 16 nmc s
  · rw [hb] at hm hl
    have e := hl.out
    simp at e
    subst e
    clear hl hb
    go_enter Tryz.func71, Tryz.ntmps71
    go_wp2_with (go_at_call 100; refine hm.out.mono ?_; rintro e w' ⟨rfl, rfl⟩)
    go_ret
    exact ⟨rfl, rfl⟩
  · rw [hb] at hm hl
    have h0 := (mayB_iff.1 hb).1
    cases s with
    | nil => exact absurd rfl h0
    | cons c t =>
      have e := hl.out
      have hget : (⟨(c :: t).toArray⟩ : ByteArray)[0]'(by simp [ByteArray.size]) = c := rfl
      have hlo := hid (letter_any c)
      simp only [List.headD_cons, Bool.true_and] at e
      rw [← e] at hlo
      clear hl hb h0 e
      go_enter Tryz.func71, Tryz.ntmps71
      go_wp2_with (first | (go_at_call 100; refine hm.out.mono ?_; rintro e w' ⟨rfl, rfl⟩) | (go_at_call 102; refine (hlo.out _).mono ?_; rintro e w' ⟨rfl, rfl⟩))
      go_ret
      exact ⟨rfl, rfl⟩
set_option maxHeartbeats 400000 in
theorem mayValue_any (s : Tx) (w : World) (hs : s.length ≤ 9223372036854775807) : Calls Tryz.prog 103 #[str s] w fun e w' => e = .returned (.bool (mayV s)) ∧ w' = w := by
  have hm := hid (maybe_any vlc _ #[] e_ofValue (fun c w => ofValue_any c w) s 32 hs w)
  have hl : Hid (mayB 32 vlc s = mayV s) := rfl
  rw [hl.out] at hm
  clear hl
  unfold str at *
  go_enter Tryz.func103, Tryz.ntmps103
  go_wp2_with (go_at_call 100; refine hm.out.mono ?_; rintro e w' ⟨rfl, rfl⟩)
  go_ret
  exact ⟨rfl, rfl⟩
end Go.Proofs.YtjhodmpgggaknaaGreatDoor.Mat
/- Contracts of what each Op asks; of Does. -/
namespace Go.Proofs.YtjhodmpgggaknaaGreatDoor.Mat
open Go.RowKit Go.Shelf Go.Maps

theorem q1_any (a b : Tx) (w : World) : Calls Tryz.prog 97 #[str a, str b] w fun e w' => e = .returned (.bool (a == b)) ∧ w' = w := by
  unfold str
  go_enter Tryz.func97, Tryz.ntmps97
  go_wp2
  go_ret
  exact ⟨rfl, rfl⟩
theorem q2_any (a b : Tx) (w : World) : Calls Tryz.prog 98 #[str a, str b] w fun e w' => e = .returned (.bool (a != b)) ∧ w' = w := by
  unfold str
  go_enter Tryz.func98, Tryz.ntmps98
  go_wp2
  go_ret
  exact ⟨rfl, rfl⟩
theorem e_q1 : Enters Tryz.prog 97 := enters_of Tryz.func97 (by kernel_rfl) rfl
theorem e_q2 : Enters Tryz.prog 98 := enters_of Tryz.func98 (by kernel_rfl) rfl
theorem e_q3 : Enters Tryz.prog 99 := enters_of Tryz.func99 (by kernel_rfl) rfl
theorem ask_any {o : UInt8} (h : o.toNat ≤ 2) : ∃ k, fnAt o = .func (.func k) #[] #[] ∧ Enters Tryz.prog k ∧ ∀ a b w, Calls Tryz.prog k #[str a, str b] w fun e w' => e = .returned (.bool (asks o a b)) ∧ w' = w := by
  rcases op_cases h with rfl | rfl | rfl
  · exact ⟨_, rfl, e_q1, q1_any⟩
  · exact ⟨_, rfl, e_q2, q2_any⟩
  · exact ⟨_, rfl, e_q3, fun a b w => Tryz.strings_HasPrefix ⟨a.toArray⟩ ⟨b.toArray⟩ w⟩
theorem ask_none {o : UInt8} (h : ¬ o.toNat ≤ 2) : fnAt o = .nilFunc ∧ ∀ a b, asks o a b = false := by
  have h0 : o ≠ 0 := by rintro rfl; exact h (by decide)
  have h1 : o ≠ 1 := by rintro rfl; exact h (by decide)
  have h2 : o ≠ 2 := by rintro rfl; exact h (by decide)
  unfold fnAt asks
  simp [h0, h1, h2]
theorem eq_fn (k : FuncId) (W : World) : (binOp .eql 108 (.func (.func k) #[] #[]) .nilFunc).run Tryz.prog W = .ok (.bool false) W := by
  kernel_rfl
theorem eq_nil (W : World) : (binOp .eql 108 .nilFunc .nilFunc).run Tryz.prog W = .ok (.bool true) W := by
  kernel_rfl
end Go.Proofs.YtjhodmpgggaknaaGreatDoor.Mat
