/- Contract of Parse. -/
import Derived.Test.YthbdghbfhjimkaaU9
import Derived.Test.YthbdghbfhjimkaaU4
namespace Go.Proofs.Ythbdghbfhjimkaa
open Go.RowKit Go.Shelf

theorem hasp_any (t : Tx) (c : UInt8) (w : World) : Calls Try.prog 38 #[.string ⟨t.toArray⟩, .string ⟨#[c]⟩] w fun e w' => e = .returned (.bool (Lib.hasPrefix t [c])) ∧ w' = w := Try.strings_HasPrefix ⟨t.toArray⟩ ⟨#[c]⟩ w
/-- what Parse tells. -/
def MPost (w : World) (R : Option (List Mt × Tx)) (e : Ending) (w' : World) : Prop :=
  Below w.heap.size w w' ∧ match R with
    | none => e = .returned (.tuple #[.slice none 0 0, .string ⟨#[]⟩, .int .i64 80])
    | some (m, t) => ∃ v, e = .returned (.tuple #[v, .string ⟨t.toArray⟩, .int .i64 0]) ∧ OwnM w.heap.size w' v m
theorem mpost_none {w w' : World} (h : Below w.heap.size w w') : MPost w none (.returned (.tuple #[.slice none 0 0, .string ⟨#[]⟩, .int .i64 80])) w' := ⟨h, rfl⟩
theorem takeM_len {s : Tx} {x : Mt} {t : Tx} (h : takeM s = some (x, t)) : t.length + x.1.length + x.2.2.length + 3 ≤ s.length := by
  have := (itemM_len x).1
  rw [takeM_inv h, List.length_append]
  omega
theorem takeA_len {a s : Tx} {x : Mt} {t : Tx} (h : takeA a s = some (x, t)) : t.length + x.1.length + x.2.2.length + 3 ≤ s.length := by
  unfold takeA at h
  split at h
  · have := takeM_len h
    simp at this
    omega
  · cases h
theorem goM_stop {f : Nat} {a t : Tx} {m : List Mt} (h : Lib.hasPrefix t [125] = true) : goM (f + 1) a m t = some (m, t.drop 1) := by
  rw [goM, if_pos h]
theorem goM_none {f : Nat} {a t : Tx} {m : List Mt} (h : Lib.hasPrefix t [125] = false) (hx : takeA a t = none) : goM (f + 1) a m t = none := by
  unfold takeA at hx
  rw [goM, if_neg (by rw [h]; simp)]
  split
  · rename_i hp
    rw [if_pos hp] at hx
    rw [hx]
  · rfl
theorem goM_some {f : Nat} {a t u : Tx} {m : List Mt} {x : Mt} (h : Lib.hasPrefix t [125] = false) (hx : takeA a t = some (x, u)) : goM (f + 1) a m t = if mayM (m ++ [x]) then goM f [44] (m ++ [x]) u else none := by
  unfold takeA at hx
  rw [goM, if_neg (by rw [h]; simp)]
  split at hx
  · rename_i hp
    rw [if_pos hp, hx]
  · cases hx
def lenOfSlice : Value → Nat | .slice _ n _ => n | _ => 0
def leftOf : Value → Value → Nat | .bool true, m => 8 - lenOfSlice m | _, _ => 0
set_option maxRecDepth 100000 in
set_option maxHeartbeats 8000000 in
theorem mparse_any (s : Tx) (w : World) (hs : s.length ≤ 4000000000) : Calls Try.prog 21 #[str s] w (MPost w (parseM s)) := by
  have h1 := hid (prefix_any s 123)
  have htl := hid takeMatcher_any
  have hbox := hid boxM_new
  have hmay := hid mmay_any
  have hpr := hid hasp_any
  have hrl := trim_len s [123]
  have hst : (Lib.hasPrefix s [123] = true → goM 8 [] [] (Lib.trimPrefix s [123]) = parseM s) ∧ (Lib.hasPrefix s [123] = false → none = parseM s) := by
    unfold parseM
    constructor
    · intro h
      rw [if_pos h, trim_yes h]
      rfl
    · intro h
      rw [if_neg (by rw [h]; simp)]
  generalize parseM s = R at *
  generalize Lib.hasPrefix s [123] = k0 at *
  generalize Lib.trimPrefix s [123] = r at *
  replace hst := hid hst
  unfold str at *
  go_enter Try.func21, Try.ntmps21
  go_wp2_with (go_at_call 37; refine (h1.out _).mono ?_; rintro e w' ⟨rfl, hw'⟩; have hw2 := hw'.symm; subst hw2)
  go_loopw [2, 3, 5, 6] (fun mv rv kv av wr => ∃ (m : List Mt) (t a : Tx) (k : Bool), rv = .string ⟨t.toArray⟩ ∧ kv = .bool k ∧ av = .string ⟨a.toArray⟩ ∧ t.length ≤ 4000000000 ∧ m.length ≤ 7 ∧ Hid (OwnM w.heap.size wr mv m) ∧ Hid (Below w.heap.size w wr) ∧ Hid (k = true → m.length ≤ 6 ∧ goM (8 - m.length) a m t = R) ∧ Hid (k = false → none = R)) (fun mv _ kv _ _ => leftOf kv mv)
  case atStart => exact ⟨[], r, [], k0, rfl, rfl, rfl, by omega, by simp, ownM_nil _ _, Below.refl _ _, fun h => ⟨by simp, hst.out.1 h⟩, hst.out.2⟩
  case round =>
    obtain ⟨m, t, a, k, rfl, rfl, rfl, htl5, hm7, ho, hB, hyes, hno⟩ := hrel
    clear hst hrl h1
    obtain ⟨V, rfl⟩ : ∃ V : World, V = wr := ⟨_, rfl⟩
    obtain ⟨mv, mc, rfl⟩ := ho.out.slice
    cases k with
    | false =>
      have hR := hid (hno.out rfl)
      clear ho hyes hno
      go_wp2
      go_ret3
      rw [← hR.out]
      exact mpost_none hB.out
    | true =>
      obtain ⟨hm6, hg⟩ := hyes.out rfl
      obtain ⟨f, hf⟩ : ∃ f, 8 - m.length = f + 1 := ⟨7 - m.length, by omega⟩
      rw [hf] at hg
      clear hno hyes
      have hpre := hid (fun w => hpr.out t 125 w)
      cases hp : Lib.hasPrefix t [125] with
      | true =>
        rw [hp] at hpre
        obtain ⟨u, rfl⟩ := pre_of_one hp
        have hR : Hid (some (m, u) = R) := by
          unfold Hid
          rw [← hg, goM_stop hp]
          rfl
        have e2 : (⟨(125 :: u).toArray⟩ : ByteArray).extract 1 (125 :: u).length = ⟨u.toArray⟩ := by rw [ext_str, List.take_length]; rfl
        have c4 : (1 : Int) ≤ ((125 :: u).length : Int) := by simp; omega
        clear hg hp htl hbox hmay hpr
        generalize (125 :: u : Tx) = z at *
        go_wp2_with (go_at_call 38; refine (hpre.out _).mono ?_; rintro e w' ⟨rfl, hw'⟩; have hw2 := hw'.symm; subst hw2)
        go_quiet (fail)
        have B9 := hid (low' hB.out (below_drewN (n := nq) (Below.refl V.heap.size V)))
        have o9 := hid (ho.out.below (below_drewN (n := nq) (Below.refl V.heap.size V)))
        go_wp2
        go_ret3
        rw [← hR.out]
        exact ⟨B9.out, _, rfl, o9.out⟩
      | false =>
        rw [hp] at hpre
        have hX : ∀ (W : World) (xn : Tx) (xo : UInt8) (xv : Tx), Below (V.alloc (.cells #[.string ⟨#[]⟩, .int .u8 0, .string ⟨#[]⟩] 37)).heap.size (V.alloc (.cells #[.string ⟨#[]⟩, .int .u8 0, .string ⟨#[]⟩] 37)) W → xn.length ≤ 35184372088832 → xv.length ≤ 35184372088832 →
            ∃ a' c' V2, (∀ ty, (Builtin.append_ #[22, 22] ty #[.slice mv m.length mc, .slice (some ⟨W.heap.size, 0, none⟩) 1 1]).run Try.prog ((((W.setCell ⟨V.heap.size, 0, none⟩ (.string ⟨xn.toArray⟩)).setCell ⟨V.heap.size, 1, none⟩ (.int .u8 (xo.toNat : Int))).setCell ⟨V.heap.size, 2, none⟩ (.string ⟨xv.toArray⟩)).alloc (.cells #[.string ⟨xn.toArray⟩, .int .u8 (xo.toNat : Int), .string ⟨xv.toArray⟩] 37)) = .ok (.slice a' (m.length + 1) c') V2) ∧ Hid (OwnM w.heap.size V2 (.slice a' (m.length + 1) c') (m ++ [(xn, xo, xv)])) ∧ Hid (Below w.heap.size w V2) := fun W xn xo xv hW h1 h2 => by
          have hoW := (ho.out.below (alloc_below V (.cells #[.string ⟨#[]⟩, .int .u8 0, .string ⟨#[]⟩] 37))).below hW
          have hoX : OwnM w.heap.size (((W.setCell ⟨V.heap.size, 0, none⟩ (.string ⟨xn.toArray⟩)).setCell ⟨V.heap.size, 1, none⟩ (.int .u8 (xo.toNat : Int))).setCell ⟨V.heap.size, 2, none⟩ (.string ⟨xv.toArray⟩)) (.slice mv m.length mc) m := hoW.keep fun b hb => by
            have := (ho.out.lt hb).2
            rw [heap_set _ _ _ _ _ (by omega), heap_set _ _ _ _ _ (by omega), heap_set _ _ _ _ _ (by omega)]
          have hBX : Below w.heap.size w (((W.setCell ⟨V.heap.size, 0, none⟩ (.string ⟨xn.toArray⟩)).setCell ⟨V.heap.size, 1, none⟩ (.int .u8 (xo.toNat : Int))).setCell ⟨V.heap.size, 2, none⟩ (.string ⟨xv.toArray⟩)) := below_set3 (low' (low' hB.out (alloc_below V (.cells #[.string ⟨#[]⟩, .int .u8 0, .string ⟨#[]⟩] 37))) hW) hB.out.size
          obtain ⟨a', c', V2, hrun, h3, h4⟩ := pushM_run hoX xn xo xv (by unfold maxLen; omega) (by unfold maxLen; omega) (by omega) hBX.size
          refine ⟨a', c', V2, ?_, h3, hBX.trans h4⟩
          rw [size_set, size_set, size_set] at hrun
          exact hrun
        replace hX := hid hX
        clear ho
        go_wp2_with (go_at_call 38; refine (hpre.out _).mono ?_; rintro e w' ⟨rfl, hw'⟩; have hw2 := hw'.symm; subst hw2)
        refine (htl.out t a _ htl5).mono ?_
        cases ht : takeA a t with
        | none =>
          rintro e w1 ⟨rfl, b5⟩
          obtain ⟨q0, q1, q2, q3, q4, q5⟩ := hbox.out V w1 b5
          obtain ⟨a', c', V2, hrun, ho2, hB2⟩ := hX.out w1 [] 0 [] b5 (by simp) (by simp)
          have hR2 : Hid (none = R) := (goM_none hp ht).symm.trans hg
          clear b5 hX hg ht hp
          simp only [matchV, str, opv] at *
          go_wp2_with (at_builtin; refine wpList_append_run _ rfl _ _ 22 rfl _ _ _ _ rfl rfl hrun ?_)
          exact ⟨⟨m ++ [([], 0, [])], [], [44], false, rfl, rfl, rfl, by simp, by simp; omega, ho2, hB2, (fun h => by cases h), fun _ => hR2.out⟩, by simp [leftOf, lenOfSlice]; omega⟩
        | some p =>
          obtain ⟨⟨xn, xo, xv⟩, u⟩ := p
          have hlen := takeA_len ht
          simp only at hlen
          rintro e w1 ⟨rfl, b5⟩
          obtain ⟨q0, q1, q2, q3, q4, q5⟩ := hbox.out V w1 b5
          obtain ⟨a', c', V2, hrun, ho2, hB2⟩ := hX.out w1 xn xo xv b5 (by omega) (by omega)
          have hstep := (goM_some (f := f) (m := m) hp ht).symm.trans hg
          have hm2 := hid (hmay.out (.slice a' (m.length + 1) c') (m ++ [(xn, xo, xv)]) V2 ho2.out.isM)
          clear b5 hX hg ht hp
          cases hm : mayM (m ++ [(xn, xo, xv)]) with
          | false =>
            rw [hm] at hm2 hstep
            have hR2 : Hid (none = R) := hstep
            clear hstep hm
            simp only [matchV, str, opv] at *
            go_wp2_with (first | (at_builtin; refine wpList_append_run _ rfl _ _ 22 rfl _ _ _ _ rfl rfl hrun ?_) | (go_at_call 12; refine hm2.out.mono ?_; rintro e w3 ⟨rfl, b7⟩; replace ho2 := hid (ho2.out.below b7); replace b7 := hid (low' hB2.out b7)))
            exact ⟨⟨m ++ [(xn, xo, xv)], u, [44], false, rfl, rfl, rfl, by omega, by simp; omega, by simpa using ho2, b7, (fun h => by cases h), fun _ => hR2.out⟩, by simp [leftOf, lenOfSlice]; omega⟩
          | true =>
            have hm62 := mayM_len hm
            rw [hm, if_pos rfl] at hstep
            rw [hm] at hm2
            rw [List.length_append, List.length_singleton] at hm62
            replace hstep := hid hstep
            clear hm
            simp only [matchV, str, opv] at *
            go_wp2_with (first | (at_builtin; refine wpList_append_run _ rfl _ _ 22 rfl _ _ _ _ rfl rfl hrun ?_) | (go_at_call 12; refine hm2.out.mono ?_; rintro e w3 ⟨rfl, b7⟩; replace ho2 := hid (ho2.out.below b7); replace b7 := hid (low' hB2.out b7)))
            exact ⟨⟨m ++ [(xn, xo, xv)], u, [44], true, rfl, rfl, rfl, by omega, by simp; omega, by simpa using ho2, b7, (fun _ => ⟨by simp; omega, by rw [← hstep.out]; congr 1; simp; omega⟩), (fun h => by cases h)⟩, by simp [leftOf, lenOfSlice]; omega⟩
end Go.Proofs.Ythbdghbfhjimkaa
