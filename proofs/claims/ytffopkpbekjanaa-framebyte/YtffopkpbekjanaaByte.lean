/- For any slice of bytes, any number and any byte the law FrameByte of the program returns true and leaves the bytes as they were: a frame of which one byte is otherwise is none that is as long, and a proper beginning of one is none. No condition. -/
import Derived.Test.YtffopkpbekjanaaAwake
import Derived.Test.YtffopkpbekjanaaOpen
import Derived.Test.YtffopkpbekjanaaByP
namespace Go.Proofs.Ytffopkpbekjanaa.frameByte
open Go.ChangeShapes Go.WideShapes Go.ChangeAt Go.RowKit
set_option linter.unusedVariables false

theorem below_drewN {w w' : World} {B n : Nat} (h : Below B w w') : Below B w (w'.drewN n) := h.trans ⟨rfl, rfl, rfl, Nat.le_refl _, fun _ _ => rfl⟩
theorem xor8 (z o : Int) (hz : 0 ≤ z ∧ z < 256) (ho : 0 ≤ o ∧ o < 256) : (0 ≤ bits .xor .u8 z o ∧ bits .xor .u8 z o < 256) ∧ (bits .xor .u8 z o = z ↔ o = 0) := by
  obtain ⟨a, rfl⟩ : ∃ a : BitVec 8, z = (a.toNat : Int) := ⟨BitVec.ofInt 8 z, by rw [BitVec.toNat_ofInt]; omega⟩
  obtain ⟨b, rfl⟩ : ∃ b : BitVec 8, o = (b.toNat : Int) := ⟨BitVec.ofInt 8 o, by rw [BitVec.toNat_ofInt]; omega⟩
  have e : bits .xor .u8 (a.toNat : Int) (b.toNat : Int) = ((a ^^^ b).toNat : Int) := by
    show IntKind.u8.wrap (((BitVec.ofInt 8 (a.toNat : Int) ^^^ BitVec.ofInt 8 (b.toNat : Int)).toNat : Nat) : Int) = _
    rw [BitVec.ofInt_natCast, BitVec.ofInt_natCast, BitVec.ofNat_toNat, BitVec.ofNat_toNat, BitVec.setWidth_eq, BitVec.setWidth_eq]
    have := (a ^^^ b).isLt
    rw [IntKind.wrap_u8']
    omega
  rw [e]
  have h1 := (a ^^^ b).isLt
  refine ⟨by omega, ?_, ?_⟩
  · intro h
    have h2 : a ^^^ b = a := BitVec.eq_of_toNat_eq (by omega)
    have h3 : a ^^^ (a ^^^ b) = a ^^^ a := by rw [h2]
    rw [← BitVec.xor_assoc, BitVec.xor_self, BitVec.zero_xor] at h3
    rw [h3]; rfl
  · intro h
    have : b = 0#8 := BitVec.eq_of_toNat_eq (by simpa using h)
    rw [this, BitVec.xor_zero]
theorem at_any (x : Int) (L : Nat) (h : 0 < L) (hb : L ≤ 100000) : ∃ i : Nat, i < L ∧ (wrap64 (x.tmod (L : Int) + (L : Int))).tmod (L : Int) = (i : Int) := by
  have h1 : -(L : Int) < x.tmod L := by
    have h2 := Int.lt_tmod_of_pos x (show (0 : Int) < L by omega)
    omega
  have h3 := Int.tmod_lt_of_pos x (show (0 : Int) < L by omega)
  have h4 : (0 : Int) ≤ (x.tmod L + L).tmod L := Int.tmod_nonneg _ (by omega)
  have h5 := Int.tmod_lt_of_pos (x.tmod L + L) (show (0 : Int) < L by omega)
  have hw : wrap64 (x.tmod L + L) = x.tmod L + L := by unfold wrap64; omega
  rw [hw]
  exact ⟨((x.tmod L + L).tmod L).toNat, by omega, by omega⟩
theorem own_set {B : Nat} {w : World} {g n c : Nat} {zs : List Int} (h : Own B w (.slice (some ⟨g, 0, none⟩) n c) zs) (j : Nat) (x : Int) (hx : 0 ≤ x ∧ x < 256) : Own B (w.setCell ⟨g, j, none⟩ (.int .u8 x)) (.slice (some ⟨g, 0, none⟩) n c) (zs.set j x) := by
  refine ⟨fun z hz => ?_, by simp, ?_⟩
  · rcases List.mem_or_eq_of_mem_set hz with hz | rfl
    · exact h.1 z hz
    · exact hx
  · rcases h.2.2 with ⟨e0, _⟩ | ⟨g', cap, cur, e1, hb, hg, h1, h2, h3, h4⟩
    · cases e0
    · cases e1
      refine .inr ⟨g, c, cur.setIfInBounds j (.int .u8 x), by simp, hb, heap_set_at hg _, by simpa using h1, h2, by simpa using h3, ?_⟩
      rw [Array.toList_setIfInBounds, List.take_set, List.length_set, h4, List.map_set]
set_option maxHeartbeats 4000000 in
theorem walk (v0 : Value) (z0 : List Int) (a1 a2 : Int) (w : World) (h0 : IsB w v0 z0) (h1 : (Lit.int .i64 a1).wf = true) (h2 : (Lit.int .u8 a2).wf = true) :
    Calls Try.prog 6 #[v0, .int .i64 a1, .int .u8 a2] w fun e w' => e = .returned (.bool true) ∧ Below w.heap.size w w' := by
  obtain ⟨a, c, rfl⟩ := h0.slice
  have hb0 := h0.bound
  have h2 := wf_u8 h2
  simp [Lit.wf, IntKind.min, IntKind.max, IntKind.bits, IntKind.signed] at h1
  by_cases hl : 20000 < z0.length
  · have hl' : (20000 : Int) < (z0.length : Int) := by omega
    clear h0
    go_enter Try.func6, Try.ntmps6
    go_wp2_with (go_at_call 18; refine (awake_any _).mono ?_; rintro e w1 ⟨rfl, hb⟩)
    go_ret
    exact ⟨rfl, hb⟩
  have hl' : ¬ (20000 : Int) < (z0.length : Int) := by omega
  have hz := hid h0.byt
  have hP := hid (fr_pos z0)
  have hT := hid (fun k (hk : k < (fr z0).length) => torn h0.byt (by omega) hk)
  have hO := hid (fun i (hi : i < (fr z0).length) (x : Int) (hx : 0 ≤ x ∧ x < 256) (hne : x ≠ (fr z0).getD i 0) (q : List Int) (u : Nat) (h : nextP ((fr z0).set i x) = some (q, u)) => otherwise h0.byt (by omega) hi hx hne h)
  have hN := hid (next_fr (p := z0) (by omega) [])
  rw [List.append_nil] at hN
  replace h0 := hid h0
  have H00 := h0
  go_enter Try.func6, Try.ntmps6
  go_wp2_with fail
  refine (awake_any _).mono ?_
  rintro e w9 ⟨rfl, hb9⟩
  have h9 := hid (h0.out.below hb9)
  have B9 := hid hb9
  clear hb9
  go_wp2_with fail
  refine (encode_any _ _ _ h9.out (by omega)).mono ?_
  rintro e w1 ⟨b1, c1, rfl, o1, l1⟩
  have h91 := hid (h9.out.below l1)
  have B1 := hid (low' B9.out l1)
  replace o1 := hid (o1.base B9.out.size)
  clear l1 h9 B9 h0
  have LL := hP.out
  have LB : (fr z0).length ≤ 30000 := by rw [fr_len, vi_len (by omega)]; unfold wide; split <;> (try split) <;> omega
  obtain ⟨g, rfl, _, k1, k2, k3, k4, hcell, hfz⟩ := o1.out.cell (by omega)
  obtain ⟨L, hL⟩ : ∃ L, L = (fr z0).length := ⟨_, rfl⟩
  rw [← hL] at o1 k1 hcell LL LB hT hO hN ⊢
  replace hL := hid hL
  obtain ⟨i, hi, hat⟩ := at_any a1 L (by omega) (by omega)
  have hL0 : ¬ (L : Int) = 0 := by omega
  have hiL : (i : Int) < (L : Int) := by omega
  have hic : (i : Int) ≤ (c1 : Int) := by omega
  have hzi := hid (o1.out.1 _ (getD_mem (fr z0) i (by rw [← hL.out]; exact hi)))
  have hci := hcell i hi
  have hfi := hfz i
  have hpre := hid (next_no (v := .slice (some ⟨g, 0, none⟩) i c1) (w := w1) (by simpa using o1.out.isB.part 0 i (by omega) (by omega) i c1 (by omega) (by omega) (by unfold maxLen; omega)) (hT.out i hi))
  clear hcell hfz
  go_wp2_with fail
  refine hpre.out.mono ?_
  rintro e w2 ⟨rfl, l2⟩
  have O2 := hid (o1.out.below l2)
  have B2 := hid (low' B1.out l2)
  have h92 := hid (h91.out.below l2)
  have hc2 := (l2.cell (p := ⟨g, i, none⟩) k4).trans hci
  have hf2 := (l2.frozen (p := ⟨g, i, none⟩) k4).trans hfi
  have k42 : g < w2.heap.size := Nat.lt_of_lt_of_le k4 l2.size
  clear l2 hci hfi k4 hpre h91 B1 o1 hT hat
  obtain ⟨z, hz⟩ : ∃ z, z = (fr z0).getD i 0 := ⟨_, rfl⟩
  rw [← hz] at hc2 hzi
  have HZ := hid hz
  clear hz
  obtain ⟨hx, hxz⟩ := xor8 z a2 hzi.out h2
  obtain ⟨x, hxx⟩ : ∃ x, x = bits .xor .u8 z a2 := ⟨_, rfl⟩
  have OX := hid (own_set O2.out i x (by rw [hxx]; exact hx))
  have BX : Hid (Below w.heap.size w (w2.setCell ⟨g, i, none⟩ (.int .u8 x))) := B2.out.setCell (p := ⟨g, i, none⟩) k3 _
  have h9X := hid (H00.out.below BX.out)
  rw [hxx] at OX BX h9X
  clear O2 B2 h92
  go_wp2_with fail
  clear hc2 hf2
  by_cases ha0 : a2 = 0
  · subst ha0
    have e : (fr z0).set i (bits .xor .u8 z 0) = fr z0 := by
      rw [hxz.2 rfl, HZ.out]
      have hil : i < (fr z0).length := by rw [← hL.out]; exact hi
      simp [List.getD, List.getElem?_eq_getElem hil]
    rw [e] at OX
    clear e hxz hx hxx
    have hny := hid (next_yes OX.out.isB hN.out)
    clear hO hN OX
    refine hny.out.mono ?_
    rintro e w3 ⟨a3, c3, rfl, o3, l3⟩
    have O3 := hid o3
    have B3 := hid (low' BX.out l3)
    have h93 := hid (h9X.out.below l3)
    clear hny o3 l3
    go_wp2_with fail
    refine (same_any _ _ _ _ _ h93.out O3.out.isB).mono ?_
    rintro e w4 ⟨rfl, n, rfl⟩
    go_wp2
    go_ret
    exact ⟨rfl, below_drewN B3.out⟩
  · have hne : bits .xor .u8 z a2 ≠ (fr z0).getD i 0 := by rw [← HZ.out]; exact fun e => ha0 (hxz.1 e)
    have ha0' : (a2 == 0) = false := by simpa using ha0
    have hlt := fun q u => hO.out i hi (bits .xor .u8 z a2) hx hne q u
    cases hn : nextP ((fr z0).set i (bits .xor .u8 z a2)) with
    | none =>
      have hno := hid (next_no OX.out.isB hn)
      clear hn hlt hne hx hxx hxz hO hN
      refine hno.out.mono ?_
      rintro e w3 ⟨rfl, l3⟩
      have B3 := hid (low' BX.out l3)
      clear l3 hno
      go_wp2
      go_ret
      exact ⟨rfl, B3.out⟩
    | some y =>
      obtain ⟨q, u⟩ := y
      have hu := hlt q u hn
      have hu' : (u : Int) < (L : Int) := by omega
      have hny := hid (next_yes OX.out.isB hn)
      clear hn hlt hne hx hxx hxz hO hN hu
      refine hny.out.mono ?_
      rintro e w3 ⟨a3, c3, rfl, o3, l3⟩
      have B3 := hid (low' BX.out l3)
      clear l3 hny o3
      go_wp2
      go_ret
      exact ⟨rfl, B3.out⟩

theorem own : ownKnob Try.prog.godebug = none := by kernel_rfl
theorem laidOut : laidOutB Try.prog = true := by kernel_rfl

set_option maxRecDepth 100000 in
theorem lifted (os : Os) (started : os.Started) (H : Type) (enc : TypeId × Value → H) :
    ReturnsInHanded {} Try.checked os 6 .any (Rows.frameByteSpec.pre6 enc Try.prog Try.f6 Rows.frameByteRow.domain false) (Rows.frameByteSpec.post enc Try.prog Try.f6 false true false false) := by
  refine returnsInHanded_of_change (C := Try.checked) own started (by kernel_rfl) Try.func6
    (ChangeSpec.witness6 (enc := enc) (C := Try.checked) false ⟨#[], #[.slice none 0 0, .int .i64 0, .int .u8 0], []⟩ 8 (by kernel_rfl) (by kernel_rfl) (by kernel_rfl) (by kernel_rfl)) ?_
  intro W base args ds gs before hval0 hW hcnd _
  have hval : ∀ (j : Nat) t v, Try.f6.params[j]? = some t → args[j]? = some v → Value.okWide Try.prog W .any base t v := hval0
  have hW' := hW
  obtain ⟨p, q, hA0, hV, rfl, hfz, hnd⟩ := hW
  have hA : DataW.TrodAll enc Try.prog W 0 (fun _ => true) true Try.f6.params.toList args.toList ds p := hA0
  rw [Try.params6] at hA hval
  obtain ⟨v0, vs0, d0, ds0, p0, q0, hargs, rfl, rfl, h0, r0⟩ := trodAll_cons hA
  obtain ⟨v1, vs1, d1, ds1, p1, q1, rfl, rfl, rfl, h1, r1⟩ := trodAll_cons r0
  obtain ⟨v2, vs2, d2, ds2, p2, q2, rfl, rfl, rfl, h2, r2⟩ := trodAll_cons r1
  obtain ⟨rfl, rfl, rfl⟩ := trodAll_nil r2
  obtain rfl : args = #[v0, v1, v2] := by cases args; simp_all
  obtain ⟨rfl, rfl⟩ := trodVars_none hV
  have k0 := h0
  have lt0 : ∀ x ∈ p0, x.block < W.heap.size := by obtain ⟨m, hm⟩ := k0; exact DataW.trod_lt m _ _ _ hm
  obtain ⟨z0, w0⟩ := open_bytes Try.underlying22 Try.underlying5 (by kernel_rfl) (hval 0 22 v0 rfl rfl) h0
  obtain ⟨a1, rfl, rfl, rfl, w1⟩ := open_int Try.underlying3 (hval 1 3 v1 rfl rfl) h1
  obtain ⟨a2, rfl, rfl, rfl, w2⟩ := open_int Try.underlying5 (hval 2 5 v2 rfl rfl) h2
  clear hA0 hval0
  refine (walk v0 z0 a1 a2 W w0 w1 w2).mono fun e W' ⟨he, bel⟩ => ?_
  subst he
  exact ⟨_, rfl, _, _, _, [], _, [], hW', trodAll_mk1 (shut_bool Try.underlying4 _), (trodAll_cons_mk (Below.trod laidOut (by kernel_rfl) (of_decide_eq_true (by kernel_rfl)) k0 bel lt0) (trodAll_cons_mk (shut_int Try.underlying3 w1) (trodAll_cons_mk (shut_int Try.underlying5 w2) trodAll_mk0))), rfl, bel.frame _, fun h => by cases h⟩

theorem over : Rows.frameByteRow.holds Try.pinned (OpenSpec.ofChange Rows.frameByteSpec) :=
  OpenClaim.holds_of_wide 6 Try.f6 rfl rfl rfl rfl rfl rfl rfl ⟨rfl, rfl, rfl, rfl, rfl⟩ rfl rfl rfl rfl rfl (by kernel_rfl) Try.func6 (by kernel_rfl)
    (of_decide_eq_true (by kernel_rfl)) (by unfold Func.isWrapper; first | (rw [if_pos (by decide +kernel)]; kernel_rfl) | (rw [if_neg (by decide +kernel)]; exact ⟨rfl, rfl⟩))
    (fun os started H enc _ => lifted os started H enc)

theorem proved : Rows.FrameByteSaid := over
#print axioms proved

end Go.Proofs.Ytffopkpbekjanaa.frameByte
