/- Contract of Does: Crash, Append; all kinds. -/
import Derived.Test.YtinnegkkfaaceaaPlD
namespace Go.Proofs.Ytinnegkkfaaceaa
open Go.RowKit Go.Maps Go.MapKept Go.Shelf

section
variable {sb rb : Nat} {w : World} {g : Gs} {R : Rs} {t : St}
set_option maxRecDepth 100000 in
set_option maxHeartbeats 2000000 in
theorem does_crash (W : World) (h : Two w.heap.size w W sb g rb R t) (x : ActD) (va : Option Addr) (vc : Nat) (ka : Option Addr) (kc : Nat) (hI : IsI w (.slice ka x.keep.length kc) x.keep) (hkl : x.keep.length ≤ 17592186044416) (ha : t.acts ≤ 1000) (hk : (x.kind : Int) % 10 = 9) :
    Calls Try.prog 13 #[ptr sb, ptr rb, .agg (sixV x va vc ka kc)] W (DoesPost w sb rb t) := by
  have hbx := boxed_mk h (sixV x va vc ka kc)
  have hs1 : (W.alloc (.cells (sixV x va vc ka kc) 33)).heap.size = W.heap.size + 1 := by simp
  have hI0 : IsI (W.alloc (.cells (sixV x va vc ka kc) 33)) (.slice ka x.keep.length kc) x.keep := hI.below hbx.two.low
  obtain ⟨a', c', w2, hrun, hI2, hb2, hfr⟩ := copyI_run hI0 hkl
  rw [hs1] at hrun
  have hbx2 := hbx.below hb2
  have hcl := hid (pair_crash hbx2.two (by omega) hI2 (fun _ b hb e => by have h1 := hfr b hb; rw [hs1] at h1; have := h.is.1.lt e; omega) hI rfl)
  have b0 := hbx.here 0 _ rfl
  have b5 := hbx.here 5 _ rfl
  have b5' : ((W.alloc (.cells (sixV x va vc ka kc) 33)).alloc (.cells #[] 3)).cell? ⟨W.heap.size, 5, none⟩ = some (.slice ka x.keep.length kc) := (World.cell?_alloc_lt _ _ _ (by show W.heap.size < _; omega)).trans b5
  have b5'' := hbx2.here 5 _ rfl
  have fin1 := hid (fun w1 hk => hbx2.one (w1 := w1) hk 5 _ rfl)
  have fin2 := hid (fun e w3 he => And.intro he.1 (hbx2.post (w2 := w3) (e := e) (v := .tuple #[]) (t4 := t.crash x.keep) he (Nat.le_succ _)))
  clear h hbx hbx2 hI hI0 hI2 hb2 hfr hs1
  unfold sixV at *
  unfold ptr str at *
  go_enter Try.func13, Try.ntmps13
  go_wp2_with (first | (at_builtin; refine wpList_append_run _ rfl _ _ 31 rfl _ _ _ _ rfl rfl hrun ?_) | (go_at_call 22; refine hcl.out.mono ?_; rintro e w1 ⟨rfl, hk1, hr⟩; have hb1 := fin1.out w1 hk1; replace hr := hid hr; clear hk1) | (go_at_call 36; refine hr.out.mono ?_; rintro e w3 he; obtain ⟨rfl, hp⟩ := fin2.out _ _ he; replace hp := hid hp; clear he))
  go_ret
  exact hp.out
theorem bv_turned (c : UInt8) : Value.int .u8 (255 - (c.toNat : Int)) = bv (255 - c) := by
  unfold bv
  congr 1
  have h1 := c.toNat_lt
  rw [UInt8.toNat_sub_of_le _ _ (by rw [UInt8.le_iff_toNat_le]; show c.toNat ≤ 255; omega)]
  show 255 - (c.toNat : Int) = ((255 - c.toNat : Nat) : Int)
  omega
set_option maxRecDepth 100000 in
set_option maxHeartbeats 4000000 in
theorem does_append (W : World) (h : Two w.heap.size w W sb g rb R t) (x : ActD) (va : Option Addr) (vc : Nat) (ka : Option Addr) (kc : Nat) (hB : IsB w (.slice va x.b.length vc) x.b) (hbl : x.b.length ≤ 30000) (hn : x.name.length ≤ 30000) (ha : t.acts ≤ 1000) (hk4 : ((x.kind : Int) % 10 == 4) = false) (hk5 : ((x.kind : Int) % 10 == 5) = false) (hk6 : ((x.kind : Int) % 10 == 6) = false) (hk7 : ((x.kind : Int) % 10 == 7) = false) (hk8 : ((x.kind : Int) % 10 == 8) = false) (hk9 : ((x.kind : Int) % 10 == 9) = false) :
    Calls Try.prog 13 #[ptr sb, ptr rb, .agg (sixV x va vc ka kc)] W (DoesPost w sb rb t) := by
  have hbx := boxed_mk h (sixV x va vc ka kc)
  have hs1 : (W.alloc (.cells (sixV x va vc ka kc) 33)).heap.size = W.heap.size + 1 := by simp
  have hB0 : IsB (W.alloc (.cells (sixV x va vc ka kc) 33)) (.slice va x.b.length vc) x.b := hB.below hbx.two.low
  obtain ⟨a', c', w2, hrun, hown, hb2⟩ := copy_run hB0 (by omega)
  rw [hs1] at hrun
  have hbx2 := hbx.below hb2
  have hcl := hid (pair_append hbx2.two (by omega) x.name hn (isB_row hown) hB hbl rfl)
  have b0 := hbx.here 0 _ rfl
  have b3 := hbx.here 3 _ rfl
  have b3' : ((W.alloc (.cells (sixV x va vc ka kc) 33)).alloc (.cells #[] 5)).cell? ⟨W.heap.size, 3, none⟩ = some (.slice va x.b.length vc) := (World.cell?_alloc_lt _ _ _ (by show W.heap.size < _; omega)).trans b3
  have c1 := hbx2.here 1 _ rfl
  have c3 := hbx2.here 3 _ rfl
  have hnf : ∀ k, (Value.slice a' x.b.length c').ownBlock = some k → ¬ foot sb g k ∧ ¬ rfoot rb R k := fun k hk => by
    have h1 := (hown.lt k hk).1
    rw [hs1] at h1
    exact ⟨fun e => by have := h.is.1.lt e; omega, fun e => by have := h.ref.lt e; omega⟩
  have fin1 := hid (fun w1 hk => And.intro (hbx2.one (w1 := w1) hk 1 _ rfl) (hbx2.one (w1 := w1) hk 3 _ rfl))
  have fin2 : Hid (∀ e w3, Ends w.heap.size sb rb w w2 g R (t.append x.name x.b).2 (.int .i64 (t.append x.name x.b).1) e w3 → e = .returned (.int .i64 (t.append x.name x.b).1) ∧ ∃ g' R', (Two w.heap.size w w3 sb g' rb R' (t.append x.name x.b).2 ∧ ∀ k, (Value.slice a' x.b.length c').ownBlock = some k → ¬ foot sb g' k ∧ ¬ rfoot rb R' k) ∧ ∃ bs : List UInt8, bs.length = x.b.length ∧ w3.ownsRow w.heap.size 5 1 (.slice a' x.b.length c') x.b.length (bs.map bv)) := by
    intro e w3 he
    obtain ⟨h1, h2, g', R', h3, h4⟩ := he
    refine ⟨h1, g', R', ⟨h3, fun k hk => ?_⟩, x.b, rfl, ?_⟩
    · have hlt := (hown.lt k hk).2
      constructor
      · intro e
        rcases h4 k (.inl e) with e | e | e
        · exact (hnf k hk).1 e
        · exact (hnf k hk).2 e
        · omega
      · intro e
        rcases h4 k (.inr e) with e | e | e
        · exact (hnf k hk).1 e
        · exact (hnf k hk).2 e
        · omega
    · refine ownsRow_base (ownsRow_block hown fun k hk => h2 k (hown.lt k hk).2 (hnf k hk).1 (hnf k hk).2) fun k hk => ?_
      have h5 := (hown.lt k hk).1
      rw [hs1] at h5
      have := h.is.2.2
      omega
  have hac := hid (acts_append t x.name x.b)
  clear h hbx hbx2 hB hB0 hown hb2 hnf hs1
  generalize (t.append x.name x.b).1 = r at *
  generalize (t.append x.name x.b).2 = t4 at *
  unfold sixV at *
  unfold ptr str at *
  go_enter Try.func13, Try.ntmps13
  go_wp2_with (first | (at_builtin; refine wpList_append_run _ rfl _ _ 30 rfl _ _ _ _ rfl rfl hrun ?_) | (go_at_call 18; refine hcl.out.mono ?_; rintro e w1 ⟨rfl, hk1, hr⟩; obtain ⟨d1, d3⟩ := fin1.out w1 hk1; replace hr := hid hr; clear hk1) | (go_at_call 37; refine hr.out.mono ?_; rintro e w3 he; obtain ⟨rfl, g', R', hp, hst⟩ := fin2.out _ _ he; replace hp := hid hp; replace hst := hid hst; clear he))
  clear hcl hr fin1 fin2 hrun b0 b3 b3' c1 c3 d1 d3
  go_loopw [11] (fun iv V => ∃ (k : Nat) (bs : List UInt8), k ≤ x.b.length ∧ iv = .int .i64 k ∧ bs.length = x.b.length ∧ V.ownsRow w.heap.size 5 1 (.slice a' x.b.length c') x.b.length (bs.map bv) ∧ Two w.heap.size w V sb g' rb R' t4) (fun iv _ => x.b.length - (intOf iv).toNat)
  case atStart =>
    obtain ⟨bs, e1, e2⟩ := hst.out
    exact ⟨0, bs, by omega, rfl, e1, e2, hp.out.1⟩
  case round =>
    obtain ⟨V, rfl⟩ : ∃ V : World, V = wr := ⟨_, rfl⟩
    obtain ⟨k, bs, hk, rfl, hbs, hown, hT⟩ := hrel
    clear hst
    by_cases hkl : k < x.b.length
    · have hkl' : (k : Int) < (x.b.length : Int) := by omega
      obtain ⟨c, hc⟩ : ∃ c, bs[k]? = some c := ⟨_, List.getElem?_eq_getElem (by omega)⟩
      obtain ⟨vb, vc', ev, m1, m2, m3, m4⟩ := filesCrash.row_at hown (j := k) (u := bv c) (by rw [List.getElem?_map, hc]; rfl)
      injection ev with ev1 ev2 ev3
      subst ev1 ev3
      have n1 := filesCrash.row_set hown k (bv (255 - c))
      have n2 := hT.set (hp.out.2 vb rfl).1 (hp.out.2 vb rfl).2 (hown.lt vb rfl).1 k (bv (255 - c))
      have fin : Hid (∃ bs' : List UInt8, bs'.length = x.b.length ∧ (V.setCell ⟨vb, k, none⟩ (.int .u8 (255 - (c.toNat : Int)))).ownsRow w.heap.size 5 1 (.slice (some ⟨vb, 0, none⟩) x.b.length c') x.b.length (bs'.map bv) ∧ Two w.heap.size w (V.setCell ⟨vb, k, none⟩ (.int .u8 (255 - (c.toNat : Int)))) sb g' rb R' t4) := by
        rw [bv_turned]
        exact ⟨bs.set k (255 - c), by rw [List.length_set]; exact hbs, by rw [List.map_set]; exact n1, n2⟩
      have hc256 : (c.toNat : Int) < 256 := by have := c.toNat_lt; omega
      have hc0 : (0 : Int) ≤ (c.toNat : Int) := by omega
      clear hown hT n1 n2 hc hbs m3 m4 ev2
      unfold bv at m1
      generalize (c.toNat : Int) = cz at *
      go_wp2_with fail
      obtain ⟨bs', f1, f2, f3⟩ := fin.out
      exact ⟨⟨k + 1, bs', by omega, by go_num, f1, f2, f3⟩, by simp [intOf]; omega⟩
    · have hkl' : ¬ (k : Int) < (x.b.length : Int) := by omega
      have fin : Hid (DoesPost w sb rb t (.returned (.bool true)) V) := ⟨rfl, g', R', t4, hT, hac.out⟩
      clear hown hT hbs hp hac
      go_wp2
      go_ret
      exact fin.out
theorem does_any (W : World) (h : Two w.heap.size w W sb g rb R t) (x : ActD) (va : Option Addr) (vc : Nat) (ka : Option Addr) (kc : Nat) (hok : ActOk x) (hB : IsB w (.slice va x.b.length vc) x.b) (hI : IsI w (.slice ka x.keep.length kc) x.keep) (hx : x.b.length ≤ 30000 ∧ x.name.length ≤ 30000 ∧ x.other.length ≤ 30000) (hkl : x.keep.length ≤ 17592186044416) (ha : t.acts ≤ 1000) :
    Calls Try.prog 13 #[ptr sb, ptr rb, .agg (sixV x va vc ka kc)] W (DoesPost w sb rb t) := by
  by_cases h4 : (x.kind : Int) % 10 = 4
  · exact does_sync W h x va vc ka kc hx.2.1 ha h4
  by_cases h5 : (x.kind : Int) % 10 = 5
  · exact does_truncate W h x va vc ka kc hx.2.1 ha h5
  by_cases h6 : (x.kind : Int) % 10 = 6
  · exact does_rename W h x va vc ka kc hx.2.1 hx.2.2 ha h6
  by_cases h7 : (x.kind : Int) % 10 = 7
  · exact does_remove W h x va vc ka kc hx.2.1 ha h7
  by_cases h8 : (x.kind : Int) % 10 = 8
  · exact does_power W h x va vc ka kc hok.n h8
  by_cases h9 : (x.kind : Int) % 10 = 9
  · exact does_crash W h x va vc ka kc hI hkl ha h9
  exact does_append W h x va vc ka kc hB hx.1 hx.2.1 ha (beq_eq_false_iff_ne.2 h4) (beq_eq_false_iff_ne.2 h5) (beq_eq_false_iff_ne.2 h6) (beq_eq_false_iff_ne.2 h7) (beq_eq_false_iff_ne.2 h8) (beq_eq_false_iff_ne.2 h9)
end
end Go.Proofs.Ytinnegkkfaaceaa
