/- The walk of FilesPlay. -/
import Derived.Test.YtinnegkkfaaceaaPlE
import Derived.Test.YtinnegkkfaaceaaPlO
import Derived.Test.YtinnegkkfaaceaaCrW
import Derived.Test.YtinnegkkfaaceaaRows
namespace Go.Proofs.Ytinnegkkfaaceaa
namespace filesPlay
open Go.RowKit Go.Maps Go.MapKept Go.Shelf

theorem two_start {w w1 w2 : World} {sb : Nat} {g : Gs} (h1 : Is w.heap.size w1 sb g ⟨[], 0, -1⟩) (L1 : Below w.heap.size w w1) (h2 : RefAt w1.heap.size w2 w1.heap.size R0) (L2 : Below w1.heap.size w1 w2) : Two w.heap.size w w2 sb g w1.heap.size R0 ⟨[], 0, -1⟩ := by
  refine ⟨h1.below L2, ⟨h2.cell, World.ownsRow_nil _ _ _ _, (fun p hp => by cases hp), L1.size, Nat.le_trans L1.size L2.size⟩, rfl, fun k hk hr => ?_, filesCrash.low' L1 L1.size L2⟩
  have := h1.1.lt hk
  rcases hr with rfl | hr | ⟨p, hp, _⟩
  · omega
  · cases hr
  · cases hp
set_option maxRecDepth 100000 in
set_option maxHeartbeats 4000000 in
theorem walk (v : Value) (l : List ActD) (s : ByteArray) (w : World) (hA' : IsActs w v l ∧ ∀ x ∈ l, x.keep.length ≤ 17592186044416) (hs : s.size ≤ maxLen) :
    Calls Try.prog 3 #[v, .string s] w fun e w' => e = .returned (.bool true) ∧ Below w.heap.size w w' := by
  obtain ⟨hA, hkeep⟩ := hA'
  have hml := hA.1
  unfold maxLen at hml hs
  have hg := hid (great_any v l w hA)
  obtain ⟨av, cv, hv⟩ : ∃ a c, v = .slice a l.length c := by obtain ⟨_, a, c, e, _⟩ := hA; exact ⟨a, c, e⟩
  rw [hv] at hA hg ⊢
  replace hA := hid hA
  replace hkeep := hid hkeep
  have hsn : s.size = s.data.toList.length := by show s.data.size = _; simp
  have hstr := hid (str_of s)
  clear hv
  go_enter Try.func3, Try.ntmps3
  go_wp2_with fail
  refine hg.out.mono ?_
  rintro e w3 ⟨r, rfl, hfit, q, rfl⟩
  clear hg
  cases r with
  | true =>
    go_wp2
    go_ret
    exact ⟨rfl, rfl, rfl, rfl, Nat.le_refl _, fun _ _ => rfl⟩
  | false =>
    replace hfit := hid (hfit rfl)
    by_cases hn : 1000 < s.size
    · have hn' : (1000 : Int) < (s.size : Int) := by omega
      clear hsn
      go_wp2
      go_ret
      exact ⟨rfl, rfl, rfl, rfl, Nat.le_refl _, fun _ _ => rfl⟩
    · have hn' : ¬ (1000 : Int) < (s.size : Int) := by omega
      have hnl : s.data.toList.length ≤ 1000 := by omega
      clear hsn
      go_wp2_with fail
      refine (new_t _).mono ?_
      rintro e w1 ⟨rfl, h1, hb1, hs1⟩
      have L1 : Hid (Below w.heap.size w w1) := ⟨hb1.os, hb1.tape, hb1.output, hb1.size, hb1.block⟩
      have h1' : Hid (Is w.heap.size w1 (w.heap.size + 1) (g0 w.heap.size) ⟨[], 0, -1⟩) := h1
      clear h1 hb1 hs1
      generalize g0 w.heap.size = g1 at h1'
      have hsz : (w.drewN q).heap.size + 1 = w.heap.size + 1 := rfl
      rw [hsz]
      clear hsz
      generalize w.heap.size + 1 = sb at h1' ⊢
      unfold ptr
      go_wp2_with fail
      refine (rnew _).mono ?_
      rintro e w2 ⟨rfl, h2, hb2, hs2⟩
      have T := hid (two_start h1'.out L1.out h2 hb2)
      clear h2 hb2 hs2 L1 h1'
      generalize w1.heap.size = rb at T ⊢
      generalize R0 = R1 at T
      have al := hid (alike_any w2 T.out (by decide))
      unfold ptr at al ⊢
      go_wp2_with (go_at_call 12; refine al.out.mono ?_; rintro e w4 ⟨rfl, hb4⟩; replace hb4 := hid hb4)
      have T4 := hid (T.out.below hb4.out)
      clear al T hb4
      go_loopw [7] (fun iv V => ∃ (k : Nat) (g : Gs) (R : Rs) (t : St), k ≤ l.length ∧ iv = .int .i64 k ∧ Two w.heap.size w V sb g rb R t ∧ t.acts ≤ k) (fun iv _ => l.length - (intOf iv).toNat)
      case atStart => exact ⟨0, g1, R1, _, by omega, rfl, T4.out, Nat.le_refl _⟩
      case round =>
        obtain ⟨V, rfl⟩ : ∃ V : World, V = wr := ⟨_, rfl⟩
        obtain ⟨k, g, R, t, hk, rfl, hT, hac⟩ := hrel
        replace hT := hid hT
        clear T4
        have h100 := hfit.out.1
        by_cases hlt : k < l.length
        · have hlt' : (k : Int) < (l.length : Int) := by omega
          obtain ⟨b, off, vb, vk, rfl, hok, hB, hI2, c0, c1, c2, c3, c4, c5⟩ := hA.out.at k hlt
          have hx := filesCrash.Fit.at hfit.out k hlt
          have hkl := hkeep.out l[k] (List.getElem_mem hlt)
          have hlow : ∀ j u, w.cell? ⟨b, off + k * 6 + j, none⟩ = some u → V.cell? ⟨b, off + k * 6 + j, none⟩ = some u := fun j u hu => (hT.out.low.cell (p := ⟨b, off + k * 6 + j, none⟩) (World.block_lt_of_cell? w ⟨b, off + k * 6 + j, none⟩ hu)).trans hu
          replace c0 : V.cell? ⟨b, off + k * 6, none⟩ = some (.int .u8 (l[k].kind : Int)) := hlow 0 _ c0
          replace c1 := hlow 1 _ c1
          replace c2 := hlow 2 _ c2
          replace c3 := hlow 3 _ c3
          replace c4 := hlow 4 _ c4
          replace c5 := hlow 5 _ c5
          obtain ⟨va, vc, rfl⟩ : ∃ a c, vb = .slice a l[k].b.length c := by obtain ⟨_, a, c, e, _⟩ := hB; exact ⟨a, c, e⟩
          obtain ⟨xa, xc, rfl⟩ : ∃ a c, vk = .slice a l[k].keep.length c := by obtain ⟨_, _, a, c, e, _⟩ := hI2; exact ⟨a, c, e⟩
          have dz := hid (does_any V hT.out l[k] va vc xa xc hok hB hI2 hx hkl (by omega))
          have al : Hid (∀ V1 g' R' t', Two w.heap.size w V1 sb g' rb R' t' → t'.acts ≤ t.acts + 1 → Calls Try.prog 12 #[ptr sb, ptr rb] V1 fun e w' => e = .returned (.bool true) ∧ Two w.heap.size w w' sb g' rb R' t') := by
            intro V1 g' R' t' h1 h2
            refine (alike_any V1 h1 (by omega)).mono ?_
            rintro e w' ⟨rfl, hb⟩
            exact ⟨rfl, h1.below hb⟩
          unfold sixV at dz
          clear hlow hB hI2 hok hx hkl hT
          generalize l[k] = x at *
          unfold ptr str at dz
          unfold ptr at al
          unfold str at c1 c2
          go_wp2_with (first | (go_at_call 13; refine dz.out.mono ?_; rintro e w5 ⟨rfl, g', R', t', hT', hac'⟩; replace al := hid (al.out w5 g' R' t' hT' hac'); clear hT') | (go_at_call 12; refine al.out.mono ?_; rintro e w6 ⟨rfl, hT6⟩; replace hT6 := hid hT6))
          exact ⟨⟨k + 1, g', R', t', by omega, by go_num, hT6.out, by omega⟩, by simp [intOf]; omega⟩
        · have hge : ¬ (k : Int) < (l.length : Int) := by omega
          obtain ⟨nm, bs, sy, err, hto, hbl⟩ := hT.out.told (by omega) s.data.toList
          have gt := hid (hto.get V (Below.refl _ _))
          have rd := hid (fun W hi => read_t (B := w.heap.size) (sb := sb) (g := g) W hi s.data.toList (by unfold maxLen; omega) hto.read)
          have sz := hid (fun W hi => size_t (B := w.heap.size) (sb := sb) (g := g) W hi s.data.toList (by unfold maxLen; omega) hto.size)
          have sn := hid (fun W hi => synced_t (B := w.heap.size) (sb := sb) (g := g) W hi s.data.toList (by unfold maxLen; omega) hto.syn)
          rw [← hstr.out] at gt rd sz sn
          clear hto hA hkeep hfit
          unfold ptr at gt rd sz sn
          go_wp2_with fail
          refine gt.out.mono ?_
          rintro e w5 ⟨ga, gc, rfl, hb5, _⟩
          have T5 := hid ((hT.out.below hb5).below (alloc_below w5 (.cells #[str nm, .slice ga bs.length gc, .int .i64 (sy : Int)] 35)))
          have rd5 := hid (rd.out _ T5.out.is)
          unfold str at rd5 T5 ⊢
          clear hb5 gt hT rd
          go_wp2_with fail
          refine rd5.out.mono ?_
          rintro e w6 ⟨ra, rc, rfl, _, hb6⟩
          have T6 := hid (T5.out.below hb6)
          have sz6 := hid (sz.out _ T6.out.is)
          clear hb6 T5 rd5 sz
          go_wp2_with fail
          refine sz6.out.mono ?_
          rintro e w7 ⟨rfl, hb7⟩
          have T7 := hid (T6.out.below hb7)
          have sn7 := hid (sn.out _ T7.out.is)
          clear hb7 T6 sz6 sn
          go_wp2_with fail
          refine sn7.out.mono ?_
          rintro e w8 ⟨rfl, hb8⟩
          have L8 := hid (T7.out.below hb8).low
          clear hb8 T7 sn7
          go_wp2
          go_ret
          exact ⟨rfl, L8.out⟩
end filesPlay
end Go.Proofs.Ytinnegkkfaaceaa
