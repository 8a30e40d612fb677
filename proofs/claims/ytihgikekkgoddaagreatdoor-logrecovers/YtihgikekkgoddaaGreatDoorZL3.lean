/- Contracts of the function that goes over the log's files. -/
import Derived.Test.YtihgikekkgoddaaGreatDoorZL2
import Derived.Test.YtihgikekkgoddaaGreatDoorZLR
import Derived.Test.YtihgikekkgoddaaGreatDoorZSe
namespace Go.Proofs.YtihgikekkgoddaaGreatDoor
open Go.RowKit Go.Shelf Sto
attribute [local go_sem] Oper.semAt_some

def namesOf (t : St) : List (List UInt8) := t.l.map Ent.name
theorem names_len (t : St) : (namesOf t).length = t.l.length := by simp [namesOf]
theorem names_is {B sb : Nat} {g : Gs} {t : St} (w : World) (h : Is B w sb g t) :
    Calls Tryz.prog 45 #[ptr sb] w fun e w' => ∃ a c, e = .returned (.slice a (namesOf t).length c) ∧ w'.ownsRow w.heap.size 9 1 (.slice a (namesOf t).length c) (namesOf t).length ((namesOf t).map str) ∧ Below w.heap.size w w' := by
  have e : names g.l = namesOf t := by rw [← h.2.1]; simp [names, namesOf, Gs.abs, Fg.e]
  have := names_any w h.1
  rw [e] at this
  exact this
/-- the log's files in the store. -/
noncomputable def ownT (p : List UInt8) (t : St) : List (List UInt8 × Part) := ownOf p (namesOf t)
def Yown (l : List (List UInt8 × Part)) (k : Nat) (args : Array Value) : Prop := ∃ nm q, l[k]? = some (nm, q) ∧ args = #[str nm, partV q]
def DatOwn (bx lb : Nat) (p : List UInt8) (A : World) : Prop := A.cell? ⟨bx, 0, none⟩ = some (ptr lb) ∧ A.cell? ⟨lb, 1, none⟩ = some (str p)
theorem own_split (p : List UInt8) (l : List (List UInt8)) (i : Nat) (hi : i < l.length) : ownOf p l = ownOf p (l.take i) ++ ownOf p (l[i] :: l.drop (i + 1)) := by
  have : l = l.take i ++ l[i] :: l.drop (i + 1) := by rw [← List.drop_eq_getElem_cons hi, List.take_append_drop]
  conv => lhs; rw [this]
  unfold ownOf
  rw [List.filterMap_append]
theorem own_take_no {p : List UInt8} {l : List (List UInt8)} {i : Nat} (hi : i < l.length) (h : decode p l[i] = none) : ownOf p (l.take (i + 1)) = ownOf p (l.take i) := by
  rw [List.take_succ_eq_append_getElem hi]
  unfold ownOf
  rw [List.filterMap_append]
  simp [h]
theorem own_take_yes {p : List UInt8} {l : List (List UInt8)} {i : Nat} (hi : i < l.length) {q : Part} (h : decode p l[i] = some q) : ownOf p (l.take (i + 1)) = ownOf p (l.take i) ++ [(l[i], q)] := by
  rw [List.take_succ_eq_append_getElem hi]
  unfold ownOf
  rw [List.filterMap_append]
  simp [h]
theorem own_at {p : List UInt8} {l : List (List UInt8)} {i : Nat} (hi : i < l.length) {q : Part} (h : decode p l[i] = some q) : (ownOf p l)[(ownOf p (l.take i)).length]? = some (l[i], q) := by
  rw [own_split p l i hi, own_cons_yes h]
  simp
theorem row_at {w : World} {base : Nat} {a : Option Addr} {c : Nat} {ns : List (List UInt8)} (h : w.ownsRow base 9 1 (.slice a ns.length c) ns.length (ns.map str)) : ns.length = 0 ∨ ∃ b, a = some ⟨b, 0, none⟩ ∧ ns.length ≤ c ∧ c ≤ maxLen ∧ base ≤ b ∧ b < w.heap.size ∧ ∀ (i : Nat) (hi : i < ns.length), w.cell? ⟨b, i, none⟩ = some (str ns[i]) := by
  rcases h.2 with ⟨_, h0⟩ | ⟨g, cap, cur, e, h1, h2, h3, h4, rest⟩
  · exact .inl h0
  · right
    cases e
    refine ⟨g, rfl, h3, h4, h1, lt_of_block h2, fun i hi => ?_⟩
    have := h.cells (g := g) rfl i (str ns[i]) (by simp [hi])
    rwa [Addr.add_lit, Nat.zero_add] at this
set_option maxHeartbeats 400000 in
theorem own_any (w : World) (lb : Nat) : Calls Tryz.prog 51 #[ptr lb] w fun e w' => e = .returned (.func (.func 80) #[] #[.pointer (some ⟨w.heap.size, 0, none⟩)]) ∧ w' = w.alloc (.cells #[ptr lb] 24) := by
  unfold ptr
  go_enter Tryz.func51, Tryz.ntmps51
  go_wp2
  go_ret
  exact ⟨rfl, rfl⟩
set_option maxRecDepth 100000 in
set_option maxHeartbeats 4000000 in
theorem own_gives (w0 : World) {B sb bx lb : Nat} {g : Gs} {t : St} {x : Lg} (hI : Is B w0 sb g t) (hL : LogAt w0 lb x) (hsb : x.sb = sb) (hbx : w0.cell? ⟨bx, 0, none⟩ = some (ptr lb)) (hgood : Good x.p (namesOf t)) :
    Gives2 Tryz.prog 80 #[.pointer (some ⟨bx, 0, none⟩)] (ownT x.p t).length (Yown (ownT x.p t)) (DatOwn bx lb x.p) w0 := by
  intro lp J Jx W hW hJ hJx hY hD h0
  have hIW := hI.below (hW.mono (by first | exact Nat.le_refl _))
  have cb : W.cell? ⟨bx, 0, none⟩ = some (ptr lb) := (hW.cell (p := ⟨bx, 0, none⟩) (World.block_lt_of_cell? w0 ⟨bx, 0, none⟩ hbx)).trans hbx
  have cs : W.cell? ⟨lb, 0, none⟩ = some (ptr x.sb) := ((hL.below hW).cells).1
  rw [hsb] at cs
  have hn := hid (fun V (hV : Below W.heap.size W V) => names_is V (hIW.below hV))
  unfold ownT at *
  clear hI hL hsb hbx hIW
  generalize namesOf t = ns at *
  generalize x.p = p at *
  refine (callsIn_wide (n := 9)).1 ?_
  refine callsIn_of_wp Tryz.func80 rfl trivial ?_ rfl
  simp only [Tryz.ntmps80, List.size_toArray, List.length_cons, List.length_nil, Nat.reduceAdd, Nat.reduceSub, Array.replicate_succ, Array.replicate_zero, List.push_toArray, List.append_toArray, List.nil_append, List.cons_append]
  unfold ptr at *
  gi_wp2_with fail
  refine ⟨trivial, (callsIn_wide.2 (hn.out _ (Below.refl _ _))).mono ?_⟩
  rintro e w1 ⟨a, c, rfl, hrow, hb1⟩
  have hhi : W.heap.size ≤ w1.heap.size := hb1.size
  have hrl := hid (fun b (hb : (Value.slice a ns.length c).ownBlock = some b) => hrow.lt b hb)
  have hcells := hid (row_at hrow)
  have HB1 := hid hb1
  clear hrow hb1 hn cs
  gi_wp2_with fail
  gi_loopw [15] (fun iv wr => ∃ (i : Nat), i ≤ ns.length ∧ iv = .int .i64 (i : Int) ∧ J w1.heap.size (ownOf p (ns.take i)).length wr ∧ w1.heap.size ≤ wr.heap.size ∧ ∀ b, W.heap.size ≤ b → b < w1.heap.size → wr.heap[b]? = w1.heap[b]?) (fun iv _ => ns.length - (intOf iv).toNat)
  case atStart => exact ⟨0, Nat.zero_le _, rfl, hJ _ _ _ _ (h0 _ hhi) HB1.out, Nat.le_refl _, fun _ _ _ => rfl⟩
  case round =>
    obtain ⟨i, hi, rfl, hJi, hsz, hkp⟩ := hrel
    have hsz2 := hid hsz
    by_cases hlt : i < ns.length
    · obtain ⟨b, rfl, hlc, hcm, hbb, hbl, hcs⟩ := hcells.out.resolve_left (by omega)
      have hcell : wr.cell? ⟨b, i, none⟩ = some (str ns[i]) := (World.cell?_of_block (a := ⟨b, i, none⟩) (hkp b hbb hbl)).trans (hcs i hlt)
      obtain ⟨d0, d1⟩ := hD _ _ _ hJi
      have hit : decide ((i : Int) < (ns.length : Int)) = true := by simp; omega
      have hi9 : (i : Int) + 1 ≤ 9223372036854775807 := by unfold maxLen at hcm; omega
      have hJi' := hid hJi
      have hkp' := hid hkp
      replace hcs := hid hcs
      cases hdc : decode p ns[i] with
      | none =>
        have hnp : ¬ p <+: ns[i] := fun h => by
          obtain ⟨q, hq, e⟩ := hgood ns[i] (List.getElem_mem hlt) h
          rw [e, decode_yes p hq] at hdc; cases hdc
        have hcut := hid (cut_no wr p ns[i] hnp)
        have hnx := hid (own_take_no hlt hdc)
        clear hdc hnp hJi hkp
        unfold str ptr at *
        generalize ns[i] = nm at *
        gi_wp2_with fail
        refine ⟨trivial, (callsIn_wide.2 hcut.out).mono ?_⟩
        rintro e w2 ⟨rfl, rfl⟩
        gi_wp2
        exact ⟨⟨i + 1, by omega, rfl, by rw [hnx.out]; exact hJi'.out, hsz, hkp'.out⟩, by simp [intOf]; omega⟩
      | some q =>
        obtain ⟨hq, hnm⟩ := decode_some hdc
        have hcut := hid (cut_yes wr p q.text)
        have hpo := hid (partOf_yes wr q hq)
        have hnx := hid (congrArg List.length (own_take_yes hlt hdc))
        have hk : (ownOf p (ns.take i)).length < (ownOf p ns).length := by
          have := own_at hlt hdc
          exact (List.getElem?_eq_some_iff.1 this).1
        have hYY := hid (fun (V : World) (hV : Below wr.heap.size wr V) => hY w1.heap.size _ #[str ns[i], partV q] V hk hhi (Nat.le_trans hsz hV.size) (hJ _ _ _ _ hJi'.out hV) ⟨ns[i], q, own_at hlt hdc, rfl⟩ 8)
        have hm : Hid (p ++ q.text = ns[i]) := hnm.symm
        have hk0 : Hid ((ownOf p (ns.take i)).length + 1 ≤ (ownOf p ns).length) := hk
        clear hdc hJi hkp hY hk hnm
        rw [hm.out] at hcut
        unfold str ptr partV str at *
        generalize ns[i] = nm at *
        generalize q.text = rest at *
        gi_wp2_with fail
        refine ⟨trivial, (callsIn_wide.2 hcut.out).mono ?_⟩
        rintro e w2 ⟨rfl, rfl⟩
        gi_wp2_with fail
        refine ⟨trivial, (callsIn_wide.2 hpo.out).mono ?_⟩
        rintro e w3 ⟨rfl, hb3⟩
        obtain ⟨fn, tmps, assign, body, hy, hR⟩ := hYY.out (w3.alloc (.cells #[.string ⟨q.kind.toArray⟩, .int .i64 (q.num : Int)] 88)) (hb3.alloc hb3.size _)
        have HB3 := hid (hb3.alloc hb3.size (.cells #[.string ⟨q.kind.toArray⟩, .int .i64 (q.num : Int)] 88))
        clear hb3 hpo hcut hYY
        gi_wp2
        refine hR.mono ?_
        rintro e W3 ⟨⟨hz3, hk3⟩, (⟨rfl, hJ3⟩ | ⟨rfl, hJ3⟩)⟩
        · have hkp3 : Hid (∀ b, W.heap.size ≤ b → b < w1.heap.size → W3.heap[b]? = w1.heap[b]?) := fun b h1 h2 => by
            rw [hk3 b h1 h2, HB3.out.block b (by have := hsz2.out; omega), hkp'.out b h1 h2]
          have hz4 : Hid (w1.heap.size ≤ W3.heap.size) := Nat.le_trans (Nat.le_trans hsz2.out HB3.out.size) hz3
          replace hJ3 := hid hJ3
          clear hk3 hz3 hy hR
          gi_wp2
          exact ⟨⟨i + 1, by omega, rfl, by rw [hnx.out, List.length_append]; exact hJ3.out, hz4.out, hkp3.out⟩, by simp [intOf]; omega⟩
        · have hz4 : Hid (w1.heap.size ≤ W3.heap.size) := Nat.le_trans (Nat.le_trans hsz2.out HB3.out.size) hz3
          replace hJ3 := hid hJ3
          clear hk3 hz3 hy hR
          gi_wp2
          refine bodyPost_ret (results_none rfl _ _ _) rfl ?_
          refine ⟨⟨_, rfl⟩, w1.heap.size, hhi, hz4.out, .inr ⟨_, ?_, hJ3.out⟩⟩
          exact hk0.out
    · obtain rfl : i = ns.length := by omega
      rw [List.take_length] at hJi
      clear hY hkp hsz
      gi_wp2
      refine bodyPost_end (results_none rfl _ _ _) rfl ?_
      exact ⟨⟨_, rfl⟩, w1.heap.size, hhi, hsz2.out, .inl hJi⟩
end Go.Proofs.YtihgikekkgoddaaGreatDoor
