/- Bytes that are handed in; what append makes of a file's bytes and of them; the function that Append hands to look. -/
import Derived.Test.YtinnegkkfaaceaaW7
namespace Go.Proofs.Ytinnegkkfaaceaa
open Go.RowKit Go.Maps Go.MapKept Go.Shelf

/-- a slice's value over bytes in memory. -/
def IsB (w : World) (v : Value) (bs : List UInt8) : Prop :=
  bs.length ≤ maxLen ∧ ∃ a c, v = .slice a bs.length c ∧ (bs = [] ∨ ∃ b off, a = some ⟨b, off, none⟩ ∧ ∀ i, i < bs.length → w.cell? ⟨b, off + i, none⟩ = some ((bs.map bv).getD i (.int .u8 0)))
theorem IsB.kept {w w' : World} {v : Value} {bs : List UInt8} (h : IsB w v bs) (hk : ∀ b o u, w.cell? ⟨b, o, none⟩ = some u → w'.cell? ⟨b, o, none⟩ = some u) : IsB w' v bs := by
  obtain ⟨hm, a, c, hv, hc⟩ := h
  refine ⟨hm, a, c, hv, ?_⟩
  rcases hc with hc | ⟨b, off, ha, hc⟩
  · exact .inl hc
  · exact .inr ⟨b, off, ha, fun i hi => hk _ _ _ (hc i hi)⟩
theorem IsB.below {w w' : World} {v : Value} {bs : List UInt8} (h : IsB w v bs) (hb : Below w.heap.size w w') : IsB w' v bs :=
  h.kept fun b o _ hu => (hb.cell (p := ⟨b, o, none⟩) (World.block_lt_of_cell? w ⟨b, o, none⟩ hu)).trans hu
theorem isB_row {w : World} {base : Nat} {v : Value} {b : List UInt8} (h : w.ownsRow base 5 1 v b.length (b.map bv)) : IsB w v b := by
  rcases row_form h with ⟨rfl, rfl⟩ | ⟨g, c, rfl, h1, h2⟩
  · exact ⟨by simp, none, 0, rfl, .inl rfl⟩
  · refine ⟨by omega, _, c, rfl, .inr ⟨g, 0, rfl, fun i hi => ?_⟩⟩
    rw [Nat.zero_add, row_cells h rfl i hi, ints_at]
theorem bytesInfo : (Try.prog.info? 5).map (fun i => (i.zero, i.size, i.bytes)) = some (some (.int .u8 0), 1, 1) := by kernel_rfl
theorem app_run {w : World} {base : Nat} {v v2 : Value} {b bs : List UInt8} (hr : w.ownsRow base 5 1 v b.length (b.map bv)) (h2 : IsB w v2 bs) (hl : b.length + bs.length ≤ 140737488355328) (hb : base ≤ w.heap.size) :
    ∃ a' c' w', (∀ ty, (Builtin.append_ #[30, 30] ty #[v, v2]).run Try.prog w = .ok (.slice a' (b.length + bs.length) c') w') ∧ w'.ownsRow base 5 1 (.slice a' (b.length + bs.length) c') (b ++ bs).length ((b ++ bs).map bv) ∧ w.grownBy w' v.ownBlock ∧
      ((Value.slice a' (b.length + bs.length) c').ownBlock = v.ownBlock ∨ (Value.slice a' (b.length + bs.length) c').ownBlock = some w.heap.size) := by
  obtain ⟨i0, hi, hz0, hz1, hz2⟩ := info_parts bytesInfo
  have some_case : ∀ (ad : Addr) (c : Nat), v2 = .slice (some ad) bs.length c → (∀ j u, (bs.map bv)[j]? = some u → w.cell? (ad.add j) = some u) → ∃ a' c' w', (∀ ty, (Builtin.append_ #[30, 30] ty #[v, v2]).run Try.prog w = .ok (.slice a' (b.length + bs.length) c') w') ∧ w'.ownsRow base 5 1 (.slice a' (b.length + bs.length) c') (b ++ bs).length ((b ++ bs).map bv) ∧ w.grownBy w' v.ownBlock ∧
      ((Value.slice a' (b.length + bs.length) c').ownBlock = v.ownBlock ∨ (Value.slice a' (b.length + bs.length) c').ownBlock = some w.heap.size) := by
    intro ad c e hcells
    subst e
    obtain ⟨v', w', hrun, h3, h4, _, h5⟩ := run_append_own_at (P := Try.prog) w base 30 0 5 i0 (.int .u8 0) 1 1 Try.underlying30 hi hz0 hz1 hz2 rfl (by decide) v b.length (b.map bv) hr ad bs.length c (bs.map bv) (by simp) hcells (by intro u hu; obtain ⟨x, _, rfl⟩ := List.mem_map.1 hu; rfl) (by unfold maxLen; omega) (by omega) hb
    obtain ⟨a', c', rfl⟩ := row_slice h3
    refine ⟨a', c', w', fun ty => hrun, ?_, h4, h5⟩
    simpa using h3
  obtain ⟨hm, a, c, hv, hc⟩ := h2
  rcases hc with rfl | ⟨g, off, rfl, hc⟩
  · cases a with
    | some ad => exact some_case ad c hv (by simp)
    | none =>
      subst hv
      obtain ⟨av, cv, e⟩ := row_slice hr
      have hcap : b.length ≤ cv := by
        rcases row_form hr with ⟨e1, rfl⟩ | ⟨g, c', e1, h1, _⟩
        · simp
        · rw [e1] at e; cases e; exact h1
      have ht := Try.underlying30
      refine ⟨av, cv, w, fun ty => ?_, ?_, ⟨rfl, rfl, rfl, Nat.le_refl _, fun _ _ _ => rfl⟩, .inl ?_⟩
      · rw [e]
        cases av <;> simp [Builtin.append_, run_underlying ht, sizeOf, typeInfo, hi, Builtin.lenOf, Builtin.firstCells, loadCells, hcap, storeCells, Result.andThen]
      · rw [e] at hr; simpa using hr
      · rw [e]; simp
  · refine some_case ⟨g, off, none⟩ c hv fun j u hu => ?_
    have hj : j < bs.length := by have := (List.getElem?_eq_some_iff.1 hu).1; simpa using this
    rw [Addr.add_lit, hc j hj]
    simp [List.getD, hu]
/-- append, as one step of a region. -/
theorem step_append {P : Program} {ops : Array Oper} {o : Oper} {a : Act} {w : World} {K : Act → World → Prop} {Q : Exit → Act → World → Prop} {E : Prop}
    (hg : o.guard = none) (s x : Operand) (t : TypeId) (hop : o.op = Op.call { callee := Callee.builtin Builtin.append, args := #[s, x], argTypes := #[t, t] }) (v v2 v' : Value) (w' : World)
    (hs : a.eval s = v) (hx : a.eval x = v2) (hrun : ∀ ty, (Builtin.append_ #[t, t] ty #[v, v2]).run P w = .ok v' w') (hK : K (a.put o.dst v') w') :
    if Region.wanted o (yielded ops a.tmps) = true then Oper.wp P o a w K Q else E := by
  have hw : Region.wanted o (yielded ops a.tmps) = true := by simp [Region.wanted, hg]
  rw [if_pos hw]
  unfold Oper.wp
  simp [execOp, hop, resolve, invoke, builtin, hs, hx, hrun, Result.andThen]
  exact hK
end Go.Proofs.Ytinnegkkfaaceaa
