/- Values as they lie in memory, and what the frame tells of them: a value, a slice of values; contract of the law's great. -/
import Derived.Test.YthhfahnlcoiblaaOp
import Derived.Deep.Slices
import Derived.Deep.Matrix
namespace Go.Proofs.Ythhfahnlcoiblaa
open Go.ChangeShapes Go.WideShapes Go.ChangeAt Go.RowKit

/-- seven cells that are a value. -/
def IsV (w : World) (cs : List Value) (x : Vl) : Prop :=
  x.Ok ∧ x.s.length ≤ maxLen ∧ ∃ lv, cs = [.int .u8 (x.k : Int), .int .u64 (x.u : Int), .int .i64 x.i, .bool x.b, lv, str x.s, .int .i64 x.n] ∧ IsB w lv x.l
theorem IsV.below {w w' : World} {cs : List Value} {x : Vl} (h : IsV w cs x) (hb : Below w.heap.size w w') : IsV w' cs x := by
  obtain ⟨h1, h2, lv, h3, h4⟩ := h
  exact ⟨h1, h2, lv, h3, h4.below hb⟩
theorem cellsVl : Try.prog.cellsOf 29 = 7 := by kernel_rfl
theorem k_u8 : Try.prog.cellsOf 5 = 1 := by kernel_rfl
theorem k_u64 : Try.prog.cellsOf 27 = 1 := by kernel_rfl
theorem k_i64 : Try.prog.cellsOf 2 = 1 := by kernel_rfl
theorem k_int : Try.prog.cellsOf 3 = 1 := by kernel_rfl
theorem k_bool : Try.prog.cellsOf 4 = 1 := by kernel_rfl
theorem k_bytes : Try.prog.cellsOf 26 = 1 := by kernel_rfl
theorem k_str : Try.prog.cellsOf 9 = 1 := by kernel_rfl
theorem getD_take (zs : List Int) (n i : Nat) (h : i < n) : (zs.take n).getD i 0 = zs.getD i 0 := by
  simp [List.getD, List.getElem?_take_of_lt h]
theorem isB_mk {w : World} {a : Option Addr} {len cap : Nat} {zs : List Int} (h1 : len ≤ cap) (h2 : cap ≤ maxLen) (h3 : zs.length = cap) (h4 : ∀ n ∈ zs, (Lit.int .u8 n).wf = true) (h5 : a = none → cap = 0)
    (h6 : ∀ a', a = some a' → ∀ c, c < cap → w.cell? (a'.add c) = some (.int .u8 (zs.getD c 0))) : IsB w (.slice a len cap) (zs.take len) := by
  have hl : (zs.take len).length = len := by simp; omega
  refine ⟨by omega, fun z hz => wf_u8 (h4 z (List.mem_of_mem_take hz)), a, cap, by rw [hl], by omega, h2, ?_⟩
  by_cases h0 : len = 0
  · left; simp [h0]
  · right
    cases a with
    | none => have := h5 rfl; omega
    | some x =>
      obtain ⟨b, off, spot⟩ := x
      have hc := h6 _ rfl 0 (by omega)
      have hspot : spot = none := by simpa [Addr.add] using World.cell?_spot hc
      subst hspot
      refine ⟨b, off, rfl, fun i hi => ?_⟩
      rw [hl] at hi
      have := h6 _ rfl i (by omega)
      rw [Addr.add_lit] at this
      rw [getD_take zs len i hi]
      exact this
theorem str_of (s : ByteArray) : Value.string s = str s.data.toList := by
  unfold str
  cases s; simp
section
variable {H : Type} {enc : TypeId × Value → H} {w : World} {base : Nat} {held : Bool}
theorem cells_bytes {fuel : Nat} {v : Value} {x : DataW H × List MemPlace} (h : DataW.trod enc Try.prog w base (fun _ => true) held fuel 26 [v] = some x) : ∃ bs, IsB w v bs := by
  rcases open_ints Try.underlying26 Try.underlying5 (by kernel_rfl) h with ⟨hcs, _⟩ | ⟨a, l, c, zs, hcs, _, hl, hm, hz, _, hcell, hwz⟩
  · simp at hcs; subst hcs
    exact ⟨[], by simp, by simp, none, 0, rfl, by simp, by simp, .inl rfl⟩
  · simp at hcs; subst hcs
    have hz' : zs.length = c := by simpa using hz
    exact ⟨_, isB_mk hl hm hz' hwz (fun h => by cases h) (fun a' h i hi => by cases h; exact hcell i (by omega))⟩
set_option maxRecDepth 100000 in
theorem open_bytes {t e : TypeId} {r : Reach} {base0 : Nat} {P : Program} {v : Value} {d : DataW H} {p : List MemPlace} (ht : P.underlying t = some (.slice e)) (he : P.underlying e = some (.int .u8)) (ce : P.cellsOf e = 1)
    (hv : Value.okWide P w r base0 t v) (h : DataW.Trod enc P w base (fun _ => true) held t v d p) : ∃ zs, IsB w v zs := by
  obtain ⟨a, len, cap, rfl⟩ := okWide_slice ht hv
  obtain ⟨fuel, hf⟩ := h
  rcases open_ints ht he ce hf with ⟨hcs, _⟩ | ⟨x, l, c, zs, hcs, _, hl, hm, hz, _, hcell, hwz⟩
  · simp [Value.cells] at hcs
    obtain ⟨rfl, rfl, rfl⟩ := hcs
    exact ⟨[], by simp, by simp, none, 0, rfl, by simp, by simp, .inl rfl⟩
  · simp [Value.cells] at hcs
    obtain ⟨rfl, rfl, rfl⟩ := hcs
    have hz' : zs.length = cap := by simpa using hz
    exact ⟨_, isB_mk hl hm hz' hwz (fun h => by cases h) (fun a' h c hc => by cases h; exact hcell c (by omega))⟩
set_option maxRecDepth 100000 in
theorem cells_val {fuel : Nat} {cs : List Value} {x : DataW H × List MemPlace} (h : DataW.trod enc Try.prog w base (fun _ => true) held fuel 29 cs = some x) : ∃ y, IsV w cs y := by
  obtain ⟨xs, n, _, _, hcl, hxl, hf⟩ := DataW.trod_struct Try.underlying29 h
  rw [cellsVl] at hcl
  match cs, hcl with
  | [c0, c1, c2, c3, c4, c5, c6], _ =>
  have hx : ∀ i, i < 7 → ∃ y, xs[i]? = some y := fun i hi => ⟨_, List.getElem?_eq_getElem (by rw [hxl]; exact hi)⟩
  obtain ⟨y0, e0⟩ := hx 0 (by decide)
  obtain ⟨y1, e1⟩ := hx 1 (by decide)
  obtain ⟨y2, e2⟩ := hx 2 (by decide)
  obtain ⟨y3, e3⟩ := hx 3 (by decide)
  obtain ⟨y4, e4⟩ := hx 4 (by decide)
  obtain ⟨y5, e5⟩ := hx 5 (by decide)
  obtain ⟨y6, e6⟩ := hx 6 (by decide)
  have f0 : DataW.trod enc Try.prog w base (fun _ => true) held n 5 [c0] = some y0 := by
    have h0 := hf 0 _ rfl
    rw [e0] at h0
    simpa [k_u8] using h0
  have f1 : DataW.trod enc Try.prog w base (fun _ => true) held n 27 [c1] = some y1 := by
    have h0 := hf 1 _ rfl
    rw [e1] at h0
    simpa [k_u64] using h0
  have f2 : DataW.trod enc Try.prog w base (fun _ => true) held n 2 [c2] = some y2 := by
    have h0 := hf 2 _ rfl
    rw [e2] at h0
    simpa [k_i64] using h0
  have f3 : DataW.trod enc Try.prog w base (fun _ => true) held n 4 [c3] = some y3 := by
    have h0 := hf 3 _ rfl
    rw [e3] at h0
    simpa [k_bool] using h0
  have f4 : DataW.trod enc Try.prog w base (fun _ => true) held n 26 [c4] = some y4 := by
    have h0 := hf 4 _ rfl
    rw [e4] at h0
    simpa [k_bytes] using h0
  have f5 : DataW.trod enc Try.prog w base (fun _ => true) held n 9 [c5] = some y5 := by
    have h0 := hf 5 _ rfl
    rw [e5] at h0
    simpa [k_str] using h0
  have f6 : DataW.trod enc Try.prog w base (fun _ => true) held n 3 [c6] = some y6 := by
    have h0 := hf 6 _ rfl
    rw [e6] at h0
    simpa [k_int] using h0
  obtain ⟨z0, q0, _, w0⟩ := DataW.trod_int Try.underlying5 f0
  obtain ⟨z1, q1, _, w1⟩ := DataW.trod_int Try.underlying27 f1
  obtain ⟨z2, q2, _, w2⟩ := DataW.trod_int Try.underlying2 f2
  obtain ⟨z3, q3, _⟩ := DataW.trod_bool Try.underlying4 f3
  obtain ⟨bs, hB⟩ := cells_bytes f4
  obtain ⟨s5, q5, _, l5⟩ := DataW.trod_string Try.underlying9 f5
  obtain ⟨z6, q6, _, w6⟩ := DataW.trod_int Try.underlying3 f6
  simp only [List.cons.injEq, and_true] at q0 q1 q2 q3 q5 q6
  subst q0 q1 q2 q3 q5 q6
  have h0 := wf_u8 w0
  have h1 := wf_u64 w1
  refine ⟨⟨z0.toNat, z1.toNat, z2, z3, bs, s5.data.toList, z6⟩, ⟨by show z0.toNat < 256; omega, by show z1.toNat < _; omega, wf_i64 w2, wf_i64 w6, hB.byt⟩, by show s5.data.toList.length ≤ _; rw [Array.length_toList]; exact l5, c4, ?_, hB⟩
  rw [str_of s5, show ((z0.toNat : Nat) : Int) = z0 by omega, show ((z1.toNat : Nat) : Int) = z1 by omega]
/-- a slice's value over values. -/
def IsVs (w : World) (v : Value) (l : List Vl) : Prop :=
  l.length ≤ maxLen ∧ ∃ a c, v = .slice a l.length c ∧ (l = [] ∨ ∃ b off, a = some ⟨b, off, none⟩ ∧ ∀ i (hi : i < l.length), ∃ cs, IsV w cs l[i] ∧ ∀ j, j < 7 → w.cell? ⟨b, off + i * 7 + j, none⟩ = cs[j]?)
set_option maxRecDepth 100000 in
theorem open_vals {r : Reach} {base0 : Nat} {v : Value} {d : DataW H} {p : List MemPlace} (hv : Value.okWide Try.prog w r base0 22 v) (h : DataW.Trod enc Try.prog w base (fun _ => true) held 22 v d p) : ∃ l, IsVs w v l := by
  obtain ⟨a, len, cap, rfl⟩ := okWide_slice Try.underlying22 hv
  obtain ⟨fuel, hf⟩ := h
  rcases Go.Deep.open_slice Try.underlying22 hf with ⟨hcs, _⟩ | ⟨x, l, c, m, n, D, Pl, hcs, _, hl, hm, hmm, _, hx⟩
  · simp [Value.cells] at hcs
    obtain ⟨rfl, rfl, rfl⟩ := hcs
    exact ⟨[], by simp, none, 0, rfl, .inl rfl⟩
  · simp [Value.cells] at hcs
    obtain ⟨rfl, rfl, rfl⟩ := hcs
    have hm' : m = cap := by simpa using hmm
    rw [cellsVl] at hx
    have hall : ∀ i, i < len → ∃ y cs, IsV w cs y ∧ w.cells? base (x.add (i * 7)) 7 = some cs := fun i hi => by
      obtain ⟨cs', h1, h2⟩ := hx i (by omega)
      obtain ⟨y, hy⟩ := cells_val h2
      exact ⟨y, cs', hy, h1⟩
    have hch : ∃ Y : Nat → Vl, ∀ i, i < len → ∃ cs, IsV w cs (Y i) ∧ w.cells? base (x.add (i * 7)) 7 = some cs := by
      refine ⟨fun i => if hi : i < len then Classical.choose (hall i hi) else zeroV 0, fun i hi => ?_⟩
      simp only [hi, dif_pos]
      exact Classical.choose_spec (hall i hi)
    obtain ⟨Y, hY⟩ := hch
    have hlen : ((List.range len).map Y).length = len := by simp
    refine ⟨(List.range len).map Y, by omega, some x, cap, by rw [hlen], ?_⟩
    by_cases h0 : len = 0
    · left; simp [h0]
    · right
      obtain ⟨b, off, spot⟩ := x
      have hsp : spot = none := by
        obtain ⟨cs, _, h1⟩ := hY 0 (by omega)
        have h2 := (World.cells?_some h1).2.2 0 (by decide)
        obtain ⟨u, hu⟩ : ∃ u, w.cell? ((Addr.add ⟨b, off, spot⟩ (0 * 7)).add 0) = some u := by
          rw [h2]
          exact ⟨_, List.getElem?_eq_getElem (by have := (World.cells?_some h1).2.1; omega)⟩
        simpa [Addr.add] using World.cell?_spot hu
      subst hsp
      refine ⟨b, off, rfl, fun i hi => ?_⟩
      obtain ⟨cs, h1, h2⟩ := hY i (by omega)
      refine ⟨cs, by simpa using h1, fun j hj => ?_⟩
      have h3 := (World.cells?_some h2).2.2 j hj
      rw [Addr.add_lit, Addr.add_lit] at h3
      exact h3
set_option maxRecDepth 100000 in
theorem open_val {r : Reach} {base0 : Nat} {v : Value} {d : DataW H} {p : List MemPlace} (hv : Value.okWide Try.prog w r base0 29 v) (h : DataW.Trod enc Try.prog w base (fun _ => true) held 29 v d p) :
    ∃ x : Vl, x.Ok ∧ x.s.length ≤ maxLen ∧ ∃ lv, v = agg x lv ∧ IsB w lv x.l := by
  obtain ⟨cs, rfl, _⟩ := okWide_struct Try.underlying29 hv
  obtain ⟨fuel, hf⟩ := h
  obtain ⟨x, h1, h2, lv, hcs, hB⟩ := cells_val hf
  refine ⟨x, h1, h2, lv, ?_, hB⟩
  obtain ⟨l⟩ := cs
  have : l = _ := hcs
  rw [this]
  rfl
end
theorem IsVs.at {w : World} {a : Option Addr} {n c : Nat} {l : List Vl} (h : IsVs w (.slice a n c) l) (k : Nat) (hk : k < l.length) : ∃ b off va vc, a = some ⟨b, off, none⟩ ∧ l[k].Ok ∧ l[k].s.length ≤ maxLen ∧ IsB w (.slice va l[k].l.length vc) l[k].l ∧
    w.cell? ⟨b, off + k * 7, none⟩ = some (.int .u8 (l[k].k : Int)) ∧ w.cell? ⟨b, off + k * 7 + 1, none⟩ = some (.int .u64 (l[k].u : Int)) ∧ w.cell? ⟨b, off + k * 7 + 2, none⟩ = some (.int .i64 l[k].i) ∧ w.cell? ⟨b, off + k * 7 + 3, none⟩ = some (.bool l[k].b) ∧ w.cell? ⟨b, off + k * 7 + 4, none⟩ = some (.slice va l[k].l.length vc) ∧ w.cell? ⟨b, off + k * 7 + 5, none⟩ = some (str l[k].s) ∧ w.cell? ⟨b, off + k * 7 + 6, none⟩ = some (.int .i64 l[k].n) := by
  obtain ⟨_, a', c', e, h2⟩ := h
  cases e
  rcases h2 with h2 | ⟨b, off, ha, h2⟩
  · subst h2; cases hk
  · obtain ⟨cs, ⟨h3, h4, lv, rfl, h5⟩, h6⟩ := h2 k hk
    obtain ⟨va, vc, rfl⟩ := h5.slice
    exact ⟨b, off, va, vc, ha, h3, h4, h5, h6 0 (by decide), h6 1 (by decide), h6 2 (by decide), h6 3 (by decide), h6 4 (by decide), h6 5 (by decide), h6 6 (by decide)⟩
theorem IsVs.below {w w' : World} {v : Value} {l : List Vl} (h : IsVs w v l) (hb : Below w.heap.size w w') : IsVs w' v l := by
  obtain ⟨h1, a, c, h2, h3⟩ := h
  refine ⟨h1, a, c, h2, h3.imp id ?_⟩
  rintro ⟨b, off, rfl, h4⟩
  refine ⟨b, off, rfl, fun i hi => ?_⟩
  obtain ⟨cs, h5, h6⟩ := h4 i hi
  refine ⟨cs, h5.below hb, fun j hj => ?_⟩
  have hlen : cs.length = 7 := by obtain ⟨_, _, lv, rfl, _⟩ := h5; rfl
  have := h6 j hj
  rw [List.getElem?_eq_getElem (by omega)] at this ⊢
  exact (hb.cell (p := ⟨b, off + i * 7 + j, none⟩) (World.block_lt_of_cell? w _ this)).trans this
/-- the k-th value's cells, in whatever world that left them. -/
def CellsAt (W : World) (b o : Nat) (x : Vl) (lv : Value) : Prop :=
  W.cell? ⟨b, o, none⟩ = some (.int .u8 (x.k : Int)) ∧ W.cell? ⟨b, o + 1, none⟩ = some (.int .u64 (x.u : Int)) ∧ W.cell? ⟨b, o + 2, none⟩ = some (.int .i64 x.i) ∧ W.cell? ⟨b, o + 3, none⟩ = some (.bool x.b) ∧ W.cell? ⟨b, o + 4, none⟩ = some lv ∧ W.cell? ⟨b, o + 5, none⟩ = some (.string ⟨x.s.toArray⟩) ∧ W.cell? ⟨b, o + 6, none⟩ = some (.int .i64 x.n)
theorem IsVs.get {w : World} {a : Option Addr} {n c : Nat} {l : List Vl} (h : IsVs w (.slice a n c) l) (k : Nat) (hk : k < l.length) : ∃ b off va vc, a = some ⟨b, off, none⟩ ∧ l[k].Ok ∧ l[k].s.length ≤ maxLen ∧ IsB w (.slice va l[k].l.length vc) l[k].l ∧ ∀ W, Below w.heap.size w W → CellsAt W b (off + k * 7) l[k] (.slice va l[k].l.length vc) := by
  obtain ⟨b, off, va, vc, ha, h1, h2, h3, q0, q1, q2, q3, q4, q5, q6⟩ := h.at k hk
  have t : ∀ (W : World), Below w.heap.size w W → ∀ (o : Nat) (v : Value), w.cell? ⟨b, o, none⟩ = some v → W.cell? ⟨b, o, none⟩ = some v := fun W hb o v hv => (hb.cell (p := ⟨b, o, none⟩) (World.block_lt_of_cell? w _ hv)).trans hv
  exact ⟨b, off, va, vc, ha, h1, h2, h3, fun W hb => ⟨t W hb _ _ q0, t W hb _ _ q1, t W hb _ _ q2, t W hb _ _ q3, t W hb _ _ q4, t W hb _ _ q5, t W hb _ _ q6⟩⟩
theorem IsVs.slice {w : World} {v : Value} {l : List Vl} (h : IsVs w v l) : ∃ a c, v = .slice a l.length c := by obtain ⟨_, a, c, e, _⟩ := h; exact ⟨a, c, e⟩
def wt (x : Vl) : Nat := x.l.length + x.s.length
def sumw (l : List Vl) (k : Nat) : Nat := ((l.take k).map wt).sum
theorem sumw_succ (l : List Vl) (k : Nat) (hk : k < l.length) : sumw l (k + 1) = sumw l k + wt l[k] := by
  unfold sumw
  rw [List.take_succ_eq_append_getElem hk, List.map_append, List.sum_append]
  congr 1
theorem sumw_le (l : List Vl) (k : Nat) : sumw l k ≤ sumw l l.length := by
  unfold sumw
  conv => rhs; rw [List.take_length, ← List.take_append_drop k l, List.map_append, List.sum_append]
  omega
/-- not too many values, not too many bytes. -/
def Fit (l : List Vl) : Prop := l.length ≤ 300 ∧ sumw l l.length ≤ 20000
theorem Fit.at {l : List Vl} (h : Fit l) (k : Nat) (hk : k < l.length) : l[k].l.length + l[k].s.length ≤ 20000 := by
  have h1 := sumw_succ l k hk
  have h2 := sumw_le l (k + 1)
  have h3 := h.2
  unfold wt at h1
  omega
/-- what the first so many values write. -/
def forms (l : List Vl) (k : Nat) : List Int := ((l.take k).map form).flatten
theorem forms_succ (l : List Vl) (k : Nat) (hk : k < l.length) : forms l (k + 1) = forms l k ++ form l[k] := by
  unfold forms
  rw [List.take_succ_eq_append_getElem hk, List.map_append, List.flatten_append]
  simp
theorem form_short {l : List Vl} (hf : Fit l) {k : Nat} (hk : k < l.length) (hok : l[k].Ok) : (form l[k]).length ≤ 20010 := by
  have h1 := hf.at k hk
  have h2 := form_len hok (by omega) (by omega)
  omega
def GreatPost (l : List Vl) (w : World) (e : Ending) (w' : World) : Prop := ∃ r : Bool, e = .returned (.bool r) ∧ (r = false → Fit l) ∧ ∃ q, w' = w.drewN q
set_option maxHeartbeats 4000000 in
theorem great_any (v : Value) (l : List Vl) (w : World) (h : IsVs w v l) :
    Calls Try.prog 9 #[v] w (GreatPost l w) := by
  have hml := h.1
  unfold maxLen at hml
  obtain ⟨av, cv, hv⟩ := h.slice
  rw [hv] at h ⊢
  replace h := hid h
  clear hv
  by_cases h300 : 300 < l.length
  · have h300' : (300 : Int) < (l.length : Int) := by omega
    go_enter Try.func9, Try.ntmps9
    go_wp2
    go_ret
    exact ⟨true, rfl, (fun e => by cases e), 0, rfl⟩
  have h300' : ¬ (300 : Int) < (l.length : Int) := by omega
  go_enter Try.func9, Try.ntmps9
  go_wp2
  go_loopw [3, 4] (fun nv iv wr => ∃ (k q : Nat), k ≤ l.length ∧ iv = .int .i64 k ∧ sumw l k ≤ 20000 ∧ nv = .int .i64 (20000 - (sumw l k : Int)) ∧ wr = w.drewN q) (fun _ iv _ => l.length - (intOf iv).toNat)
  case atStart => exact ⟨0, 0, by omega, rfl, by simp [sumw], rfl, rfl⟩
  case round =>
    obtain ⟨k, q, hk, rfl, hs, rfl, rfl⟩ := hrel
    by_cases hlt : k < l.length
    · have hlt' : (k : Int) < (l.length : Int) := by omega
      obtain ⟨b, off, va, vc, rfl, hok, hsl, hB, c0, c1, c2, c3, c4, c5, c6⟩ := h.out.at k hlt
      have hbb := hB.bound
      unfold maxLen at hsl
      have hsu := hid (sumw_succ l k hlt)
      have hs1 : (⟨l[k].s.toArray⟩ : ByteArray).size = l[k].s.length := by show l[k].s.toArray.size = _; simp
      have hwt : Hid (wt l[k] = l[k].l.length + l[k].s.length) := rfl
      unfold str at c5
      clear c0 c1 c2 c3 c6 hok hB
      generalize l[k] = x at *
      generalize hm : sumw l k = m at *
      replace hm := hid hm
      by_cases t1 : 20000 - (m : Int) < (x.l.length : Int)
      · go_wp2
        go_quiet (fail)
        go_wp2
        go_ret
        exact ⟨true, rfl, (fun e => by cases e), _, World.drewN_drewN ..⟩
      · have d1 : decide (20000 - (m : Int) < (x.l.length : Int)) = false := by simpa using t1
        have hwr : IntKind.i64.wrap (20000 - (m : Int) - (x.l.length : Int)) = 20000 - (m : Int) - (x.l.length : Int) := by rw [IntKind.wrap_i64]; omega
        by_cases t2 : 20000 - (m : Int) - (x.l.length : Int) < (x.s.length : Int)
        · have d2 : decide (20000 - (m : Int) - (x.l.length : Int) < (x.s.length : Int)) = true := by simpa using t2
          go_wp2
          go_quiet (fail)
          go_wp2
          go_ret
          exact ⟨true, rfl, (fun e => by cases e), _, World.drewN_drewN ..⟩
        · have d2 : decide (20000 - (m : Int) - (x.l.length : Int) < (x.s.length : Int)) = false := by simpa using t2
          have hwr2 : IntKind.i64.wrap (20000 - (m : Int) - (x.l.length : Int) - (x.s.length : Int)) = 20000 - (m : Int) - (x.l.length : Int) - (x.s.length : Int) := by rw [IntKind.wrap_i64]; omega
          go_wp2
          go_quiet (fail)
          go_wp2
          go_quiet (fail)
          go_wp2
          have hv1 : sumw l (k + 1) ≤ 20000 := by rw [hsu.out, hwt.out]; omega
          have hv2 : (20000 : Int) - (m : Int) - (x.l.length : Int) - (x.s.length : Int) = 20000 - ((sumw l (k + 1) : Nat) : Int) := by rw [hsu.out, hwt.out]; omega
          exact ⟨⟨k + 1, _, by omega, by go_num, hv1, congrArg (Value.int .i64) hv2, rfl⟩, by simp [intOf]; omega⟩
    · have hlt' : ¬ (k : Int) < (l.length : Int) := by omega
      obtain rfl : k = l.length := by omega
      have hf : Hid (Fit l) := ⟨by omega, hs⟩
      go_wp2
      go_ret
      exact ⟨false, rfl, fun _ => hf.out, q, rfl⟩
end Go.Proofs.Ythhfahnlcoiblaa
