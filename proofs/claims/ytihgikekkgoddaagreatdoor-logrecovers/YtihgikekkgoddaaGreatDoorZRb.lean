/- Joined: Rc3 Rc4. -/
import Derived.Test.YtihgikekkgoddaaGreatDoorZSf
import Derived.Test.YtihgikekkgoddaaGreatDoorZOp
import Derived.Test.YtihgikekkgoddaaGreatDoorZSy1
import Derived.Deep.QuietTactic
import Derived.BigQuiet
/- LogRecovers: its acts as they lie in memory, and what the frame tells of them; the law's great. -/
namespace Go.Proofs.YtihgikekkgoddaaGreatDoor
open Go.ChangeShapes Go.WideShapes Go.ChangeAt Go.RowKit Go.Shelf Sto

structure LAct where
  kind : Nat
  fl : ActD
  name : List UInt8
  b : List UInt8
def IsL (w : World) (cs : List Value) (x : LAct) : Prop :=
  x.kind < 256 ∧ x.name.length ≤ maxLen ∧ ∃ fcs vb, cs = .int .u8 (x.kind : Int) :: (fcs ++ [str x.name, vb]) ∧ IsAct w fcs x.fl ∧ Frm.IsB w vb (ints x.b)
theorem IsL.below {w w' : World} {cs : List Value} {x : LAct} (h : IsL w cs x) (hb : Below w.heap.size w w') : IsL w' cs x := by
  obtain ⟨h1, h2, fcs, vb, h3, h4, h5⟩ := h
  exact ⟨h1, h2, fcs, vb, h3, h4.below hb, h5.below hb⟩
def IsLs (w : World) (v : Value) (l : List LAct) : Prop :=
  l.length ≤ maxLen ∧ ∃ a c, v = .slice a l.length c ∧ (l = [] ∨ ∃ b off, a = some ⟨b, off, none⟩ ∧ ∀ i (hi : i < l.length), ∃ cs, IsL w cs l[i] ∧ ∀ j, j < 9 → w.cell? ⟨b, off + i * 9 + j, none⟩ = cs[j]?)
theorem IsLs.at {w : World} {a : Option Addr} {n c : Nat} {l : List LAct} (h : IsLs w (.slice a n c) l) (k : Nat) (hk : k < l.length) : ∃ b off fb fk vb, a = some ⟨b, off, none⟩ ∧ l[k].kind < 256 ∧ l[k].name.length ≤ maxLen ∧ ActOk l[k].fl ∧ IsB w fb l[k].fl.b ∧ IsI w fk l[k].fl.keep ∧ Frm.IsB w vb (ints l[k].b) ∧
    w.cell? ⟨b, off + k * 9, none⟩ = some (.int .u8 (l[k].kind : Int)) ∧ w.cell? ⟨b, off + k * 9 + 1, none⟩ = some (.int .u8 (l[k].fl.kind : Int)) ∧ w.cell? ⟨b, off + k * 9 + 2, none⟩ = some (str l[k].fl.name) ∧ w.cell? ⟨b, off + k * 9 + 3, none⟩ = some (str l[k].fl.other) ∧ w.cell? ⟨b, off + k * 9 + 4, none⟩ = some fb ∧ w.cell? ⟨b, off + k * 9 + 5, none⟩ = some (.int .i64 l[k].fl.n) ∧ w.cell? ⟨b, off + k * 9 + 6, none⟩ = some fk ∧ w.cell? ⟨b, off + k * 9 + 7, none⟩ = some (str l[k].name) ∧ w.cell? ⟨b, off + k * 9 + 8, none⟩ = some vb := by
  obtain ⟨_, a', c', e, h2⟩ := h
  cases e
  rcases h2 with h2 | ⟨b, off, ha, h2⟩
  · subst h2; cases hk
  · obtain ⟨cs, ⟨h3, h4, fcs, vb, rfl, ⟨h5, fb, fk, rfl, h6, h7⟩, h8⟩, h9⟩ := h2 k hk
    exact ⟨b, off, fb, fk, vb, ha, h3, h4, h5, h6, h7, h8, h9 0 (by decide), h9 1 (by decide), h9 2 (by decide), h9 3 (by decide), h9 4 (by decide), h9 5 (by decide), h9 6 (by decide), h9 7 (by decide), h9 8 (by decide)⟩
theorem IsLs.below {w w' : World} {v : Value} {l : List LAct} (h : IsLs w v l) (hb : Below w.heap.size w w') : IsLs w' v l := by
  obtain ⟨h1, a, c, h2, h3⟩ := h
  refine ⟨h1, a, c, h2, h3.imp id ?_⟩
  rintro ⟨b, off, rfl, h4⟩
  refine ⟨b, off, rfl, fun i hi => ?_⟩
  obtain ⟨cs, h5, h6⟩ := h4 i hi
  refine ⟨cs, h5.below hb, fun j hj => ?_⟩
  have hlen : cs.length = 9 := by obtain ⟨_, _, fcs, vb, rfl, ⟨_, fb, fk, rfl, _⟩, _⟩ := h5; rfl
  have := h6 j hj
  rw [List.getElem?_eq_getElem (by omega)] at this ⊢
  exact (hb.cell (p := ⟨b, off + i * 9 + j, none⟩) (World.block_lt_of_cell? w _ this)).trans this
theorem cellsL : Tryz.prog.cellsOf 51 = 9 := by kernel_rfl
section
variable {H : Type} {enc : TypeId × Value → H} {w : World} {base : Nat} {held : Bool}
theorem cells_byts {fuel : Nat} {v : Value} {x : DataW H × List MemPlace} (h : DataW.trod enc Tryz.prog w base (fun _ => true) held fuel 22 [v] = some x) : ∃ bs, Frm.IsB w v (ints bs) := by
  rcases open_ints Tryz.underlying22 Tryz.underlying5 (by kernel_rfl) h with ⟨hcs, _⟩ | ⟨a, l, c, zs, hcs, _, hl, hm, hz, _, hcell, hwz⟩
  · simp at hcs; subst hcs
    exact ⟨[], by simp [ints], by simp [ints], none, 0, rfl, by simp [ints], by simp, .inl rfl⟩
  · simp at hcs; subst hcs
    have hz' : zs.length = c := by simpa using hz
    exact ⟨_, Go.Proofs.YtihgikekkgoddaaGreatDoor.isB_mk hl hm hz' hwz (fun h => by cases h) (fun a' h i hi => by cases h; exact hcell i (by omega))⟩
set_option maxRecDepth 100000 in
theorem cells_lact {fuel : Nat} {cs : List Value} {x : DataW H × List MemPlace} (h : DataW.trod enc Tryz.prog w base (fun _ => true) held fuel 51 cs = some x) : ∃ y, IsL w cs y := by
  obtain ⟨xs, n, _, _, hcl, hxl, hf⟩ := DataW.trod_struct Tryz.underlying51 h
  rw [cellsL] at hcl
  match cs, hcl with
  | [c0, c1, c2, c3, c4, c5, c6, c7, c8], _ =>
  have hx : ∀ i, i < 4 → ∃ y, xs[i]? = some y := fun i hi => ⟨_, List.getElem?_eq_getElem (by rw [hxl]; exact hi)⟩
  obtain ⟨y0, e0⟩ := hx 0 (by decide)
  obtain ⟨y1, e1⟩ := hx 1 (by decide)
  obtain ⟨y2, e2⟩ := hx 2 (by decide)
  obtain ⟨y3, e3⟩ := hx 3 (by decide)
  have f0 : DataW.trod enc Tryz.prog w base (fun _ => true) held n 5 [c0] = some y0 := by
    have h0 := hf 0 _ rfl
    rw [e0] at h0
    simpa [k5] using h0
  have f1 : DataW.trod enc Tryz.prog w base (fun _ => true) held n 49 [c1, c2, c3, c4, c5, c6] = some y1 := by
    have h1 := hf 1 _ rfl
    rw [e1] at h1
    simpa [cellsAct] using h1
  have f2 : DataW.trod enc Tryz.prog w base (fun _ => true) held n 9 [c7] = some y2 := by
    have h2 := hf 2 _ rfl
    rw [e2] at h2
    simpa [k9] using h2
  have f3 : DataW.trod enc Tryz.prog w base (fun _ => true) held n 22 [c8] = some y3 := by
    have h3 := hf 3 _ rfl
    rw [e3] at h3
    simpa [k30] using h3
  obtain ⟨a, q0, _, wa⟩ := DataW.trod_int Tryz.underlying5 f0
  obtain ⟨fl, hfl⟩ := cells_act f1
  obtain ⟨s2, q2, _, l2⟩ := DataW.trod_string Tryz.underlying9 f2
  obtain ⟨bs, hB⟩ := cells_byts f3
  simp only [List.cons.injEq, and_true] at q0 q2
  subst q0 q2
  have ha := Go.Proofs.YtihgikekkgoddaaGreatDoor.wf_u8 wa
  refine ⟨⟨a.toNat, fl, s2.data.toList, bs⟩, by show a.toNat < 256; omega, by show s2.data.toList.length ≤ _; rw [Array.length_toList]; exact l2, _, c8, ?_, hfl, hB⟩
  rw [str_of s2, show ((a.toNat : Nat) : Int) = a by omega]
  rfl
set_option maxRecDepth 100000 in
theorem open_lacts {r : Reach} {base0 : Nat} {v : Value} {d : DataW H} {p : List MemPlace} (hv : Value.okWide Tryz.prog w r base0 40 v) (h : DataW.Trod enc Tryz.prog w base (fun _ => true) held 40 v d p) : ∃ l, IsLs w v l := by
  obtain ⟨a, len, cap, rfl⟩ := okWide_slice Tryz.underlying40 hv
  obtain ⟨fuel, hf⟩ := h
  rcases Go.Deep.open_slice Tryz.underlying40 hf with ⟨hcs, _⟩ | ⟨x, l, c, m, n, D, Pl, hcs, _, hl, hm, hmm, _, hx⟩
  · simp [Value.cells] at hcs
    obtain ⟨rfl, rfl, rfl⟩ := hcs
    exact ⟨[], by simp, none, 0, rfl, .inl rfl⟩
  · simp [Value.cells] at hcs
    obtain ⟨rfl, rfl, rfl⟩ := hcs
    have hm' : m = cap := by simpa using hmm
    rw [cellsL] at hx
    have hall : ∀ i, i < len → ∃ y cs, IsL w cs y ∧ w.cells? base (x.add (i * 9)) 9 = some cs := fun i hi => by
      obtain ⟨cs', h1, h2⟩ := hx i (by omega)
      obtain ⟨y, hy⟩ := cells_lact h2
      exact ⟨y, cs', hy, h1⟩
    have hch : ∃ Y : Nat → LAct, ∀ i, i < len → ∃ cs, IsL w cs (Y i) ∧ w.cells? base (x.add (i * 9)) 9 = some cs := by
      refine ⟨fun i => if hi : i < len then Classical.choose (hall i hi) else ⟨0, ⟨0, [], [], [], 0, []⟩, [], []⟩, fun i hi => ?_⟩
      simp only [hi, dif_pos]
      exact Classical.choose_spec (hall i hi)
    obtain ⟨Y, hY⟩ := hch
    have hlen : ((List.range len).map Y).length = len := by simp
    refine ⟨(List.range len).map Y, by omega, some x, cap, by rw [hlen], ?_⟩
    by_cases h0 : len = 0
    · left; simp [h0]
    · right
      obtain ⟨b, off, spot⟩ := x
      have hsp : spot = none := by
        obtain ⟨cs, _, h1⟩ := hY 0 (by omega)
        have h2 := (World.cells?_some h1).2.2 0 (by decide)
        obtain ⟨u, hu⟩ : ∃ u, w.cell? ((Addr.add ⟨b, off, spot⟩ (0 * 9)).add 0) = some u := by
          rw [h2]
          exact ⟨_, List.getElem?_eq_getElem (by have := (World.cells?_some h1).2.1; omega)⟩
        simpa [Addr.add] using World.cell?_spot hu
      subst hsp
      refine ⟨b, off, rfl, fun i hi => ?_⟩
      obtain ⟨cs, h1, h2⟩ := hY i (by omega)
      refine ⟨cs, by simpa using h1, fun j hj => ?_⟩
      have h3 := (World.cells?_some h2).2.2 j hj
      rw [Addr.add_lit, Addr.add_lit] at h3
      exact h3
set_option maxRecDepth 100000 in
theorem open_nums {r : Reach} {base0 : Nat} {v : Value} {d : DataW H} {p : List MemPlace} (hv : Value.okWide Tryz.prog w r base0 41 v) (h : DataW.Trod enc Tryz.prog w base (fun _ => true) held 41 v d p) : ∃ l, IsI w v l := by
  obtain ⟨a, len, cap, rfl⟩ := okWide_slice Tryz.underlying41 hv
  obtain ⟨fuel, hf⟩ := h
  exact cells_ints (v := .slice a len cap) (by simpa [Value.cells] using hf)
end
def bytes5 (l : List LAct) (k : Nat) : Nat := ((l.take k).map fun x => x.b.length + x.name.length).sum
theorem bytes5_succ (l : List LAct) (k : Nat) (hk : k < l.length) : bytes5 l (k + 1) = bytes5 l k + (l[k].b.length + l[k].name.length) := by
  unfold bytes5
  rw [List.take_succ_eq_append_getElem hk, List.map_append, List.sum_append]
  congr 1
/-- not too many acts, not too many bytes. -/
def Fit5 (l : List LAct) : Prop := l.length ≤ 100 ∧ bytes5 l l.length ≤ 30000
/-- six cells each. -/
theorem flat_at : ∀ (L : List (List Value)), (∀ x ∈ L, x.length = 6) → ∀ (i j : Nat) (hi : i < L.length), j < 6 → L.flatten[i * 6 + j]? = L[i][j]?
  | [], _, i, j, hi, _ => by simp at hi
  | x :: L, h, 0, j, _, hj => by
    have hx := h x (by simp)
    rw [List.flatten_cons, Nat.zero_mul, Nat.zero_add, List.getElem?_append_left (by omega)]
    rfl
  | x :: L, h, i + 1, j, hi, hj => by
    have hx := h x (by simp)
    rw [List.flatten_cons, List.getElem?_append_right (by omega), show (i + 1) * 6 + j - x.length = i * 6 + j by omega, flat_at L (fun y hy => h y (by simp [hy])) i j (by simpa using hi) hj]
    rfl
set_option maxRecDepth 100000 in
theorem actInfo : (Tryz.prog.info? 49).map (fun i => (i.zero, i.size, i.bytes)) = some (some (.agg #[.int .u8 0, .string ⟨#[]⟩, .string ⟨#[]⟩, .slice none 0 0, .int .i64 0, .slice none 0 0]), 6, 96) := by kernel_rfl
end Go.Proofs.YtihgikekkgoddaaGreatDoor
/- LogRecovers: contract of the law's great. -/
namespace Go.Proofs.YtihgikekkgoddaaGreatDoor
open Go.RowKit Go.Shelf Sto

/-- append of one element of six cells to an owned row. -/
theorem push6 {base t e : Nat} {i : TypeInfo} {z : Value} {size bytes : Nat} (ht : Tryz.prog.underlying t = some (.slice e)) (hi : Tryz.prog.info? e = some i) (hz : i.zero = some z) (hsize : i.size = size) (hby : i.bytes = bytes) (hzs : z.cells.size = size) (hsz : 0 < size)
    {w : World} {v : Value} {n : Nat} {xs : List Value} (hr : w.ownsRow base e size v n xs) (news : List Value) (hl : news.length = size) (h1 : ∀ u ∈ news, u.oneCell' = true) (hn : n ≤ 4000000) (hb8 : bytes ≤ 128) (hb : base ≤ w.heap.size) :
    ∃ a' c' w', (∀ ty, (Builtin.append_ #[t, t] ty #[v, .slice (some ⟨w.heap.size, 0, none⟩) 1 1]).run Tryz.prog (w.alloc (.cells news.toArray e)) = .ok (.slice a' (n + 1) c') w') ∧ w'.ownsRow base e size (.slice a' (n + 1) c') (n + 1) (xs ++ news) ∧ w.grownBy w' v.ownBlock := by
  have e0 : (w.alloc (.cells news.toArray e)).heap[w.heap.size]? = some (.cells news.toArray e) := (MapKept.heap_alloc w _).1
  have hcells : ∀ j u, news[j]? = some u → (w.alloc (.cells news.toArray e)).cell? ((⟨w.heap.size, 0, none⟩ : Addr).add j) = some u := by
    intro j u hu
    rw [Addr.add_lit, cell_of e0, Nat.zero_add]
    simpa using hu
  obtain ⟨v', w', hrun, h3, h4, _, h5⟩ := run_append_own_at (P := Tryz.prog) (w.alloc (.cells news.toArray e)) base t 0 e i z size bytes ht hi hz hsize hby hzs hsz v n xs (hr.alloc _) ⟨w.heap.size, 0, none⟩ 1 1 news (by omega) hcells h1 (by unfold maxLen; omega) (by have := Nat.mul_le_mul (show n + 1 ≤ 4000001 by omega) hb8; omega) (by simp; omega)
  obtain ⟨a', c', rfl⟩ := row_slice h3
  exact ⟨a', c', w', fun ty => hrun, h3, ⟨h4.os, h4.tape, h4.output, by have := h4.size; simp at this; omega, fun k hk hne => (h4.block k (by simp; omega) hne).trans ((alloc_low w _).block k hk)⟩⟩
/-- the acts of files, gathered in a row of our own. -/
def Gath (w : World) (l : List LAct) (k : Nat) (av : Value) (wr : World) : Prop :=
  Below w.heap.size w wr ∧ ∃ L : List (List Value), L.length = k ∧ wr.ownsRow w.heap.size 49 6 av k L.flatten ∧ ∀ i (hi : i < k) (hl : i < l.length), ∃ cs, L[i]? = some cs ∧ IsAct w cs l[i].fl
theorem act_six {w : World} {cs : List Value} {x : ActD} (h : IsAct w cs x) : cs.length = 6 := by obtain ⟨_, vb, vk, rfl, _⟩ := h; rfl
theorem act_one {w : World} {cs : List Value} {x : ActD} (h : IsAct w cs x) : ∀ u ∈ cs, u.oneCell' = true := by
  obtain ⟨_, vb, vk, rfl, h1, h2⟩ := h
  obtain ⟨_, a, c, rfl, _⟩ := h1
  obtain ⟨_, _, a', c', rfl, _⟩ := h2
  intro u hu
  simp at hu
  rcases hu with rfl | rfl | rfl | rfl | rfl | rfl <;> rfl
theorem Gath.push {w : World} {l : List LAct} {k : Nat} {av : Value} {wr : World} (h : Gath w l k av wr) (hk : k < l.length) (hk2 : k ≤ 1000) {cs : List Value} (hcs : IsAct w cs l[k].fl) :
    ∃ a' c' w', (∀ ty, (Builtin.append_ #[74, 74] ty #[av, .slice (some ⟨wr.heap.size, 0, none⟩) 1 1]).run Tryz.prog (wr.alloc (.cells cs.toArray 49)) = .ok (.slice a' (k + 1) c') w') ∧ Gath w l (k + 1) (.slice a' (k + 1) c') w' := by
  obtain ⟨h1, L, h2, h3, h4⟩ := h
  obtain ⟨i0, hi, hz0, hz1, hz2⟩ := info_parts actInfo
  obtain ⟨a', c', w', hrun, hown, hgr⟩ := push6 (base := w.heap.size) (t := 74) Tryz.underlying74 hi hz0 hz1 hz2 rfl (by omega) h3 cs (act_six hcs) (act_one hcs) (by omega) (by omega) h1.size
  refine ⟨a', c', w', hrun, h1.trans ⟨hgr.os, hgr.tape, hgr.output, hgr.size, fun b hb => hgr.block b (by have := h1.size; omega) fun e => by have := (h3.lt b e.symm).1; omega⟩, L ++ [cs], by simp [h2], by rw [List.flatten_append]; simpa using hown, fun i hi hl => ?_⟩
  by_cases hik : i < k
  · obtain ⟨c, h5, h6⟩ := h4 i hik hl
    exact ⟨c, by rw [List.getElem?_append_left (by omega)]; exact h5, h6⟩
  · obtain rfl : i = k := by omega
    exact ⟨cs, by rw [List.getElem?_append_right (by omega), show i - L.length = 0 by omega]; rfl, hcs⟩
theorem Gath.acts {w : World} {l : List LAct} {av : Value} {wr : World} (h : Gath w l l.length av wr) (hl : l.length ≤ 1000) : IsActs wr av (l.map LAct.fl) := by
  obtain ⟨h1, L, h2, h3, h4⟩ := h
  have h6 : ∀ x ∈ L, x.length = 6 := fun x hx => by
    obtain ⟨i, hi, rfl⟩ := List.mem_iff_getElem.1 hx
    obtain ⟨cs, h5, h7⟩ := h4 i (by omega) (by omega)
    rw [List.getElem?_eq_getElem hi] at h5
    cases h5
    exact act_six h7
  rcases h3.2 with ⟨rfl, h0⟩ | ⟨g, cap, cur, rfl, _, _, h7, h8, _⟩
  · exact ⟨by simp; unfold maxLen; omega, none, 0, by simp [h0], .inl (by rw [List.eq_nil_of_length_eq_zero h0]; rfl)⟩
  · refine ⟨by simp; unfold maxLen; omega, _, cap, by rw [List.length_map], .inr ⟨g, 0, rfl, fun i hi => ?_⟩⟩
    rw [List.length_map] at hi
    obtain ⟨cs, h9, h10⟩ := h4 i hi hi
    refine ⟨cs, by rw [List.getElem_map]; exact h10.below h1, fun j hj => ?_⟩
    have e : L.flatten[i * 6 + j]? = cs[j]? := by
      rw [flat_at L h6 i j (by omega) hj]
      rw [List.getElem?_eq_getElem (by omega)] at h9
      cases h9; rfl
    have hc := act_six h10
    rw [List.getElem?_eq_getElem (show j < cs.length by omega)] at e ⊢
    have := h3.cells (g := g) rfl (i * 6 + j) _ e
    rw [Addr.add_lit] at this
    rw [Nat.zero_add]
    rwa [Nat.zero_add] at this
def Great5 (l : List LAct) (w : World) (e : Ending) (w' : World) : Prop := ∃ r : Bool, e = .returned (.bool r) ∧ (r = false → Fit5 l) ∧ Below w.heap.size w w'
set_option maxRecDepth 100000 in
set_option maxHeartbeats 8000000 in
theorem great5 (v : Value) (l : List LAct) (w : World) (h : IsLs w v l) :
    Calls Tryz.prog 14 #[v] w (Great5 l w) := by
  have hml := h.1
  unfold maxLen at hml
  obtain ⟨av, cv, hv⟩ : ∃ a c, v = .slice a l.length c := by obtain ⟨_, a, c, e, _⟩ := h; exact ⟨a, c, e⟩
  rw [hv] at h ⊢
  replace h := hid h
  clear hv
  by_cases h100 : 100 < l.length
  · have h100' : (100 : Int) < (l.length : Int) := by omega
    go_enter Tryz.func14, Tryz.ntmps14
    go_wp2
    go_ret
    exact ⟨true, rfl, (fun e => by cases e), Below.refl _ _⟩
  have h100' : ¬ (100 : Int) < (l.length : Int) := by omega
  go_enter Tryz.func14, Tryz.ntmps14
  go_wp2
  go_loopw [3, 4, 5] (fun gv nv iv wr => ∃ (k : Nat), k ≤ l.length ∧ iv = .int .i64 k ∧ nv = .int .i64 (bytes5 l k) ∧ bytes5 l k ≤ 60000 * k ∧ (∃ x y, gv = .slice x k y) ∧ Gath w l k gv wr) (fun _ _ iv _ => l.length - (intOf iv).toNat)
  case atStart => exact ⟨0, by omega, rfl, rfl, by simp [bytes5], ⟨_, _, rfl⟩, Below.refl _ _, [], rfl, World.ownsRow_nil _ _ _ _, fun i hi => by omega⟩
  case round =>
    rename_i gv wr
    obtain ⟨k, hk, rfl, rfl, hs, ⟨x, y, rfl⟩, hG⟩ := hrel
    by_cases hlt : k < l.length
    · have hlt' : (k : Int) < (l.length : Int) := by omega
      obtain ⟨b, off, fb, fk, vb, rfl, hkd, hnl, hok, hfB, hfI, hB, d0, d1, d2, d3, d4, d5, d6, d7, d8⟩ := h.out.at k hlt
      have T : ∀ o u, w.cell? ⟨b, o, none⟩ = some u → wr.cell? ⟨b, o, none⟩ = some u := fun o u hu => (hG.1.cell (p := ⟨b, o, none⟩) (World.block_lt_of_cell? w _ hu)).trans hu
      have c1 := T _ _ d1
      have c2 := T _ _ d2
      have c3 := T _ _ d3
      have c4 := T _ _ d4
      have c5 := T _ _ d5
      have c6 := T _ _ d6
      have c7 := T _ _ d7
      have c8 := T _ _ d8
      obtain ⟨va, vc, rfl⟩ := hB.slice
      rw [ints_len] at c8
      obtain ⟨_, fa, fc, rfl, _⟩ := id hfB
      obtain ⟨_, _, ka, kc, rfl, _⟩ := id hfI
      have PU : Hid (∀ n, ∃ a' c' w', (∀ ty, (Builtin.append_ #[74, 74] ty #[.slice x k y, .slice (some ⟨wr.heap.size, 0, none⟩) 1 1]).run Tryz.prog ((wr.drewN n).alloc (.cells #[.int .u8 (l[k].fl.kind : Int), str l[k].fl.name, str l[k].fl.other, .slice fa l[k].fl.b.length fc, .int .i64 l[k].fl.n, .slice ka l[k].fl.keep.length kc] 49)) = .ok (.slice a' (k + 1) c') w') ∧ Gath w l (k + 1) (.slice a' (k + 1) c') w') := fun n =>
        Gath.push (wr := wr.drewN n) ⟨low_drewN n _ hG.1, hG.2⟩ hlt (by omega) (cs := [.int .u8 (l[k].fl.kind : Int), str l[k].fl.name, str l[k].fl.other, .slice fa l[k].fl.b.length fc, .int .i64 l[k].fl.n, .slice ka l[k].fl.keep.length kc]) ⟨hok, _, _, rfl, hfB, hfI⟩
      have hsu := hid (bytes5_succ l k hlt)
      have hs1 : (⟨l[k].name.toArray⟩ : ByteArray).size = l[k].name.length := by show l[k].name.toArray.size = _; simp
      have hG' := hid hG
      unfold maxLen at hnl
      unfold str at c2 c3 c7 PU
      replace d7 := hid d7
      replace d8 := hid d8
      clear hG T d0 d1 d2 d3 d4 d5 d6 hok hfB hfI hB
      generalize l[k] = xk at *
      by_cases t1 : 30000 < xk.b.length
      · have t1' : (30000 : Int) < (xk.b.length : Int) := by omega
        go_wp2
        go_ret
        exact ⟨true, rfl, (fun e => by cases e), hG'.out.1⟩
      · have t1' : ¬ (30000 : Int) < (xk.b.length : Int) := by omega
        by_cases t2 : 30000 < xk.name.length
        · have t2' : (30000 : Int) < (xk.name.length : Int) := by omega
          go_wp2
          go_ret
          exact ⟨true, rfl, (fun e => by cases e), hG'.out.1⟩
        · have t2' : ¬ (30000 : Int) < (xk.name.length : Int) := by omega
          obtain ⟨a7, c7', w7, run7, G7⟩ := PU.out 0
          have T7 : ∀ o u, w.cell? ⟨b, o, none⟩ = some u → w7.cell? ⟨b, o, none⟩ = some u := fun o u hu => (G7.1.cell (p := ⟨b, o, none⟩) (World.block_lt_of_cell? w _ hu)).trans hu
          have e7 := T7 _ _ d7.out
          have e8 := T7 _ _ d8.out
          unfold str at e7
          have G7' : Hid (∀ n, Gath w l (k + 1) (.slice a7 (k + 1) c7') (w7.drewN n)) := fun n => ⟨low_drewN n _ G7.1, G7.2⟩
          clear T7 d7 d8 G7 PU
          rw [ints_len] at e8
          generalize bytes5 l k = m at *
          go_wp2_with (at_builtin; refine wpList_append_run _ rfl _ _ 74 rfl _ _ _ _ rfl rfl run7 ?_)
          go_quiet (fail)
          go_wp2
          refine ⟨⟨k + 1, by omega, by go_num, by rw [hsu.out]; go_num, by rw [hsu.out]; omega, ⟨_, _, rfl⟩, G7'.out _⟩, by simp [intOf]; omega⟩
    · have hge : ¬ (k : Int) < (l.length : Int) := by omega
      obtain rfl : k = l.length := by omega
      have ga := hid (great_any _ _ wr (hG.acts (by omega)))
      have fin : Hid (∀ r : Bool, r = decide ((30000 : Int) < (bytes5 l l.length : Int)) → r = false → Fit5 l) := fun r hr e => by
        rw [e] at hr
        have := of_decide_eq_false hr.symm
        exact ⟨by omega, by omega⟩
      have LW : Hid (∀ n, Below w.heap.size w (wr.drewN n)) := fun n => low_drewN n _ hG.1
      clear hG
      generalize bytes5 l l.length = m at *
      go_wp2_with fail
      refine ga.out.mono ?_
      rintro e w8 ⟨r8, rfl, _, q, rfl⟩
      clear ga
      cases r8 with
      | true =>
        go_wp2
        go_ret
        exact ⟨true, rfl, (fun e => by cases e), LW.out q⟩
      | false =>
        go_wp2
        go_ret
        exact ⟨_, rfl, fin.out _ rfl, LW.out q⟩
end Go.Proofs.YtihgikekkgoddaaGreatDoor
