/- Contract of All. -/
import Derived.Test.YtlggdeadkebgiaaC7
namespace Go.Proofs.Ytlggdeadkebgiaa
open Go.RowKit Go.Shelf
attribute [local go_sem] Oper.semAt_some

theorem wpListIn_append_run {F : Fence} {n : Nat} {P : Program} (w : World) {ops : Array Oper} {rest : List Oper} {o : Oper} {a : Act} {Q : Exit → Act → World → Prop}
    (hg : o.guard = none) (s x : Operand) (t : TypeId) (hop : o.op = Op.call { callee := Callee.builtin Builtin.append, args := #[s, x], argTypes := #[t, t] })
    (v v2 v' : Value) (w' : World) (hs : a.eval s = v) (hx : a.eval x = v2) (hrun : ∀ ty, (Builtin.append_ #[t, t] ty #[v, v2]).run P w = .ok v' w')
    (h : wpListIn F n P ops Q rest (a.put o.dst v') w') : wpListIn F n P ops Q (o :: rest) a w := by
  refine wpListIn_plain hg fun K hK' => ?_
  unfold Oper.wpIn
  refine ⟨?_, ?_⟩
  · simp [Oper.about, hop, resolve, Target.leads, Sem.run_pure]
  · rw [Oper.semAt_plain F _ _ (by rw [hop]; intro c hc'; cases hc')]
    simp [execOp, hop, resolve, invoke, builtin, hs, hx, hrun, Result.andThen]
    exact hK' _ _ h
/-- the tokens of the first k rows. -/
def toks (r : List (Tk × Nat)) (k : Nat) : List Tk := (r.take k).map Prod.fst
theorem toks_len {r : List (Tk × Nat)} {k : Nat} (h : k ≤ r.length) : (toks r k).length = k := by simp [toks]; omega
theorem toks_succ {r : List (Tk × Nat)} {k : Nat} {x : Tk} {e : Nat} (h : r[k]? = some (x, e)) : toks r (k + 1) = toks r k ++ [x] := by
  unfold toks; rw [List.take_add_one, h]; simp
/-- All's own memory between two rounds. -/
structure AllI (n B : Nat) (w : World) (Dat : World → Prop) (r : List (Tk × Nat)) (hi k : Nat) (W : World) : Prop where
  dat : Dat W
  low : Below w.heap.size w W
  sz : B ≤ W.heap.size
  b2 : Boxed W n 25 (.slice none 0 0)
  b3 : Boxed W (n + 1) 3 (.int .i64 0)
  b4 : Boxed W (n + 1 + 1) 26 (.int .i64 0)
  row : ∃ a c, Boxed W (n + 1 + 1 + 1) 25 (.slice a k c) ∧ (B + 2 ≤ hi → OwnT hi W (.slice a k c) (toks r k))
  zero : ∀ x ∈ r.take k, x.2 = 0
structure AllX (n : Nat) (w : World) (r : List (Tk × Nat)) (W : World) : Prop where
  low : Below w.heap.size w W
  out : ∃ x e, (x, e) ∈ r ∧ e ≠ 0 ∧ Boxed W n 25 (.slice none 0 0) ∧ Boxed W (n + 1) 3 (.int .i64 (x.at_ : Int)) ∧ Boxed W (n + 1 + 1) 26 (.int .i64 (e : Int))
theorem AllI.kept {n B : Nat} {w : World} {Dat : World → Prop} {r : List (Tk × Nat)} {hi k : Nat} {A C : World} (h : AllI n B w Dat r hi k A) (hn : n = w.heap.size) (hB : n + 4 ≤ B)
    (hd : ∀ A C, Dat A → (∀ b, n + 4 ≤ b → b < B → C.heap[b]? = A.heap[b]?) → Dat C) (hk : Kept (fun b => b = B ∨ b = B + 1) A C) : AllI n B w Dat r hi k C := by
  have bx : ∀ {b t v}, b < B → Boxed A b t v → Boxed C b t v := fun hb h2 => (hk.block _ h2.lt (by omega)).trans h2
  obtain ⟨a, c, h1, h2⟩ := h.row
  have hs := h.low.size
  refine ⟨hd A C h.dat fun b h1 h2 => hk.block b (by have := h.sz; omega) (by omega), h.low.trans (hk.below hs fun k hk => by omega), Nat.le_trans h.sz hk.size, bx (by omega) h.b2, bx (by omega) h.b3, bx (by omega) h.b4, ⟨a, c, bx (by omega) h1, fun hh => ?_⟩, h.zero⟩
  exact (h2 hh).keep fun b hb => by
    have := (h2 hh).lt hb
    exact hk.block b this.2 (by omega)
theorem AllX.kept {n B : Nat} {w : World} {r : List (Tk × Nat)} {A C : World} (h : AllX n w r A) (hn : n = w.heap.size) (hB : n + 4 ≤ B) (hk : Kept (fun b => b = B ∨ b = B + 1) A C) : AllX n w r C := by
  have bx : ∀ {b t v}, b < B → Boxed A b t v → Boxed C b t v := fun hb h2 => (hk.block _ h2.lt (by omega)).trans h2
  obtain ⟨x, e, h1, h2, h3, h4, h5⟩ := h.out
  have hs : w.heap.size ≤ A.heap.size := h.low.size
  exact ⟨h.low.trans ⟨hk.os, hk.tape, hk.output, hk.size, fun b hb => hk.block b (by omega) (by omega)⟩, x, e, h1, h2, bx (by omega) h3, bx (by omega) h4, bx (by omega) h5⟩
/-- the world behind the loop's variable. -/
def oneIn (args : Array Value) (W : World) : World :=
  match args.getD 0 undef with
  | .agg c => W.alloc (.cells c 31)
  | _ => W
def AllPost (r : List (Tk × Nat)) (w : World) (e : Ending) (w' : World) : Prop :=
  ∃ v, e = .returned v ∧ Below w.heap.size w w' ∧ ((∃ x er, (x, er) ∈ r ∧ er ≠ 0 ∧ v = .tuple #[.slice none 0 0, .int .i64 (x.at_ : Int), .int .i64 (er : Int)]) ∨ (∃ a c, v = .tuple #[.slice a r.length c, .int .i64 0, .int .i64 0] ∧ OwnT w.heap.size w' (.slice a r.length c) (toks r r.length) ∧ ∀ x ∈ r, x.2 = 0))
set_option maxRecDepth 100000 in
set_option maxHeartbeats 4000000 in
theorem all_any (s : Tx) (r : List (Tk × Nat)) (hr : TellOf s r) (w : World) (hs : s.length ≤ 35184372088832) : Calls Try.prog 10 #[str s] w (AllPost r w) := by
  have ht := hid (fun w => tell_any s w hs)
  have hmid := hid (show (∀ p ∈ r, p.1.text.length ≤ 4096) ∧ r.length ≤ 4097 from by
    rcases hr with ⟨_, rfl⟩ | ⟨h, l, b, hsc, rfl⟩
    · refine ⟨fun p hp => ?_, by simp⟩
      simp at hp; subst hp; simp
    · obtain ⟨h1, h2, h3⟩ := scan_mem hsc
      unfold told
      refine ⟨fun p hp => ?_, ?_⟩
      · rcases List.mem_append.1 hp with hp | hp
        · obtain ⟨x, hx, rfl⟩ := List.mem_map.1 hp
          have := (h2 x hx).1
          show x.text.length ≤ _
          omega
        · cases b with
          | none => cases hp
          | some q => simp [bads] at hp; subst hp; simp
      · cases b <;> simp [bads] <;> omega)
  unfold str at *
  refine (callsIn_wide (n := 9)).1 ?_
  refine callsIn_of_wp_marks Try.func10 rfl trivial ?_ rfl
  simp only [Try.ntmps10, List.size_toArray, List.length_cons, List.length_nil, Nat.reduceAdd, Nat.reduceSub, Array.replicate_succ, Array.replicate_zero, List.push_toArray, List.append_toArray, List.nil_append, List.cons_append]
  gi_wp2_with fail
  obtain ⟨w4, hw4⟩ : ∃ w4, (((w.alloc (.cells #[Value.slice none 0 0] 25)).alloc (.cells #[Value.int .i64 0] 3)).alloc (.cells #[Value.int .i64 0] 26)).alloc (.cells #[Value.slice none 0 0] 25) = w4 := ⟨_, rfl⟩
  have sz4 : w4.heap.size = w.heap.size + 4 := by rw [← hw4]; simp
  have lo4 : Below w.heap.size w w4 := by rw [← hw4]; exact ((((Below.refl _ w).alloc (Nat.le_refl _) _).alloc (by simp) _).alloc (by simp; omega) _).alloc (by simp; omega) _
  have b2 : Boxed w4 w.heap.size 25 (.slice none 0 0) := by rw [← hw4]; exact (((Boxed.new w _ _).alloc _).alloc _).alloc _
  have b3 : Boxed w4 (w.heap.size + 1) 3 (.int .i64 0) := by
    rw [← hw4]
    have := ((Boxed.new (w.alloc (.cells #[Value.slice none 0 0] 25)) 3 (.int .i64 0)).alloc (.cells #[Value.int .i64 0] 26)).alloc (.cells #[Value.slice none 0 0] 25)
    simpa using this
  have b4 : Boxed w4 (w.heap.size + 1 + 1) 26 (.int .i64 0) := by
    rw [← hw4]
    have := (Boxed.new ((w.alloc (.cells #[Value.slice none 0 0] 25)).alloc (.cells #[Value.int .i64 0] 3)) 26 (.int .i64 0)).alloc (.cells #[Value.slice none 0 0] 25)
    simpa using this
  have b5 : Boxed w4 (w.heap.size + 1 + 1 + 1) 25 (.slice none 0 0) := by
    rw [← hw4]
    have := Boxed.new (((w.alloc (.cells #[Value.slice none 0 0] 25)).alloc (.cells #[Value.int .i64 0] 3)).alloc (.cells #[Value.int .i64 0] 26)) 25 (.slice none 0 0)
    simpa using this
  rw [hw4]
  clear hw4
  refine ⟨trivial, (callsIn_wide.2 (ht.out _)).mono ?_⟩
  rintro e w1 ⟨g, lb, Dat, rfl, eg, hb1, hdat, hdk, hgv⟩
  gi_wp2_with fail
  have hsz := hb1.size
  obtain ⟨B, hB⟩ : ∃ B, B = w1.heap.size := ⟨_, rfl⟩
  obtain ⟨n, hn⟩ : ∃ n, n = w.heap.size := ⟨_, rfl⟩
  have hnB : n + 4 ≤ B := by omega
  have hd : ∀ A C, Dat A → (∀ b, n + 4 ≤ b → b < B → C.heap[b]? = A.heap[b]?) → Dat C := fun A C h1 h2 => hdk A C h1 fun b h3 h4 => h2 b (by omega) (by omega)
  have start : ∀ hi, AllI n B w Dat r hi 0 w1 := fun hi => by
    have bx : ∀ {b t v}, Boxed w4 b t v → Boxed w1 b t v := fun h2 => (hb1.block _ h2.lt).trans h2
    rw [hn, hB]
    exact ⟨hdat, lo4.trans (hb1.mono (by omega)), Nat.le_refl _, bx b2, bx b3, bx b4, ⟨none, 0, bx b5, fun _ => ownT_nil _ _⟩, fun x hx => by simp at hx⟩
  rw [← hn]
  have HN := hid hn
  have HB := hid hB
  clear hn hB
  refine range2 (gf := g) (lb := lb) rfl eg (hgv r hr w1) (fun k args hy => by obtain ⟨x, e, _, rfl⟩ := hy; rfl)
    (fun hi k W => AllI n B w Dat r hi k W) (fun c hi k W => c = .ret ∧ AllX n w r W)
    (fun hi k A C h hk => h.kept HN.out hnB hd (by rw [HB.out]; exact hk)) (fun c hi k A C h hk => ⟨h.1, h.2.kept HN.out hnB (by rw [HB.out]; exact hk)⟩)
    (fun hi k A h => h.dat) (fun hi _ => start hi)
    (fun args W => { tmps := #[.string ⟨s.toArray⟩, undef, .pointer (some ⟨n, 0, none⟩), .pointer (some ⟨n + 1, 0, none⟩), .pointer (some ⟨n + 1 + 1, 0, none⟩), .pointer (some ⟨n + 1 + 1 + 1, 0, none⟩), .pointer (some ⟨W.heap.size, 0, none⟩), args.getD 1 undef, .string ⟨s.toArray⟩, .func (.func g) #[] lb, args.getD 0 undef, args.getD 1 undef, undef, undef, undef, undef, undef, undef, undef, undef, undef, undef], defers := [] })
    oneIn (fun args W => by unfold oneIn; split; exact alloc_below _ _; exact Below.refl _ _) ?assign ?body ?done ?stop
  case assign =>
    rintro i l1 k args W K ⟨x, e, hx, rfl⟩ hK
    unfold tkA
    gi_wp2
    exact hK
  case done =>
    rintro hi V hh1 hh2 hI hK
    obtain ⟨a, c, hrow, hown⟩ := hI.row
    have hc5 := hrow.cell
    have x2 := hI.b2
    have x3 := hI.b3
    have x4 := hI.b4
    have hlow := hid hI.low
    have hzero := hid hI.zero
    have hown' := hid (hown (by rw [HB.out]; exact hh1))
    have hnw : n + 4 ≤ w1.heap.size := by rw [← HB.out]; exact hnB
    clear hI hown
    have f2 := x2.frozen
    have f3 := x3.frozen
    have f4 := x4.frozen
    have d2 := x2.cell
    have d3 := x3.cell
    have d4 := x4.cell
    have fin : Hid (∀ W3, W3 = ((V.setCell ⟨n, 0, none⟩ (.slice a r.length c)).setCell ⟨n + 1, 0, none⟩ (.int .i64 0)).setCell ⟨n + 1 + 1, 0, none⟩ (.int .i64 0) → Boxed W3 n 25 (.slice a r.length c) ∧ Boxed W3 (n + 1) 3 (.int .i64 0) ∧ Boxed W3 (n + 1 + 1) 26 (.int .i64 0) ∧ W3.heap[w1.heap.size]? = some (.deferred (some [])) ∧ Below w.heap.size w W3 ∧ OwnT hi W3 (.slice a r.length c) (toks r r.length)) := by
      intro W3 e3
      rw [e3]
      refine ⟨((x2.set _).other (by omega) _).other (by omega) _, ((x3.other (by omega) _).set _).other (by omega) _, ((x4.other (by omega) _).other (by omega) _).set _, ?_, ?_, ?_⟩
      · exact ((heap_set _ _ _ _ _ (by omega)).trans ((heap_set _ _ _ _ _ (by omega)).trans (heap_set _ _ _ _ _ (by omega)))).trans hK
      · have := HN.out
        exact ((hlow.out.setCell (p := ⟨n, 0, none⟩) (by show _ ≤ n; omega) _).setCell (p := ⟨n + 1, 0, none⟩) (by show _ ≤ n + 1; omega) _).setCell (p := ⟨n + 1 + 1, 0, none⟩) (by show _ ≤ n + 1 + 1; omega) _
      · exact hown'.out.keep fun b hb => by
          have := hown'.out.lt hb
          exact (heap_set _ _ _ _ _ (by omega)).trans ((heap_set _ _ _ _ _ (by omega)).trans (heap_set _ _ _ _ _ (by omega)))
    gi_wp2
    obtain ⟨y2, y3, y4, hK3, hl3, ho3⟩ := fin.out _ rfl
    generalize ((V.setCell ⟨n, 0, none⟩ (.slice a r.length c)).setCell ⟨n + 1, 0, none⟩ (.int .i64 0)).setCell ⟨n + 1 + 1, 0, none⟩ (.int .i64 0) = W3 at *
    refine ⟨by simp, .inl ⟨_, _, rfl, run_takeDeferred hK3, ?_⟩⟩
    have e2 : (W3.putObj w1.heap.size (.deferred none)).cell? ⟨n, 0, none⟩ = some (.slice a r.length c) := (cell_block (World.putObj_heap_other (by omega))).trans y2.cell
    have e3 : (W3.putObj w1.heap.size (.deferred none)).cell? ⟨n + 1, 0, none⟩ = some (.int .i64 0) := (cell_block (World.putObj_heap_other (by omega))).trans y3.cell
    have e4 : (W3.putObj w1.heap.size (.deferred none)).cell? ⟨n + 1 + 1, 0, none⟩ = some (.int .i64 0) := (cell_block (World.putObj_heap_other (by omega))).trans y4.cell
    refine ⟨.tuple #[.slice a r.length c, .int .i64 0, .int .i64 0], ?_, ?_⟩
    · simp [results, Try.f10, go_sem, e2, e3, e4]
    · refine ⟨_, rfl, hl3.trans (below_put _ _ _ (by have := HN.out; omega)), .inr ⟨a, c, rfl, (ho3.keep fun b hb => World.putObj_heap_other (by have := ho3.lt hb; omega)).base (by have := HN.out; omega), fun x hx => hzero.out x (by rw [List.take_length]; exact hx)⟩⟩
  case stop =>
    rintro hi c k V hh1 hh2 hk ⟨rfl, hX⟩ hK
    obtain ⟨x, e, hx, he, x2, x3, x4⟩ := hX.out
    have hnw : n + 4 ≤ w1.heap.size := by rw [← HB.out]; exact hnB
    gi_wp2
    refine ⟨by simp, .inl ⟨_, _, rfl, run_takeDeferred hK, ?_⟩⟩
    have e2 : (V.putObj w1.heap.size (.deferred none)).cell? ⟨n, 0, none⟩ = some (.slice none 0 0) := (cell_block (World.putObj_heap_other (by omega))).trans x2.cell
    have e3 : (V.putObj w1.heap.size (.deferred none)).cell? ⟨n + 1, 0, none⟩ = some (.int .i64 (x.at_ : Int)) := (cell_block (World.putObj_heap_other (by omega))).trans x3.cell
    have e4 : (V.putObj w1.heap.size (.deferred none)).cell? ⟨n + 1 + 1, 0, none⟩ = some (.int .i64 (e : Int)) := (cell_block (World.putObj_heap_other (by omega))).trans x4.cell
    refine ⟨.tuple #[.slice none 0 0, .int .i64 (x.at_ : Int), .int .i64 (e : Int)], ?_, ?_⟩
    · simp [results, Try.f10, go_sem, e2, e3, e4]
    · exact ⟨_, rfl, hX.low.trans (below_put _ _ _ (by have := HN.out; omega)), .inl ⟨x, e, hx, he, rfl⟩⟩
  case body =>
    rintro i l1 hi k args W0 V hk hh1 hh2 hI ⟨x, e, hx, rfl⟩ hkk
    unfold tkA oneIn at hkk
    have hbox : V.heap[W0.heap.size]? = some (.cells #[.int .u8 (x.kind : Int), .string ⟨x.text.toArray⟩, .int .i64 (x.at_ : Int)] 31) := (hkk.block _ (by simp) (by have := HB.out; omega)).trans (new_block W0 _)
    unfold tkA
    have c1 := cell_of hbox 0
    have c2 := cell_of hbox 1
    have c3 := cell_of hbox 2
    simp at c1 c2 c3
    have hlt := lt_of_block hbox
    have hnw : n + 4 ≤ w1.heap.size := by rw [← HB.out]; exact hnB
    by_cases he : e = 0
    · subst he
      obtain ⟨a, c, hrow, hown⟩ := hI.row
      have hO := hown (by rw [HB.out]; exact hh1)
      have htx : x.text.length ≤ maxLen := by have := hmid.out.1 _ (List.mem_of_getElem? hx); unfold maxLen; simp only [] at this; omega
      have hhV : hi ≤ V.heap.size := by omega
      have hkr := hmid.out.2
      have hO' : OwnT hi V (.slice a k c) (toks r k) := hO
      obtain ⟨a', c', w', hrun, ho', hb'⟩ := pushT_run hO' x htx (by rw [toks_len (by omega)]; omega) hhV
      rw [toks_len (by omega)] at hrun ho'
      rw [← toks_succ hx] at ho'
      unfold kv str nv at hrun
      have bx : ∀ {b t v}, b < hi → Boxed V b t v → Boxed w' b t v := fun hb h2 => (hb'.block _ hb).trans h2
      have r5 := bx (by omega) hrow
      have g5 := r5.frozen
      have g6 := r5.cell
      have g7 := hrow.cell
      have fin : Hid (∀ W', W' = w'.setCell ⟨n + 1 + 1 + 1, 0, none⟩ (.slice a' (k + 1) c') → outOf2 w1.heap.size hi (fun hi k W => AllI n B w Dat r hi k W) (fun c hi k W => c = .ret ∧ AllX n w r W) k V .normal { tmps := #[], defers := [] } W') := by
        intro W' e'
        rw [e']
        have hs' : V.heap.size ≤ w'.heap.size := hb'.size
        have hkp : ∀ b, b < hi → b ≠ n + 1 + 1 + 1 → (w'.setCell ⟨n + 1 + 1 + 1, 0, none⟩ (.slice a' (k + 1) c')).heap[b]? = V.heap[b]? := fun b hb hne => (heap_set _ _ _ _ _ hne).trans (hb'.block b hb)
        refine ⟨⟨by rw [size_set]; exact hs', fun b h1 h2 => hkp b h2 (by omega)⟩, ?_⟩
        refine ⟨hd _ _ hI.dat fun b h1 h2 => hkp b (by have := HB.out; omega) (by omega), ?_, by rw [size_set]; exact Nat.le_trans hI.sz hs', (bx (by omega) hI.b2).other (by omega) _, (bx (by omega) hI.b3).other (by omega) _, (bx (by omega) hI.b4).other (by omega) _, ⟨a', c', r5.set _, fun _ => ?_⟩, ?_⟩
        · have := HN.out
          refine (hI.low.trans (hb'.mono (by omega))).setCell (p := ⟨n + 1 + 1 + 1, 0, none⟩) (by show _ ≤ n + 1 + 1 + 1; omega) _
        · exact ho'.keep fun b hb => heap_set _ _ _ _ _ (by have := (ho'.lt hb).1; omega)
        · intro y hy
          rw [List.take_add_one, hx] at hy
          rcases List.mem_append.1 hy with hy | hy
          · exact hI.zero y hy
          · simp at hy; subst hy; rfl
      clear hI hO hO' hown ho' hb' hkk start hgv hd hdk
      gi_wp2_with (gi_at_builtin; refine wpListIn_append_run _ rfl _ _ 25 rfl _ _ _ _ rfl rfl hrun ?_)
      exact fin.out _ rfl
    · have he0 : ((e : Int) != 0) = true := by simp; omega
      have x2 := hI.b2
      have x3 := hI.b3
      have x4 := hI.b4
      have f2 := x2.frozen
      have f3 := x3.frozen
      have f4 := x4.frozen
      have d2 := x2.cell
      have d3 := x3.cell
      have d4 := x4.cell
      have hmix : Try.prog.follows .mixedOrders = true := by kernel_rfl
      have fin : Hid (∀ A, outOf2 w1.heap.size hi (fun hi k W => AllI n B w Dat r hi k W) (fun c hi k W => c = .ret ∧ AllX n w r W) k V .ret A (((V.setCell ⟨n, 0, none⟩ (.slice none 0 0)).setCell ⟨n + 1, 0, none⟩ (.int .i64 (x.at_ : Int))).setCell ⟨n + 1 + 1, 0, none⟩ (.int .i64 (e : Int))).drew) := by
        intro A
        have hdr : ∀ W : World, W.drew.heap = W.heap := fun _ => rfl
        have hbx : ∀ {W : World} {b t v}, Boxed W b t v → Boxed W.drew b t v := fun h => h
        refine ⟨⟨by rw [hdr, size_set, size_set, size_set]; exact Nat.le_refl _, fun b h1 h2 => ?_⟩, rfl, ⟨?_, x, e, List.mem_of_getElem? hx, he, hbx (((x2.set _).other (by omega) _).other (by omega) _), hbx (((x3.other (by omega) _).set _).other (by omega) _), hbx (((x4.other (by omega) _).other (by omega) _).set _)⟩⟩
        · rw [hdr]
          exact (heap_set _ _ _ _ _ (by omega)).trans ((heap_set _ _ _ _ _ (by omega)).trans (heap_set _ _ _ _ _ (by omega)))
        · have := HN.out
          exact below_drew (((hI.low.setCell (p := ⟨n, 0, none⟩) (by show _ ≤ n; omega) _).setCell (p := ⟨n + 1, 0, none⟩) (by show _ ≤ n + 1; omega) _).setCell (p := ⟨n + 1 + 1, 0, none⟩) (by show _ ≤ n + 1 + 1; omega) _)
      clear start hgv hd hdk hI hkk
      gi_wp2
      gi_region_o
      all_goals
        gi_wp2
        exact fin.out _
/-- of a text that is too long. -/
theorem all_long (s : Tx) (w : World) (h : 4096 < s.length) (hs : s.length ≤ 35184372088832) : Calls Try.prog 10 #[str s] w fun e w' => e = .returned (.tuple #[.slice none 0 0, .int .i64 0, .int .i64 3]) ∧ Below w.heap.size w w' := by
  refine (all_any s [(⟨0, [], 0⟩, 3)] (.inl ⟨h, rfl⟩) w hs).mono ?_
  rintro e w' ⟨v, rfl, hb, ⟨x, er, hx, _, rfl⟩ | ⟨_, _, _, _, h0⟩⟩
  · simp at hx
    obtain ⟨rfl, rfl⟩ := hx
    exact ⟨rfl, hb⟩
  · have := h0 _ List.mem_cons_self
    cases this
theorem told_mem {l : List Tk} {b : Option Nat} {x : Tk} {e : Nat} (h : (x, e) ∈ told l b) (he : e ≠ 0) : ∃ p, b = some p ∧ x = ⟨0, [], p⟩ ∧ e = 90 := by
  unfold told at h
  rcases List.mem_append.1 h with h | h
  · obtain ⟨y, _, h⟩ := List.mem_map.1 h
    cases h
    exact absurd rfl he
  · cases b with
    | none => cases h
    | some p => simp [bads] at h; exact ⟨p, rfl, h.1, h.2⟩
/-- of one in which something stands that is no token. -/
theorem all_bad (s : Tx) (w : World) {l : List Tk} {p : Nat} (hsc : Scan 0 s l (some p)) (h : s.length ≤ 4096) : Calls Try.prog 10 #[str s] w fun e w' => e = .returned (.tuple #[.slice none 0 0, .int .i64 (p : Int), .int .i64 90]) ∧ Below w.heap.size w w' := by
  refine (all_any s _ (.inr ⟨h, l, some p, hsc, rfl⟩) w (by omega)).mono ?_
  rintro e w' ⟨v, rfl, hb, ⟨x, er, hx, he, rfl⟩ | ⟨_, _, _, _, h0⟩⟩
  · obtain ⟨q, h1, rfl, rfl⟩ := told_mem hx he
    cases h1
    exact ⟨rfl, hb⟩
  · have := h0 (⟨0, [], p⟩, 90) (by simp [told, bads])
    cases this
/-- of one that has tokens alone. -/
theorem all_ok (s : Tx) (w : World) {l : List Tk} (hsc : Scan 0 s l none) (h : s.length ≤ 4096) : Calls Try.prog 10 #[str s] w fun e w' => ∃ a c, e = .returned (.tuple #[.slice a l.length c, .int .i64 0, .int .i64 0]) ∧ OwnT w.heap.size w' (.slice a l.length c) l ∧ Below w.heap.size w w' := by
  refine (all_any s _ (.inr ⟨h, l, none, hsc, rfl⟩) w (by omega)).mono ?_
  have e1 : told l none = l.map fun x => (x, 0) := by simp [told, bads]
  have e2 : (told l none).length = l.length := by simp [e1]
  rintro e w' ⟨v, rfl, hb, ⟨x, er, hx, he, rfl⟩ | ⟨a, c, rfl, ho, _⟩⟩
  · obtain ⟨q, h1, _⟩ := told_mem hx he
    cases h1
  · have e3 : toks (told l none) (told l none).length = l := by
      unfold toks
      rw [List.take_length, e1, List.map_map]
      exact List.map_id l
    rw [e3] at ho
    rw [e2] at ho ⊢
    exact ⟨a, c, rfl, ho, hb⟩
end Go.Proofs.Ytlggdeadkebgiaa
