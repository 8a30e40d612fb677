/- For any text and number the law LexTell of the program returns true: tokens are told one by one, as far as one goes; at last what All would refuse. No condition. -/
import Derived.Test.YtlggdeadkebgiaaT1
import Derived.Test.YtlggdeadkebgiaaQR
import Derived.Sort.QuietIn
namespace Go.Proofs.Ytlggdeadkebgiaa.lexTell
open Go.ChangeShapes Go.WideShapes Go.ChangeAt Go.RowKit
open Go.ChangeMaps (open_string shut_string)
set_option linter.unusedVariables false
attribute [local go_sem] Oper.semAt_some

theorem eq_fn (k : FuncId) (lb : Array Value) (W : World) : (binOp .eql 36 (.func (.func k) #[] lb) .nilFunc).run Try.prog W = .ok (.bool false) W := by
  kernel_rfl
/-- the law's own memory between two rounds. -/
structure TellI (n0 c0 d0 : Nat) (w : World) (Dat : World → Prop) (stop : Int) (a : Option Addr) (c : Nat) (L : List Tk) (p E m : Nat) (k : Nat) (W : World) : Prop where
  dat : Dat W
  low : Below w.heap.size w W
  sz : d0 + 2 ≤ W.heap.size
  row : OwnT 0 W (.slice a L.length c) L
  bs : Boxed W n0 3 (.int .i64 stop)
  br : Boxed W (n0 + 1) 4 (.bool false)
  b5 : Boxed W c0 25 (.slice a L.length c)
  b6 : Boxed W (c0 + 1) 3 (.int .i64 (p : Int))
  b7 : Boxed W (c0 + 1 + 1) 26 (.int .i64 (E : Int))
  b9 : Boxed W d0 3 (.int .i64 (k : Int))
  b10 : Boxed W (d0 + 1) 4 (.bool (decide (E ≠ 0 ∧ k = m)))
structure TellX (n0 : Nat) (w : World) (W : World) : Prop where
  low : Below w.heap.size w W
  br : Boxed W (n0 + 1) 4 (.bool true)
theorem TellI.kept {n0 c0 d0 : Nat} {w : World} {Dat : World → Prop} {stop : Int} {a : Option Addr} {c : Nat} {L : List Tk} {p E m k : Nat} {A C : World} (h : TellI n0 c0 d0 w Dat stop a c L p E m k A)
    (hn : n0 = w.heap.size) (hc : n0 + 2 ≤ c0) (hdd : c0 + 3 ≤ d0) (hrl : ∀ b, (Value.slice a L.length c).ownBlock = some b → b < c0)
    (hd : ∀ A C, Dat A → (∀ b, c0 + 3 ≤ b → b < d0 → C.heap[b]? = A.heap[b]?) → Dat C) (hk : Kept (fun b => b = d0 + 2 ∨ b = d0 + 2 + 1) A C) : TellI n0 c0 d0 w Dat stop a c L p E m k C := by
  have bx : ∀ {b t v}, b < d0 + 2 → Boxed A b t v → Boxed C b t v := fun hb h2 => (hk.block _ h2.lt (by omega)).trans h2
  have hs := h.low.size
  have hz := h.sz
  exact ⟨hd A C h.dat fun b h1 h2 => hk.block b (by omega) (by omega), h.low.trans (hk.below hs fun k hk => by omega), Nat.le_trans h.sz hk.size,
    h.row.keep fun b hb => hk.block b (by have := hrl b hb; omega) (by have := hrl b hb; omega), bx (by omega) h.bs, bx (by omega) h.br, bx (by omega) h.b5, bx (by omega) h.b6, bx (by omega) h.b7, bx (by omega) h.b9, bx (by omega) h.b10⟩
theorem TellX.kept {n0 d0 : Nat} {w : World} {A C : World} (h : TellX n0 w A) (hn : n0 = w.heap.size) (hc : n0 + 5 ≤ d0) (hk : Kept (fun b => b = d0 + 2 ∨ b = d0 + 2 + 1) A C) : TellX n0 w C := by
  have hs := h.low.size
  exact ⟨h.low.trans (hk.below hs fun k hk => by omega), (hk.block _ h.br.lt (by omega)).trans h.br⟩
/-- the world behind the loop's variable. -/
def oneIn (args : Array Value) (W : World) : World :=
  match args.getD 0 undef with
  | .agg c => W.alloc (.cells c 31)
  | _ => W
set_option maxRecDepth 100000 in
set_option maxHeartbeats 8000000 in
theorem walk1 (s : Tx) (stop : Int) (w : World) (hs : s.length ≤ maxLen) :
    Calls Try.prog 4 #[str s, .int .i64 stop] w fun e w' => e = .returned (.bool true) ∧ Below w.heap.size w w' := by
  unfold maxLen at hs
  unfold str
  refine (callsIn_wide (n := 9)).1 ?_
  refine callsIn_of_wp_marks Try.func4 rfl trivial ?_ rfl
  simp only [Try.ntmps4, List.size_toArray, List.length_cons, List.length_nil, Nat.reduceAdd, Nat.reduceSub, Array.replicate_succ, Array.replicate_zero, List.push_toArray, List.append_toArray, List.nil_append, List.cons_append]
  by_cases h8 : 8000 < s.length
  · have h8' : (8000 : Int) < (s.length : Int) := by omega
    gi_wp2
    have hres := (Boxed.new (w.alloc (.cells #[Value.int .i64 stop] 3)) 4 (.bool true)).cell
    rw [World.size_alloc] at hres
    refine ⟨.bool true, ?_, rfl, ((Below.refl _ w).alloc (Nat.le_refl _) _).alloc (by simp) _⟩
    simp [results, Try.f4, go_sem, hres]
  · have h8' : ¬ (8000 : Int) < (s.length : Int) := by omega
    obtain ⟨r, hr⟩ := tell_ex s
    have hal := hid (fun w => all_tell s r hr w (by omega))
    have hte := hid (fun w => tell_any s w (by omega))
    unfold str at hal hte
    gi_wp2_with fail
    obtain ⟨w0, hw0⟩ : ∃ w0, (w.alloc (.cells #[Value.int .i64 stop] 3)).alloc (.cells #[Value.bool false] 4) = w0 := ⟨_, rfl⟩
    have z0 : w0.heap.size = w.heap.size + 2 := by rw [← hw0]; simp
    have lo0 : Below w.heap.size w w0 := by rw [← hw0]; exact ((Below.refl _ w).alloc (Nat.le_refl _) _).alloc (by simp) _
    have xs : Boxed w0 w.heap.size 3 (.int .i64 stop) := by rw [← hw0]; exact (Boxed.new w _ _).alloc _
    have xr : Boxed w0 (w.heap.size + 1) 4 (.bool false) := by
      rw [← hw0]
      have := Boxed.new (w.alloc (.cells #[Value.int .i64 stop] 3)) 4 (.bool false)
      rwa [World.size_alloc] at this
    rw [hw0]
    clear hw0
    refine ⟨trivial, (callsIn_wide.2 (hal.out _)).mono ?_⟩
    rintro e w1 ⟨L, p, E, a, c, rfl, ho, hb, hrw, hE1, hp1, hL1⟩
    gi_wp2_with fail
    obtain ⟨w2, hw2⟩ : ∃ w2, ((w1.alloc (.cells #[Value.slice a L.length c] 25)).alloc (.cells #[Value.int .i64 (p : Int)] 3)).alloc (.cells #[Value.int .i64 (E : Int)] 26) = w2 := ⟨_, rfl⟩
    have z2 : w2.heap.size = w1.heap.size + 3 := by rw [← hw2]; simp
    have lo2 : Below w1.heap.size w1 w2 := by rw [← hw2]; exact (((Below.refl _ w1).alloc (Nat.le_refl _) _).alloc (by simp) _).alloc (by simp; omega) _
    have x5 : Boxed w2 w1.heap.size 25 (.slice a L.length c) := by rw [← hw2]; exact ((Boxed.new w1 _ _).alloc _).alloc _
    have x6 : Boxed w2 (w1.heap.size + 1) 3 (.int .i64 (p : Int)) := by
      rw [← hw2]
      have := (Boxed.new (w1.alloc (.cells #[Value.slice a L.length c] 25)) 3 (.int .i64 (p : Int))).alloc (.cells #[Value.int .i64 (E : Int)] 26)
      rwa [World.size_alloc] at this
    have x7 : Boxed w2 (w1.heap.size + 1 + 1) 26 (.int .i64 (E : Int)) := by
      rw [← hw2]
      have := Boxed.new ((w1.alloc (.cells #[Value.slice a L.length c] 25)).alloc (.cells #[Value.int .i64 (p : Int)] 3)) 26 (.int .i64 (E : Int))
      rwa [World.size_alloc, World.size_alloc] at this
    rw [hw2]
    clear hw2
    refine ⟨trivial, (callsIn_wide.2 (hte.out _)).mono ?_⟩
    rintro e w3 ⟨g, lb, Dat, rfl, eg, hb3, hdat, hdk, hgv⟩
    have hnil := eq_fn g lb w3
    gi_wp2_with fail
    obtain ⟨w4, hw4⟩ : ∃ w4, (w3.alloc (.cells #[Value.int .i64 0] 3)).alloc (.cells #[Value.bool false] 4) = w4 := ⟨_, rfl⟩
    have z4 : w4.heap.size = w3.heap.size + 2 := by rw [← hw4]; simp
    have lo4 : Below w3.heap.size w3 w4 := by rw [← hw4]; exact ((Below.refl _ w3).alloc (Nat.le_refl _) _).alloc (by simp) _
    have x9 : Boxed w4 w3.heap.size 3 (.int .i64 0) := by rw [← hw4]; exact (Boxed.new w3 _ _).alloc _
    have x10 : Boxed w4 (w3.heap.size + 1) 4 (.bool false) := by
      rw [← hw4]
      have := Boxed.new (w3.alloc (.cells #[Value.int .i64 0] 3)) 4 (.bool false)
      rwa [World.size_alloc] at this
    rw [hw4]
    clear hw4
    have s1 := hb.size
    have s3 := hb3.size
    obtain ⟨n0, hn⟩ : ∃ n, n = w.heap.size := ⟨_, rfl⟩
    obtain ⟨c0, hc⟩ : ∃ n, n = w1.heap.size := ⟨_, rfl⟩
    obtain ⟨d0, hd0⟩ : ∃ n, n = w3.heap.size := ⟨_, rfl⟩
    obtain ⟨m, hm⟩ : ∃ m, m = r.length := ⟨_, rfl⟩
    have hB : w4.heap.size = d0 + 2 := by omega
    have hcn : n0 + 2 ≤ c0 := by omega
    have hdc : c0 + 3 ≤ d0 := by omega
    have hdn : n0 + 5 ≤ d0 := by omega
    have hrl : ∀ b, (Value.slice a L.length c).ownBlock = some b → b < c0 := fun b h => by have := (ho.lt h).2; omega
    have hd : ∀ A C, Dat A → (∀ b, c0 + 3 ≤ b → b < d0 → C.heap[b]? = A.heap[b]?) → Dat C := fun A C h1 h2 => hdk A C h1 fun b h3 h4 => h2 b (by omega) (by omega)
    have start : TellI n0 c0 d0 w Dat stop a c L p E m 0 w4 := by
      have up : ∀ {b t v}, Boxed w0 b t v → Boxed w1 b t v := fun h2 => (hb.block _ h2.lt).trans h2
      have up2 : ∀ {b t v}, Boxed w1 b t v → Boxed w2 b t v := fun h2 => (lo2.block _ h2.lt).trans h2
      have up3 : ∀ {b t v}, Boxed w2 b t v → Boxed w3 b t v := fun h2 => (hb3.block _ h2.lt).trans h2
      have up4 : ∀ {b t v}, Boxed w3 b t v → Boxed w4 b t v := fun h2 => (lo4.block _ h2.lt).trans h2
      have hE : decide (E ≠ 0 ∧ 0 = m) = false := by
        rw [decide_eq_false_iff_not]
        rintro ⟨h1, h2⟩
        have := hrw.len.2 h1
        omega
      rw [hn, hc, hd0]
      refine ⟨hdk _ _ hdat fun b h1 h2 => lo4.block b (by omega), ?_, by omega, ?_, up4 (up3 (up2 (up xs))), up4 (up3 (up2 (up xr))), up4 (up3 x5), up4 (up3 x6), up4 (up3 x7), x9, ?_⟩
      · exact (((lo0.trans (hb.mono (by omega))).trans (lo2.mono (by omega))).trans (hb3.mono (by omega))).trans (lo4.mono (by omega))
      · exact (((ho.base (B' := 0) (by omega)).below lo2).below hb3).below lo4
      · rw [hE]; exact x10
    have hgi := hgv r hr w4
    rw [← hm] at hgi
    rw [← hn, ← hc, ← hd0]
    have HN := hid hn
    have HM := hid hm
    have HB := hid hB
    have HR := hid hrw
    have ml := hid (show m ≤ 4097 from by
      rw [hm]
      rcases hr with ⟨_, rfl⟩ | ⟨h, l, b, hsc, rfl⟩
      · simp
      · have := (scan_mem hsc).1
        unfold told
        cases b <;> simp [bads] <;> omega)
    clear hn hc hd0 hm hB hrw hdk hgv xs xr x5 x6 x7 x9 x10 ho hb hb3 lo0 lo2 lo4 z0 z2 z4 s1 s3 hdat hnil hal hte
    refine range2 (gf := g) (lb := lb) rfl eg hgi (fun k args hy => by obtain ⟨x, e, _, rfl⟩ := hy; rfl)
      (fun hi k W => TellI n0 c0 d0 w Dat stop a c L p E m k W) (fun c hi k W => c = .ret ∧ TellX n0 w W)
      (fun hi k A C h hk => h.kept HN.out hcn hdc hrl hd (by rw [← HB.out]; exact hk)) (fun c hi k A C h hk => ⟨h.1, h.2.kept HN.out hdn (by rw [← HB.out]; exact hk)⟩)
      (fun hi k A h => h.dat) (fun hi _ => start)
      (fun args W => { tmps := #[.string ⟨s.toArray⟩, .int .i64 stop, undef, .pointer (some ⟨n0, 0, none⟩), .pointer (some ⟨n0 + 1, 0, none⟩), .pointer (some ⟨c0, 0, none⟩), .pointer (some ⟨c0 + 1, 0, none⟩), .pointer (some ⟨c0 + 1 + 1, 0, none⟩), .func (.func g) #[] lb, .pointer (some ⟨d0, 0, none⟩), .pointer (some ⟨d0 + 1, 0, none⟩), .pointer (some ⟨W.heap.size, 0, none⟩), args.getD 1 undef, .string ⟨s.toArray⟩, .int .i64 (s.length : Int), .bool false, .tuple #[.slice a L.length c, .int .i64 (p : Int), .int .i64 (E : Int)], .string ⟨s.toArray⟩, .tuple #[.slice a L.length c, .int .i64 (p : Int), .int .i64 (E : Int)], .slice a L.length c, .int .i64 (p : Int), .int .i64 (E : Int), .string ⟨s.toArray⟩, .func (.func g) #[] lb, .func (.func g) #[] lb, .bool false, .func (.func g) #[] lb, args.getD 0 undef, args.getD 1 undef, undef, undef, undef, undef, undef, undef, undef, undef, undef, undef, undef, undef, undef, undef, undef, undef, undef, undef, undef, undef, undef, undef, undef, undef, undef, undef, undef, undef, undef, undef, undef, undef, undef, undef, undef, undef, undef, undef, undef, undef, undef, undef, undef, undef, undef, undef], defers := [] })
      oneIn (fun args W => by unfold oneIn; split; exact alloc_below _ _; exact Below.refl _ _) ?assign ?body ?done ?stop
    case assign =>
      rintro i l1 k args W K ⟨x, e, hx, rfl⟩ hK
      unfold tkA
      gi_wp2
      exact hK
    case done =>
      rintro hi V hh1 hh2 hI hK
      have e10 := hI.b10
      simp only [and_true] at e10
      have y7 := hI.b7.cell
      have y9 := hI.b9.cell
      have y5 := hI.b5.cell
      have yr := hI.br.cell
      have fr := hI.br.frozen
      have hlen := HR.out.len
      have hV4 : n0 + 2 ≤ w4.heap.size := by rw [HB.out]; omega
      have fin : Hid (∀ W3, W3 = V.setCell ⟨n0 + 1, 0, none⟩ (.bool true) → Boxed W3 (n0 + 1) 4 (.bool true) ∧ W3.heap[w4.heap.size]? = some (.deferred (some [])) ∧ Below w.heap.size w W3) := by
        intro W3 e3
        rw [e3]
        exact ⟨hI.br.set _, (heap_set _ _ _ _ _ (by omega)).trans hK, hI.low.setCell (p := ⟨n0 + 1, 0, none⟩) (by have := HN.out; show _ ≤ n0 + 1; omega) _⟩
      have tail : ∀ W3, W3 = V.setCell ⟨n0 + 1, 0, none⟩ (.bool true) → Hid (∃ v, True) := fun _ _ => ⟨0, trivial⟩
      by_cases hE : E = 0
      · subst hE
        have y10 : V.cell? ⟨d0 + 1, 0, none⟩ = some (.bool false) := by simpa using e10.cell
        have hmL : L.length = m := by rw [hlen.1 rfl, HM.out]
        have t1 : ((m : Int) == (m : Int)) = true := by simp
        have y7' : V.cell? ⟨c0 + 1 + 1, 0, none⟩ = some (.int .i64 0) := y7
        rw [hmL] at y5
        clear hI e10 hlen y7 tail
        gi_wp2
        obtain ⟨yb, hK3, hl3⟩ := fin.out _ rfl
        generalize V.setCell ⟨n0 + 1, 0, none⟩ (.bool true) = W3 at *
        refine ⟨by simp, .inl ⟨_, _, rfl, run_takeDeferred hK3, ?_⟩⟩
        have e2 : (W3.putObj w4.heap.size (.deferred none)).cell? ⟨n0 + 1, 0, none⟩ = some (.bool true) := (cell_block (World.putObj_heap_other (by omega))).trans yb.cell
        refine ⟨.bool true, ?_, rfl, hl3.trans (below_put _ _ _ (by have := HN.out; omega))⟩
        simp [results, Try.f4, go_sem, e2]
      · have y10 : V.cell? ⟨d0 + 1, 0, none⟩ = some (.bool true) := by simpa [hE] using e10.cell
        have t1 : ((E : Int) != 0) = true := by simp; omega
        clear hI e10 hlen tail
        gi_wp2
        obtain ⟨yb, hK3, hl3⟩ := fin.out _ rfl
        generalize V.setCell ⟨n0 + 1, 0, none⟩ (.bool true) = W3 at *
        refine ⟨by simp, .inl ⟨_, _, rfl, run_takeDeferred hK3, ?_⟩⟩
        have e2 : (W3.putObj w4.heap.size (.deferred none)).cell? ⟨n0 + 1, 0, none⟩ = some (.bool true) := (cell_block (World.putObj_heap_other (by omega))).trans yb.cell
        refine ⟨.bool true, ?_, rfl, hl3.trans (below_put _ _ _ (by have := HN.out; omega))⟩
        simp [results, Try.f4, go_sem, e2]
    case stop =>
      rintro hi c k V hh1 hh2 hk ⟨rfl, hX⟩ hK
      have hV4 : n0 + 2 ≤ w4.heap.size := by rw [HB.out]; omega
      gi_wp2
      refine ⟨by simp, .inl ⟨_, _, rfl, run_takeDeferred hK, ?_⟩⟩
      have e2 : (V.putObj w4.heap.size (.deferred none)).cell? ⟨n0 + 1, 0, none⟩ = some (.bool true) := (cell_block (World.putObj_heap_other (by omega))).trans hX.br.cell
      refine ⟨.bool true, ?_, rfl, hX.low.trans (below_put _ _ _ (by have := HN.out; omega))⟩
      simp [results, Try.f4, go_sem, e2]
    case body =>
      rintro i l1 hi k args W0 V hk hh1 hh2 hI ⟨x, e, hx, rfl⟩ hkk
      unfold tkA oneIn at hkk
      have hbox : V.heap[W0.heap.size]? = some (.cells #[.int .u8 (x.kind : Int), .string ⟨x.text.toArray⟩, .int .i64 (x.at_ : Int)] 31) := (hkk.block _ (by simp) (by have := HB.out; omega)).trans (new_block W0 _)
      unfold tkA
      have q1 := cell_of hbox 0
      have q2 := cell_of hbox 1
      have q3 := cell_of hbox 2
      simp at q1 q2 q3
      have e10 := hI.b10
      rw [show decide (E ≠ 0 ∧ k = m) = false by rw [decide_eq_false_iff_not]; omega] at e10
      have y10 := e10.cell
      have f10 := e10.frozen
      have y9 := hI.b9.cell
      have f9 := hI.b9.frozen
      have y7 := hI.b7.cell
      have y6 := hI.b6.cell
      have y5 := hI.b5.cell
      have ys := hI.bs.cell
      have yr := hI.br.cell
      have fr := hI.br.frozen
      have hml := ml.out
      have c5 : IntKind.i64.wrap ((k : Int) + 1) = (k : Int) + 1 := by rw [IntKind.wrap_i64]; omega
      have hfar : d0 + 1 < hi := by have := HB.out; omega
      -- behind a round that goes on, or tells true
      have onw : Hid (∀ (W' : World), (∀ b, b ≠ d0 → b ≠ d0 + 1 → b ≠ n0 + 1 → W'.heap[b]? = V.heap[b]?) → Below w.heap.size w W' → V.heap.size ≤ W'.heap.size → Boxed W' d0 3 (.int .i64 ((k : Int) + 1)) → Boxed W' (d0 + 1) 4 (.bool (decide (E ≠ 0 ∧ k + 1 = m))) →
          (Boxed W' (n0 + 1) 4 (.bool false) → Lies w4.heap.size hi V W' ∧ TellI n0 c0 d0 w Dat stop a c L p E m (k + 1) W') ∧ (Boxed W' (n0 + 1) 4 (.bool true) → Lies w4.heap.size hi V W' ∧ (Code.ret = Code.ret ∧ TellX n0 w W'))) := by
        intro W' hb' hlow hsz h9 h10
        have bx : ∀ {b t v}, b ≠ d0 → b ≠ d0 + 1 → b ≠ n0 + 1 → Boxed V b t v → Boxed W' b t v := fun h1 h2 h3 h4 => (hb' _ h1 h2 h3).trans h4
        have hl : Lies w4.heap.size hi V W' := ⟨hsz, fun b h1 h2 => hb' b (by have := HB.out; omega) (by have := HB.out; omega) (by have := HB.out; omega)⟩
        refine ⟨fun hr0 => ⟨hl, hd _ _ hI.dat (fun b h1 h2 => hb' b (by omega) (by omega) (by omega)), hlow, Nat.le_trans hI.sz hsz, hI.row.keep (fun b hb => hb' b (by have := hrl b hb; omega) (by have := hrl b hb; omega) ?_), bx (by omega) (by omega) (by omega) hI.bs, hr0, bx (by omega) (by omega) (by omega) hI.b5, bx (by omega) (by omega) (by omega) hI.b6, bx (by omega) (by omega) (by omega) hI.b7, by simpa using h9, h10⟩, fun hr0 => ⟨hl, rfl, hlow, hr0⟩⟩
        rintro rfl
        have h1 := hI.br
        rcases hI.row.form with ⟨e1, _⟩ | ⟨g1, c1, cur1, e1, _, _, _, h6, _⟩
        · rw [e1] at hb; cases hb
        · rw [e1] at hb; cases hb
          rw [show V.heap[n0 + 1]? = _ from h1] at h6
          simp at h6
      have lowV := hid hI.low
      have B9 := hid hI.b9
      have B10 := hid e10
      have BR := hid hI.br
      rcases HR.out.at hx with ⟨rfl, hx0, hxE⟩ | ⟨rfl, hE, rfl, hkm⟩
      · have hne : decide (E ≠ 0 ∧ k + 1 = m) = false := by
          rw [decide_eq_false_iff_not]
          rintro ⟨h1, h2⟩
          have := hxE h1
          have := HM.out
          omega
        rw [hne] at onw
        have hd9 : (d0 : Nat) ≠ d0 + 1 := by omega
        have fin1 : Hid (∀ q : Nat, Lies w4.heap.size hi V ((V.drewN q).setCell ⟨d0, 0, none⟩ (.int .i64 ((k : Int) + 1))) ∧ TellI n0 c0 d0 w Dat stop a c L p E m (k + 1) ((V.drewN q).setCell ⟨d0, 0, none⟩ (.int .i64 ((k : Int) + 1)))) := by
          intro q
          have hN := HN.out
          have b9' : Boxed (V.drewN q) d0 3 (.int .i64 (k : Int)) := B9.out
          have b10' : Boxed (V.drewN q) (d0 + 1) 4 (.bool false) := B10.out
          have br' : Boxed (V.drewN q) (n0 + 1) 4 (.bool false) := BR.out
          exact (onw.out _ (fun b h1 h2 h3 => heap_set (V.drewN q) _ _ _ _ h1) ((below_drewN (n := q) lowV.out).setCell (p := ⟨d0, 0, none⟩) (by show _ ≤ d0; omega) _) (by rw [size_set]; exact Nat.le_refl _) (b9'.set _) (b10'.other (by omega) _)).1 (br'.other (by omega) _)
        have fin2 : Hid (∀ q : Nat, Lies w4.heap.size hi V (((V.drewN q).setCell ⟨d0, 0, none⟩ (.int .i64 ((k : Int) + 1))).setCell ⟨n0 + 1, 0, none⟩ (.bool true)) ∧ (Code.ret = Code.ret ∧ TellX n0 w (((V.drewN q).setCell ⟨d0, 0, none⟩ (.int .i64 ((k : Int) + 1))).setCell ⟨n0 + 1, 0, none⟩ (.bool true)))) := by
          intro q
          have hN := HN.out
          have b9' : Boxed (V.drewN q) d0 3 (.int .i64 (k : Int)) := B9.out
          have b10' : Boxed (V.drewN q) (d0 + 1) 4 (.bool false) := B10.out
          have br' : Boxed (V.drewN q) (n0 + 1) 4 (.bool false) := BR.out
          exact (onw.out _ (fun b h1 h2 h3 => (heap_set _ _ _ _ _ h3).trans (heap_set (V.drewN q) _ _ _ _ h1)) (((below_drewN (n := q) lowV.out).setCell (p := ⟨d0, 0, none⟩) (by show _ ≤ d0; omega) _).setCell (p := ⟨n0 + 1, 0, none⟩) (by show _ ≤ n0 + 1; omega) _) (by rw [size_set, size_set]; exact Nat.le_refl _) ((b9'.set _).other (by omega) _) ((b10'.other (by omega) _).other (by omega) _)).2 ((br'.other (by omega) _).set _)
        by_cases hE : E = 0
        · subst hE
          have hLk := hx0 rfl
          obtain ⟨g1, rfl, hg1, kc⟩ := hI.row.cells (fun e => by subst e; simp at hLk)
          obtain ⟨p1, p2, p3⟩ := kc k _ hLk
          have hkL := (List.getElem?_eq_some_iff.1 hLk).1
          have t3 : decide ((L.length : Int) ≤ (k : Int)) = false := by simp; omega
          have t3' : decide (L.length ≤ k) = false := by simp; omega
          have t3'' : (k : Int) < (L.length : Int) := by omega
          have y7' : V.cell? ⟨c0 + 1 + 1, 0, none⟩ = some (.int .i64 0) := y7
          clear hI hgi start hd e10 hbox hx hx0 hxE hLk kc hkk onw y7 hne
          gi_wp2
          refine round_quiet (by kernel_rfl) (by kernel_rfl) (by kernel_rfl) ?_
          repeat (gi_big_quiet_step (fail))
          refine wpQuietIn_nil ?_
          rintro _ ⟨nq, rfl⟩
          by_cases hst : (k : Int) + 1 = stop
          · have t2 : ((k : Int) + 1 == stop) = true := by simpa using hst
            clear hst
            gi_wp2
            exact ⟨(fin2.out nq).1, rfl, (fin2.out nq).2.2⟩
          · have t2 : ((k : Int) + 1 == stop) = false := by simpa using hst
            clear hst
            gi_wp2
            exact fin1.out nq
        · have t3 : ((E : Int) == 0) = false := by simp; omega
          clear hI hgi start hd e10 hbox hx hx0 hxE hkk onw hne
          gi_wp2
          refine round_quiet (by kernel_rfl) (by kernel_rfl) (by kernel_rfl) ?_
          repeat (gi_big_quiet_step (fail))
          refine wpQuietIn_nil ?_
          rintro _ ⟨nq, rfl⟩
          by_cases hst : (k : Int) + 1 = stop
          · have t2 : ((k : Int) + 1 == stop) = true := by simpa using hst
            clear hst
            gi_wp2
            exact ⟨(fin2.out nq).1, rfl, (fin2.out nq).2.2⟩
          · have t2 : ((k : Int) + 1 == stop) = false := by simpa using hst
            clear hst
            gi_wp2
            exact fin1.out nq
      · have hne : decide (e ≠ 0 ∧ k + 1 = m) = true := by
          rw [decide_eq_true_iff]
          exact ⟨hE, by rw [HM.out]; exact hkm⟩
        rw [hne] at onw
        have t1 : ((e : Int) != 0) = true := by simp; omega
        have q1' : V.cell? ⟨W0.heap.size, 0, none⟩ = some (.int .u8 0) := q1
        have q2' : V.cell? ⟨W0.heap.size, 1, none⟩ = some (.string ⟨#[]⟩) := q2
        have q3' : V.cell? ⟨W0.heap.size, 2, none⟩ = some (.int .i64 (p : Int)) := q3
        have hd9 : (d0 : Nat) ≠ d0 + 1 := by omega
        clear q1 q2 q3 hkk hI hgi start hd e10 hbox hx
        have fin1 : Hid (Lies w4.heap.size hi V ((V.setCell ⟨d0 + 1, 0, none⟩ (.bool true)).setCell ⟨d0, 0, none⟩ (.int .i64 ((k : Int) + 1))) ∧ TellI n0 c0 d0 w Dat stop a c L p e m (k + 1) ((V.setCell ⟨d0 + 1, 0, none⟩ (.bool true)).setCell ⟨d0, 0, none⟩ (.int .i64 ((k : Int) + 1)))) := by
          have hN := HN.out
          exact (onw.out _ (fun b h1 h2 h3 => (heap_set _ _ _ _ _ h1).trans (heap_set _ _ _ _ _ h2)) ((lowV.out.setCell (p := ⟨d0 + 1, 0, none⟩) (by show _ ≤ d0 + 1; omega) _).setCell (p := ⟨d0, 0, none⟩) (by show _ ≤ d0; omega) _) (by rw [size_set, size_set]; exact Nat.le_refl _) ((B9.out.other (by omega) _).set _) ((B10.out.set _).other (by omega) _)).1 ((BR.out.other (by omega) _).other (by omega) _)
        have fin2 : Hid (Lies w4.heap.size hi V (((V.setCell ⟨d0 + 1, 0, none⟩ (.bool true)).setCell ⟨d0, 0, none⟩ (.int .i64 ((k : Int) + 1))).setCell ⟨n0 + 1, 0, none⟩ (.bool true)) ∧ (Code.ret = Code.ret ∧ TellX n0 w (((V.setCell ⟨d0 + 1, 0, none⟩ (.bool true)).setCell ⟨d0, 0, none⟩ (.int .i64 ((k : Int) + 1))).setCell ⟨n0 + 1, 0, none⟩ (.bool true)))) := by
          have hN := HN.out
          exact (onw.out _ (fun b h1 h2 h3 => (heap_set _ _ _ _ _ h3).trans ((heap_set _ _ _ _ _ h1).trans (heap_set _ _ _ _ _ h2))) (((lowV.out.setCell (p := ⟨d0 + 1, 0, none⟩) (by show _ ≤ d0 + 1; omega) _).setCell (p := ⟨d0, 0, none⟩) (by show _ ≤ d0; omega) _).setCell (p := ⟨n0 + 1, 0, none⟩) (by show _ ≤ n0 + 1; omega) _) (by rw [size_set, size_set, size_set]; exact Nat.le_refl _) (((B9.out.other (by omega) _).set _).other (by omega) _) (((B10.out.set _).other (by omega) _).other (by omega) _)).2 (((BR.out.other (by omega) _).other (by omega) _).set _)
        clear onw
        by_cases hst : (k : Int) + 1 = stop
        · have t2 : ((k : Int) + 1 == stop) = true := by simpa using hst
          clear hst
          gi_wp2
          exact ⟨fin2.out.1, rfl, fin2.out.2.2⟩
        · have t2 : ((k : Int) + 1 == stop) = false := by simpa using hst
          clear hst
          gi_wp2
          exact fin1.out
theorem walk (s : ByteArray) (stop : Int) (w : World) (hs : s.size ≤ maxLen) (_ : (Lit.int .i64 stop).wf = true) :
    Calls Try.prog 4 #[.string s, .int .i64 stop] w fun e w' => e = .returned (.bool true) ∧ Below w.heap.size w w' := by
  rw [str_of s]
  exact walk1 _ _ w hs

theorem own : ownKnob Try.prog.godebug = none := by kernel_rfl
theorem laidOut : laidOutB Try.prog = true := by kernel_rfl

set_option maxRecDepth 100000 in
theorem lifted (os : Os) (started : os.Started) (H : Type) (enc : TypeId × Value → H) :
    ReturnsInHanded {} Try.checked os 4 .any (Rows.lexTellSpec.pre6 enc Try.prog Try.f4 Rows.lexTellRow.domain false) (Rows.lexTellSpec.post enc Try.prog Try.f4 false true false false) := by
  refine returnsInHanded_of_change (C := Try.checked) own started (by kernel_rfl) Try.func4
    (ChangeSpec.witness6 (enc := enc) (C := Try.checked) false ⟨#[], #[.string ⟨#[]⟩, .int .i64 0], []⟩ 8 (by kernel_rfl) (by kernel_rfl) (by kernel_rfl) (by kernel_rfl)) ?_
  intro W base args ds gs before hval0 hW hcnd _
  have hval : ∀ (j : Nat) t v, Try.f4.params[j]? = some t → args[j]? = some v → Value.okWide Try.prog W .any base t v := hval0
  have hW' := hW
  obtain ⟨p, q, hA0, hV, rfl, hfz, hnd⟩ := hW
  have hA : DataW.TrodAll enc Try.prog W 0 (fun _ => true) true Try.f4.params.toList args.toList ds p := hA0
  rw [Try.params4] at hA hval
  obtain ⟨v0, vs0, d0, ds0, p0, q0, hargs, rfl, rfl, h0, r0⟩ := trodAll_cons hA
  obtain ⟨v1, vs1, d1, ds1, p1, q1, rfl, rfl, rfl, h1, r1⟩ := trodAll_cons r0
  obtain ⟨rfl, rfl, rfl⟩ := trodAll_nil r1
  obtain rfl : args = #[v0, v1] := by cases args; simp_all
  obtain ⟨rfl, rfl⟩ := trodVars_none hV
  obtain ⟨a0, rfl, rfl, rfl, w0⟩ := open_string Try.underlying9 (hval 0 9 v0 rfl rfl) h0
  obtain ⟨a1, rfl, rfl, rfl, w1⟩ := open_int Try.underlying3 (hval 1 3 v1 rfl rfl) h1
  clear hA0 hval0
  refine (walk a0 a1 W w0 w1).mono fun e W' ⟨he, bel⟩ => ?_
  subst he
  exact ⟨_, rfl, _, _, _, [], _, [], hW', trodAll_mk1 (shut_bool Try.underlying4 _), (trodAll_cons_mk (shut_string Try.underlying9 w0) (trodAll_cons_mk (shut_int Try.underlying3 w1) trodAll_mk0)), rfl, bel.frame _, fun h => by cases h⟩

theorem over : Rows.lexTellRow.holds Try.pinned (OpenSpec.ofChange Rows.lexTellSpec) :=
  OpenClaim.holds_of_wide 4 Try.f4 rfl rfl rfl rfl rfl rfl rfl ⟨rfl, rfl, rfl, rfl, rfl⟩ rfl rfl rfl rfl rfl (by kernel_rfl) Try.func4 (by kernel_rfl)
    (of_decide_eq_true (by kernel_rfl)) (by unfold Func.isWrapper; first | (rw [if_pos (by decide +kernel)]; kernel_rfl) | (rw [if_neg (by decide +kernel)]; exact ⟨rfl, rfl⟩))
    (fun os started H enc _ => lifted os started H enc)

theorem proved : Rows.LexTellSaid := over
#print axioms proved

end Go.Proofs.Ytlggdeadkebgiaa.lexTell
