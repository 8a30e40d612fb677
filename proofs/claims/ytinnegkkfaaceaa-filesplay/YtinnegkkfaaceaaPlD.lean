/- Contract of Does, kind by kind: Sync, Truncate, Rename, Remove, Power. -/
import Derived.Test.YtinnegkkfaaceaaPlC
import Derived.Deep.RegionHeld3
namespace Go.Proofs.Ytinnegkkfaaceaa
open Go.RowKit Go.Maps Go.MapKept Go.Shelf

def DoesPost (w : World) (sb rb : Nat) (t : St) (e : Ending) (w' : World) : Prop := e = .returned (.bool true) ∧ ∃ g' R' t', Two w.heap.size w w' sb g' rb R' t' ∧ t'.acts ≤ t.acts + 1
def sixV (x : ActD) (va : Option Addr) (vc : Nat) (ka : Option Addr) (kc : Nat) : Array Value := #[.int .u8 (x.kind : Int), str x.name, str x.other, .slice va x.b.length vc, .int .i64 x.n, .slice ka x.keep.length kc]
/-- the call's own box: what it holds, that it is no store's. -/
structure Boxed (w W wb : World) (sb : Nat) (g : Gs) (rb : Nat) (R : Rs) (t : St) (six : Array Value) : Prop where
  two : Two w.heap.size w wb sb g rb R t
  blk : wb.heap[W.heap.size]? = some (.cells six 33)
  nf : ¬ foot sb g W.heap.size
  nr : ¬ rfoot rb R W.heap.size
  lt : W.heap.size < wb.heap.size
section
variable {sb rb : Nat} {w W : World} {g : Gs} {R : Rs} {t : St} {six : Array Value}
theorem boxed_mk (h : Two w.heap.size w W sb g rb R t) (six : Array Value) : Boxed w W (W.alloc (.cells six 33)) sb g rb R t six :=
  ⟨h.below (alloc_below W _), (MapKept.heap_alloc W _).1, fun e => by have := h.is.1.lt e; omega, fun e => by have := h.ref.lt e; omega, by simp⟩
theorem Boxed.drew {wb : World} (h : Boxed w W wb sb g rb R t six) : Boxed w W wb.drew sb g rb R t six :=
  ⟨h.two.below (undrew' (Below.refl _ _)), h.blk, h.nf, h.nr, h.lt⟩
theorem Boxed.below {wb w' : World} (h : Boxed w W wb sb g rb R t six) (hb : Below wb.heap.size wb w') : Boxed w W w' sb g rb R t six :=
  ⟨h.two.below hb, (hb.block _ h.lt).trans h.blk, h.nf, h.nr, Nat.lt_of_lt_of_le h.lt hb.size⟩
/-- .. and behind the first call. -/
theorem Boxed.one {wb w1 : World} (h : Boxed w W wb sb g rb R t six) (hk : ∀ k, k < wb.heap.size → ¬ foot sb g k → w1.heap[k]? = wb.heap[k]?) (j : Nat) (u : Value) (hu : six[j]? = some u) : w1.cell? ⟨W.heap.size, j, none⟩ = some u := by
  rw [cell_of ((hk _ h.lt h.nf).trans h.blk)]
  exact hu
theorem Boxed.here {wb : World} (h : Boxed w W wb sb g rb R t six) (j : Nat) (u : Value) (hu : six[j]? = some u) : wb.cell? ⟨W.heap.size, j, none⟩ = some u := h.one (fun _ _ _ => rfl) j u hu
/-- .. and behind both. -/
theorem Boxed.two' {wb w2 : World} {t4 : St} {v : Value} {e : Ending} (h : Boxed w W wb sb g rb R t six) (he : Ends w.heap.size sb rb w wb g R t4 v e w2) (j : Nat) (u : Value) (hu : six[j]? = some u) : w2.cell? ⟨W.heap.size, j, none⟩ = some u := by
  rw [cell_of ((he.2.1 _ h.lt h.nf h.nr).trans h.blk)]
  exact hu
theorem Boxed.post {wb w2 : World} {t4 : St} {v : Value} {e : Ending} (_ : Boxed w W wb sb g rb R t six) (he : Ends w.heap.size sb rb w wb g R t4 v e w2) (ha : t4.acts ≤ t.acts + 1) : DoesPost w sb rb t (.returned (.bool true)) w2 := by
  obtain ⟨_, _, g', R', h', _⟩ := he
  exact ⟨rfl, g', R', t4, h', ha⟩
end
section
variable {sb rb : Nat} {w : World} {g : Gs} {R : Rs} {t : St}
set_option maxRecDepth 100000 in
set_option maxHeartbeats 2000000 in
theorem does_sync (W : World) (h : Two w.heap.size w W sb g rb R t) (x : ActD) (va : Option Addr) (vc : Nat) (ka : Option Addr) (kc : Nat) (hn : x.name.length ≤ 30000) (ha : t.acts ≤ 1000) (hk : (x.kind : Int) % 10 = 4) :
    Calls Try.prog 13 #[ptr sb, ptr rb, .agg (sixV x va vc ka kc)] W (DoesPost w sb rb t) := by
  have hbx := boxed_mk h (sixV x va vc ka kc)
  have hcl := hid (pair_sync hbx.drew.two (by omega) x.name hn)
  have b0 := hbx.here 0 _ rfl
  have b1 := hbx.here 1 _ rfl
  have fin1 := hid (fun w1 hk => hbx.drew.one (w1 := w1) hk 1 _ rfl)
  have fin2 := hid (fun e w2 he => And.intro (hbx.drew.two' (w2 := w2) (e := e) (v := .int .i64 (t.sync x.name).1) (t4 := (t.sync x.name).2) he 1 _ rfl) (And.intro he.1 (hbx.drew.post he (acts_sync t x.name))))
  clear h hbx hn ha
  generalize (t.sync x.name).1 = r at *
  generalize (t.sync x.name).2 = t4 at *
  unfold sixV at *
  unfold ptr str at *
  go_enter Try.func13, Try.ntmps13
  go_wp2_with fail
  go_region_held3 (fun w' => w'.cell? ⟨W.heap.size, 1, none⟩ = some (.string ⟨x.name.toArray⟩)) (go_keep) (first | (go_at_call 25; refine hcl.out.mono ?_; rintro e w1 ⟨rfl, hk1, hr⟩; have hb1 := fin1.out w1 hk1; replace hr := hid hr; clear hk1) | (go_at_call 31; refine hr.out.mono ?_; rintro e w2 he; obtain ⟨hb2, rfl, hp⟩ := fin2.out _ _ he; replace hp := hid hp; clear he))
  all_goals (go_wp2; go_ret; exact hp.out)
set_option maxRecDepth 100000 in
set_option maxHeartbeats 2000000 in
theorem does_remove (W : World) (h : Two w.heap.size w W sb g rb R t) (x : ActD) (va : Option Addr) (vc : Nat) (ka : Option Addr) (kc : Nat) (hn : x.name.length ≤ 30000) (ha : t.acts ≤ 1000) (hk : (x.kind : Int) % 10 = 7) :
    Calls Try.prog 13 #[ptr sb, ptr rb, .agg (sixV x va vc ka kc)] W (DoesPost w sb rb t) := by
  have hbx := boxed_mk h (sixV x va vc ka kc)
  have hcl := hid (pair_remove hbx.drew.two (by omega) x.name hn)
  have b0 := hbx.here 0 _ rfl
  have b1 := hbx.here 1 _ rfl
  have fin1 := hid (fun w1 hk => hbx.drew.one (w1 := w1) hk 1 _ rfl)
  have fin2 := hid (fun e w2 he => And.intro (hbx.drew.two' (w2 := w2) (e := e) (v := .int .i64 (t.remove x.name).1) (t4 := (t.remove x.name).2) he 1 _ rfl) (And.intro he.1 (hbx.drew.post he (acts_remove t x.name))))
  clear h hbx hn ha
  generalize (t.remove x.name).1 = r at *
  generalize (t.remove x.name).2 = t4 at *
  unfold sixV at *
  unfold ptr str at *
  go_enter Try.func13, Try.ntmps13
  go_wp2_with fail
  go_region_held3 (fun w' => w'.cell? ⟨W.heap.size, 1, none⟩ = some (.string ⟨x.name.toArray⟩)) (go_keep) (first | (go_at_call 28; refine hcl.out.mono ?_; rintro e w1 ⟨rfl, hk1, hr⟩; have hb1 := fin1.out w1 hk1; replace hr := hid hr; clear hk1) | (go_at_call 34; refine hr.out.mono ?_; rintro e w2 he; obtain ⟨hb2, rfl, hp⟩ := fin2.out _ _ he; replace hp := hid hp; clear he))
  all_goals (go_wp2; go_ret; exact hp.out)
set_option maxRecDepth 100000 in
set_option maxHeartbeats 2000000 in
theorem does_truncate (W : World) (h : Two w.heap.size w W sb g rb R t) (x : ActD) (va : Option Addr) (vc : Nat) (ka : Option Addr) (kc : Nat) (hn : x.name.length ≤ 30000) (ha : t.acts ≤ 1000) (hk : (x.kind : Int) % 10 = 5) :
    Calls Try.prog 13 #[ptr sb, ptr rb, .agg (sixV x va vc ka kc)] W (DoesPost w sb rb t) := by
  have hbx := boxed_mk h (sixV x va vc ka kc)
  have hcl := hid (pair_truncate hbx.drew.two (by omega) x.name hn x.n)
  have b0 := hbx.here 0 _ rfl
  have b1 := hbx.here 1 _ rfl
  have b4 := hbx.here 4 _ rfl
  have fin1 := hid (fun w1 hk => And.intro (hbx.drew.one (w1 := w1) hk 1 _ rfl) (hbx.drew.one (w1 := w1) hk 4 _ rfl))
  have fin2 := hid (fun e w2 he => And.intro (hbx.drew.two' (w2 := w2) (e := e) (v := .int .i64 (t.truncate x.name x.n).1) (t4 := (t.truncate x.name x.n).2) he 1 _ rfl) (And.intro (hbx.drew.two' (w2 := w2) (e := e) (v := .int .i64 (t.truncate x.name x.n).1) (t4 := (t.truncate x.name x.n).2) he 4 _ rfl) (And.intro he.1 (hbx.drew.post he (acts_truncate t x.name x.n)))))
  clear h hbx hn ha
  generalize (t.truncate x.name x.n).1 = r at *
  generalize (t.truncate x.name x.n).2 = t4 at *
  unfold sixV at *
  unfold ptr str at *
  go_enter Try.func13, Try.ntmps13
  go_wp2_with fail
  go_region_held3 (fun w' => w'.cell? ⟨W.heap.size, 1, none⟩ = some (.string ⟨x.name.toArray⟩) ∧ w'.cell? ⟨W.heap.size, 4, none⟩ = some (.int .i64 x.n)) (go_keep) (first | (go_at_call 26; refine hcl.out.mono ?_; rintro e w1 ⟨rfl, hk1, hr⟩; obtain ⟨hb1, hb1'⟩ := fin1.out w1 hk1; replace hr := hid hr; clear hk1) | (go_at_call 32; refine hr.out.mono ?_; rintro e w2 he; obtain ⟨hb2, hb2', rfl, hp⟩ := fin2.out _ _ he; replace hp := hid hp; clear he))
  all_goals (go_wp2; go_ret; exact hp.out)
set_option maxRecDepth 100000 in
set_option maxHeartbeats 2000000 in
theorem does_rename (W : World) (h : Two w.heap.size w W sb g rb R t) (x : ActD) (va : Option Addr) (vc : Nat) (ka : Option Addr) (kc : Nat) (hn : x.name.length ≤ 30000) (ho : x.other.length ≤ 30000) (ha : t.acts ≤ 1000) (hk : (x.kind : Int) % 10 = 6) :
    Calls Try.prog 13 #[ptr sb, ptr rb, .agg (sixV x va vc ka kc)] W (DoesPost w sb rb t) := by
  have hbx := boxed_mk h (sixV x va vc ka kc)
  have hcl := hid (pair_rename hbx.drew.two (by omega) x.name x.other hn ho)
  have b0 := hbx.here 0 _ rfl
  have b1 := hbx.here 1 _ rfl
  have b2 := hbx.here 2 _ rfl
  have fin1 := hid (fun w1 hk => And.intro (hbx.drew.one (w1 := w1) hk 1 _ rfl) (hbx.drew.one (w1 := w1) hk 2 _ rfl))
  have fin2 := hid (fun e w2 he => And.intro (hbx.drew.two' (w2 := w2) (e := e) (v := .int .i64 (t.rename x.name x.other).1) (t4 := (t.rename x.name x.other).2) he 1 _ rfl) (And.intro (hbx.drew.two' (w2 := w2) (e := e) (v := .int .i64 (t.rename x.name x.other).1) (t4 := (t.rename x.name x.other).2) he 2 _ rfl) (And.intro he.1 (hbx.drew.post he (acts_rename t x.name x.other)))))
  clear h hbx hn ho ha
  generalize (t.rename x.name x.other).1 = r at *
  generalize (t.rename x.name x.other).2 = t4 at *
  unfold sixV at *
  unfold ptr str at *
  go_enter Try.func13, Try.ntmps13
  go_wp2_with fail
  go_region_held3 (fun w' => w'.cell? ⟨W.heap.size, 1, none⟩ = some (.string ⟨x.name.toArray⟩) ∧ w'.cell? ⟨W.heap.size, 2, none⟩ = some (.string ⟨x.other.toArray⟩)) (go_keep) (first | (go_at_call 27; refine hcl.out.mono ?_; rintro e w1 ⟨rfl, hk1, hr⟩; obtain ⟨hb1, hb1'⟩ := fin1.out w1 hk1; replace hr := hid hr; clear hk1) | (go_at_call 33; refine hr.out.mono ?_; rintro e w2 he; obtain ⟨hb2, hb2', rfl, hp⟩ := fin2.out _ _ he; replace hp := hid hp; clear he))
  all_goals (go_wp2; go_ret; exact hp.out)
set_option maxRecDepth 100000 in
set_option maxHeartbeats 2000000 in
theorem does_power (W : World) (h : Two w.heap.size w W sb g rb R t) (x : ActD) (va : Option Addr) (vc : Nat) (ka : Option Addr) (kc : Nat) (hx : -9223372036854775808 ≤ x.n ∧ x.n ≤ 9223372036854775807) (hk : (x.kind : Int) % 10 = 8) :
    Calls Try.prog 13 #[ptr sb, ptr rb, .agg (sixV x va vc ka kc)] W (DoesPost w sb rb t) := by
  have hbx := boxed_mk h (sixV x va vc ka kc)
  have hcl := hid (pair_power hbx.two x.n hx)
  have b0 := hbx.here 0 _ rfl
  have b4 := hbx.here 4 _ rfl
  have fin1 := hid (fun w1 hk => hbx.one (w1 := w1) hk 4 _ rfl)
  have fin2 := hid (fun e w2 he => And.intro he.1 (hbx.post (w2 := w2) (e := e) (v := .tuple #[]) (t4 := { t with left := x.n }) he (Nat.le_succ _)))
  clear h hbx hx
  unfold sixV at *
  unfold ptr str at *
  go_enter Try.func13, Try.ntmps13
  go_wp2_with (first | (go_at_call 21; refine hcl.out.mono ?_; rintro e w1 ⟨rfl, hk1, hr⟩; have hb1 := fin1.out w1 hk1; replace hr := hid hr; clear hk1) | (go_at_call 35; refine hr.out.mono ?_; rintro e w2 he; obtain ⟨rfl, hp⟩ := fin2.out _ _ he; replace hp := hid hp; clear he))
  go_ret
  exact hp.out
end
end Go.Proofs.Ytinnegkkfaaceaa
