/- A call at both stores. -/
import Derived.Test.YtinnegkkfaaceaaPlB
namespace Go.Proofs.Ytinnegkkfaaceaa
open Go.RowKit Go.Maps Go.MapKept Go.Shelf

section
variable {B sb rb : Nat} {w W : World} {g : Gs} {R : Rs} {t t4 : St}
/-- how both calls end. -/
def Ends (B sb rb : Nat) (w W : World) (g : Gs) (R : Rs) (t4 : St) (v : Value) (e : Ending) (w2 : World) : Prop :=
  e = .returned v ∧ (∀ k, k < W.heap.size → ¬ foot sb g k → ¬ rfoot rb R k → w2.heap[k]? = W.heap[k]?) ∧ ∃ g' R', Two B w w2 sb g' rb R' t4 ∧ ∀ k, foot sb g' k ∨ rfoot rb R' k → foot sb g k ∨ rfoot rb R k ∨ W.heap.size ≤ k
theorem pair_of (T : Two B w W sb g rb R t) {v : Value} {fS fR : FuncId} {aS aR : Array Value} (hS : Calls Try.prog fS aS W fun e w' => e = .returned v ∧ ∃ g', Step B sb W w' g g' ∧ Is B w' sb g' t4)
    (hR : ∀ w1, RefAt B w1 rb R → Below B w w1 → Calls Try.prog fR aR w1 fun e w' => e = .returned v ∧ ∃ R', R'.abs = t4.norm ∧ RStep B rb w1 w' R R') :
    Calls Try.prog fS aS W fun e w1 => e = .returned v ∧ (∀ k, k < W.heap.size → ¬ foot sb g k → w1.heap[k]? = W.heap[k]?) ∧ Calls Try.prog fR aR w1 (Ends B sb rb w W g R t4 v) := by
  refine hS.mono ?_
  rintro e w1 ⟨rfl, g', hs, h4⟩
  obtain ⟨r1, ap, lo⟩ := T.first hs
  refine ⟨rfl, fun k hk hn => hs.kept.block k hk hn, (hR w1 r1 lo).mono ?_⟩
  rintro e w2 ⟨rfl, R', he, hs2⟩
  refine ⟨rfl, fun k hk h1 h2 => (hs2.kept.block k (Nat.lt_of_lt_of_le hk hs.kept.size) h2).trans (hs.kept.block k hk h1), g', R', Two.second h4 ap lo hs2 r1 he, fun k hk => ?_⟩
  rcases hk with hk | hk
  · exact (hs.fresh k hk).imp id .inr
  · rcases hs2.fresh k hk with e | e
    · exact .inr (.inl e)
    · exact .inr (.inr (Nat.le_trans hs.kept.size e))
theorem pair_sync (T : Two B w W sb g rb R t) (ha : t.acts < 4611686018427387903) (n : List UInt8) (hn : n.length ≤ 30000) : Calls Try.prog 25 #[ptr sb, str n] W fun e w1 => e = .returned (.int .i64 (t.sync n).1) ∧ (∀ k, k < W.heap.size → ¬ foot sb g k → w1.heap[k]? = W.heap[k]?) ∧ Calls Try.prog 31 #[ptr rb, str n] w1 (Ends B sb rb w W g R (t.sync n).2 (.int .i64 (t.sync n).1)) :=
  pair_of T (sync_t (r := (t.sync n).1) (t' := (t.sync n).2) W T.is n (by unfold maxLen; omega) (by omega) rfl) fun w1 hr _ => by
    have := rsync w1 hr (T.ok ha) n
    rw [T.abs, sync_norm] at this
    exact this
theorem pair_remove (T : Two B w W sb g rb R t) (ha : t.acts < 4611686018427387903) (n : List UInt8) (hn : n.length ≤ 30000) : Calls Try.prog 28 #[ptr sb, str n] W fun e w1 => e = .returned (.int .i64 (t.remove n).1) ∧ (∀ k, k < W.heap.size → ¬ foot sb g k → w1.heap[k]? = W.heap[k]?) ∧ Calls Try.prog 34 #[ptr rb, str n] w1 (Ends B sb rb w W g R (t.remove n).2 (.int .i64 (t.remove n).1)) :=
  pair_of T (remove_t (r := (t.remove n).1) (t' := (t.remove n).2) W T.is n (by unfold maxLen; omega) (by omega) rfl) fun w1 hr _ => by
    have := rremove w1 hr (T.ok ha) n
    rw [T.abs, remove_norm] at this
    exact this
theorem pair_truncate (T : Two B w W sb g rb R t) (ha : t.acts < 4611686018427387903) (n : List UInt8) (hn : n.length ≤ 30000) (x : Int) : Calls Try.prog 26 #[ptr sb, str n, .int .i64 x] W fun e w1 => e = .returned (.int .i64 (t.truncate n x).1) ∧ (∀ k, k < W.heap.size → ¬ foot sb g k → w1.heap[k]? = W.heap[k]?) ∧ Calls Try.prog 32 #[ptr rb, str n, .int .i64 x] w1 (Ends B sb rb w W g R (t.truncate n x).2 (.int .i64 (t.truncate n x).1)) :=
  pair_of T (truncate_t (r := (t.truncate n x).1) (t' := (t.truncate n x).2) W T.is n (by unfold maxLen; omega) x (by omega) rfl) fun w1 hr _ => by
    have := rtruncate w1 hr (T.ok ha) n x
    rw [T.abs, truncate_norm] at this
    exact this
theorem pair_rename (T : Two B w W sb g rb R t) (ha : t.acts < 4611686018427387903) (o n : List UInt8) (ho : o.length ≤ 30000) (hn : n.length ≤ 30000) : Calls Try.prog 27 #[ptr sb, str o, str n] W fun e w1 => e = .returned (.int .i64 (t.rename o n).1) ∧ (∀ k, k < W.heap.size → ¬ foot sb g k → w1.heap[k]? = W.heap[k]?) ∧ Calls Try.prog 33 #[ptr rb, str o, str n] w1 (Ends B sb rb w W g R (t.rename o n).2 (.int .i64 (t.rename o n).1)) :=
  pair_of T (rename_t (r := (t.rename o n).1) (t' := (t.rename o n).2) W T.is o n (by unfold maxLen; omega) (by omega) (by omega) rfl) fun w1 hr _ => by
    have := rrename w1 hr (T.ok ha) o n (by omega)
    rw [T.abs, rename_norm] at this
    exact this
theorem pair_power (T : Two B w W sb g rb R t) (x : Int) (hx : -9223372036854775808 ≤ x ∧ x ≤ 9223372036854775807) : Calls Try.prog 21 #[ptr sb, .int .i64 x] W fun e w1 => e = .returned (.tuple #[]) ∧ (∀ k, k < W.heap.size → ¬ foot sb g k → w1.heap[k]? = W.heap[k]?) ∧ Calls Try.prog 35 #[ptr rb, .int .i64 x] w1 (Ends B sb rb w W g R { t with left := x } (.tuple #[])) :=
  pair_of T (power_t W T.is x hx) fun w1 hr _ => by
    refine (rpower w1 hr x).mono ?_
    rintro e w2 ⟨rfl, hs⟩
    refine ⟨rfl, _, ?_, hs⟩
    rw [power_norm, ← T.abs]
    rfl
theorem pair_crash (T : Two B w W sb g rb R t) (ha : t.acts < 4611686018427387903) {v1 v2 : Value} {keep : List Int} (h1 : IsI W v1 keep) (hf1 : keep ≠ [] → ∀ b, v1.ownBlock = some b → ¬ foot sb g b) (h2 : IsI w v2 keep) (hB : B = w.heap.size) : Calls Try.prog 22 #[ptr sb, v1] W fun e w1 => e = .returned (.tuple #[]) ∧ (∀ k, k < W.heap.size → ¬ foot sb g k → w1.heap[k]? = W.heap[k]?) ∧ Calls Try.prog 36 #[ptr rb, v2] w1 (Ends B sb rb w W g R (t.crash keep) (.tuple #[])) :=
  pair_of T (crash_t W T.is v1 keep h1 hf1) fun w1 hr lo => by
    have := rcrash w1 hr (T.ok ha) v2 keep (h2.kept fun _ b _ hl => lo.block b (by rw [hB]; exact hl)) fun hne b hb hf => by
      have h3 := h2.lt hne hb
      have h4 := hr.low hf
      omega
    rw [T.abs, crash_norm] at this
    exact this
theorem pair_append (T : Two B w W sb g rb R t) (ha : t.acts < 4611686018427387903) (n : List UInt8) (hn : n.length ≤ 30000) {v1 : Value} {a2 : Option Addr} {c2 : Nat} {bs : List UInt8} (h1 : IsB W v1 bs) (h2 : IsB w (.slice a2 bs.length c2) bs) (hl : bs.length ≤ 30000) (hB : B = w.heap.size) : Calls Try.prog 18 #[ptr sb, str n, v1] W fun e w1 => e = .returned (.int .i64 (t.append n bs).1) ∧ (∀ k, k < W.heap.size → ¬ foot sb g k → w1.heap[k]? = W.heap[k]?) ∧ Calls Try.prog 37 #[ptr rb, str n, .slice a2 bs.length c2] w1 (Ends B sb rb w W g R (t.append n bs).2 (.int .i64 (t.append n bs).1)) :=
  pair_of T (append_t (r := (t.append n bs).1) (t' := (t.append n bs).2) W T.is n (by omega) v1 bs h1 (by omega) rfl) fun w1 hr lo => by
    have := rappend w1 hr (T.ok ha) n (by omega) a2 c2 bs (h2.below (by rw [← hB]; exact lo)) (by omega)
    rw [T.abs, append_norm] at this
    exact this
theorem acts_done (t : St) (l : List Ent) : (St.done { t with l := l }).acts ≤ t.acts + 1 := Nat.le_refl _
theorem acts_with (t : St) (n : List UInt8) (k : Ent → Int × St) (h : ∀ f, (k f).2.acts ≤ t.acts + 1) : (t.with n k).2.acts ≤ t.acts + 1 := by
  unfold St.with
  split
  · exact Nat.le_succ _
  · split
    · exact Nat.le_succ _
    · exact h _
theorem acts_sync (t : St) (n : List UInt8) : (t.sync n).2.acts ≤ t.acts + 1 := acts_with t n _ fun _ => acts_done t _
theorem acts_remove (t : St) (n : List UInt8) : (t.remove n).2.acts ≤ t.acts + 1 := acts_with t n _ fun _ => acts_done t _
theorem acts_truncate (t : St) (n : List UInt8) (x : Int) : (t.truncate n x).2.acts ≤ t.acts + 1 := acts_with t n _ fun _ => by
  split
  · exact Nat.le_succ _
  · exact acts_done t _
theorem acts_rename (t : St) (o n : List UInt8) : (t.rename o n).2.acts ≤ t.acts + 1 := acts_with t o _ fun _ => by
  split
  · exact Nat.le_succ _
  · exact acts_done t _
theorem acts_append (t : St) (n bs : List UInt8) : (t.append n bs).2.acts ≤ t.acts + 1 := by
  unfold St.append
  split
  · exact Nat.le_succ _
  split
  · exact Nat.le_succ _
  split
  · split
    · exact Nat.le_succ _
    · exact acts_done t _
  · split
    · exact Nat.le_succ _
    · split
      · exact Nat.le_succ _
      · exact acts_done t _
/-- a cell of a block that is neither store's is turned. -/
theorem Two.set (h : Two B w W sb g rb R t) {b : Nat} (h1 : ¬ foot sb g b) (h2 : ¬ rfoot rb R b) (hB : B ≤ b) (j : Nat) (u : Value) : Two B w (W.setCell ⟨b, j, none⟩ u) sb g rb R t :=
  ⟨⟨h.is.1.keep fun k hk => heap_set _ _ _ _ _ fun e => h1 (e ▸ hk), h.is.2.1, by rw [size_set]; exact h.is.2.2⟩, h.ref.keep (by rw [size_set]; exact Nat.le_refl _) fun k hk => heap_set _ _ _ _ _ fun e => h2 (e ▸ hk), h.abs, h.apart, h.low.trans ⟨rfl, rfl, rfl, by rw [size_set]; exact Nat.le_refl _, fun k hk => heap_set _ _ _ _ _ (by omega)⟩⟩
end
end Go.Proofs.Ytinnegkkfaaceaa
