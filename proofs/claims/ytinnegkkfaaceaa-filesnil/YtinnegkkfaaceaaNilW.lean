/- The walk of FilesNil. -/
import Derived.Test.YtinnegkkfaaceaaNilD
import Derived.Test.YtinnegkkfaaceaaGreat
import Derived.Test.YtinnegkkfaaceaaRows
namespace Go.Proofs.Ytinnegkkfaaceaa
namespace filesNil
open Go.RowKit Go.Maps Go.MapKept Go.Shelf

def six (x : ActD) (vb vk : Value) : Array Value := #[.int .u8 (x.kind : Int), str x.name, str x.other, vb, .int .i64 x.n, vk]
theorem great_one (x : ActD) (vb vk : Value) (w : World) (hok : ActOk x) (hB : IsB w vb x.b) (hI : IsI w vk x.keep) :
    Calls Try.prog 9 #[.slice (some ⟨w.heap.size + 1, 0, none⟩) 1 1] ((w.alloc (.cells (six x vb vk) 33)).alloc (.cells (six x vb vk) 33)) fun e w3 =>
      ∃ r : Bool, e = .returned (.bool r) ∧ Below w.heap.size w w3 ∧ w3.heap.size = w.heap.size + 2 ∧ w3.heap[w.heap.size]? = some (.cells (six x vb vk) 33) := by
  obtain ⟨W1, hW1⟩ : ∃ W1, W1 = w.alloc (.cells (six x vb vk) 33) := ⟨_, rfl⟩
  have b1 : Below w.heap.size w W1 := by rw [hW1]; exact alloc_below _ _
  have s1 : W1.heap.size = w.heap.size + 1 := by rw [hW1]; simp
  have b2 := alloc_below W1 (.cells (six x vb vk) 33)
  have b12 := low b1 (by omega) b2
  have c2 : (W1.alloc (.cells (six x vb vk) 33)).heap[w.heap.size + 1]? = some (.cells (six x vb vk) 33) := by rw [← s1]; exact (MapKept.heap_alloc _ _).1
  have c1 : (W1.alloc (.cells (six x vb vk) 33)).heap[w.heap.size]? = some (.cells (six x vb vk) 33) := (b2.block w.heap.size (by omega)).trans (by rw [hW1]; exact (MapKept.heap_alloc _ _).1)
  rw [← hW1]
  have hacts : IsActs (W1.alloc (.cells (six x vb vk) 33)) (.slice (some ⟨w.heap.size + 1, 0, none⟩) 1 1) [x] := by
    refine ⟨by simp [maxLen], _, 1, rfl, .inr ⟨w.heap.size + 1, 0, rfl, fun i hi => ?_⟩⟩
    obtain rfl : i = 0 := by simp at hi; omega
    refine ⟨_, ⟨hok, vb, vk, rfl, hB.below b12, hI.below b12⟩, fun j hj => ?_⟩
    rw [show 0 + 0 * 6 + j = j by omega, cell_of c2]
    simp [six]
  refine (great_any _ [x] _ hacts).mono ?_
  rintro e w3 ⟨r, rfl, _, q, rfl⟩
  exact ⟨r, rfl, ⟨b12.os, b12.tape, b12.output, b12.size, b12.block⟩, by show (W1.alloc _).heap.size = _; simp [s1], c1⟩
set_option maxRecDepth 100000 in
set_option maxHeartbeats 4000000 in
theorem walk (x : ActD) (va : Option Addr) (vc : Nat) (ka : Option Addr) (kc : Nat) (w : World) (hok : ActOk x) (hB : IsB w (.slice va x.b.length vc) x.b) (hI : IsI w (.slice ka x.keep.length kc) x.keep) :
    Calls Try.prog 5 #[.agg #[.int .u8 (x.kind : Int), str x.name, str x.other, .slice va x.b.length vc, .int .i64 x.n, .slice ka x.keep.length kc]] w fun e w' => e = .returned (.bool true) ∧ Below w.heap.size w w' := by
  have haw := hid awake_any
  have hg := hid (great_one x _ _ w hok hB hI)
  clear hok hB hI
  unfold six at hg
  unfold str at hg ⊢
  go_enter Try.func5, Try.ntmps5
  go_wp2_with fail
  refine hg.out.mono ?_
  rintro e w3 ⟨r, rfl, L3, s3, c3⟩
  have k1 : w3.cell? ⟨w.heap.size, 1, none⟩ = some (.string ⟨x.name.toArray⟩) := by rw [cell_of c3]; rfl
  have k2 : w3.cell? ⟨w.heap.size, 2, none⟩ = some (.string ⟨x.other.toArray⟩) := by rw [cell_of c3]; rfl
  have k3 : w3.cell? ⟨w.heap.size, 3, none⟩ = some (.slice va x.b.length vc) := by rw [cell_of c3]; rfl
  have k4 : w3.cell? ⟨w.heap.size, 4, none⟩ = some (.int .i64 x.n) := by rw [cell_of c3]; rfl
  have k5 : w3.cell? ⟨w.heap.size, 5, none⟩ = some (.slice ka x.keep.length kc) := by rw [cell_of c3]; rfl
  replace L3 := hid L3
  clear hg c3
  cases r with
  | true =>
    go_wp2
    go_ret
    exact ⟨rfl, L3.out⟩
  | false =>
    have b4 := alloc_below w3 (.cells #[.map none, .int .i64 0, .int .i64 0] 52)
    have s4 : (w3.alloc (.cells #[.map none, .int .i64 0, .int .i64 0] 52)).heap.size = w.heap.size + 2 + 1 := by simp [s3]
    have b5 := alloc_below (w3.alloc (.cells #[.map none, .int .i64 0, .int .i64 0] 52)) (.cells #[.pointer none, .pointer (some ⟨w.heap.size + 2, 0, none⟩)] 24)
    have c4 : (w3.alloc (.cells #[.map none, .int .i64 0, .int .i64 0] 52)).heap[w.heap.size + 2]? = some (.cells #[.map none, .int .i64 0, .int .i64 0] 52) := by rw [← s3]; exact (MapKept.heap_alloc _ _).1
    have c5 : ((w3.alloc (.cells #[.map none, .int .i64 0, .int .i64 0] 52)).alloc (.cells #[.pointer none, .pointer (some ⟨w.heap.size + 2, 0, none⟩)] 24)).heap[w.heap.size + 2 + 1]? = some (.cells #[.pointer none, .pointer (some ⟨w.heap.size + 2, 0, none⟩)] 24) := by rw [← s4]; exact (MapKept.heap_alloc _ _).1
    have FX : Hid (∀ W, Below (w.heap.size + 2 + 2) ((w3.alloc (.cells #[.map none, .int .i64 0, .int .i64 0] 52)).alloc (.cells #[.pointer none, .pointer (some ⟨w.heap.size + 2, 0, none⟩)] 24)) W →
        W.cell? ⟨w.heap.size, 1, none⟩ = some (.string ⟨x.name.toArray⟩) ∧ W.cell? ⟨w.heap.size, 2, none⟩ = some (.string ⟨x.other.toArray⟩) ∧ W.cell? ⟨w.heap.size, 3, none⟩ = some (.slice va x.b.length vc) ∧ W.cell? ⟨w.heap.size, 4, none⟩ = some (.int .i64 x.n) ∧ W.cell? ⟨w.heap.size, 5, none⟩ = some (.slice ka x.keep.length kc) ∧
        Below w.heap.size w W ∧ ∀ i, i < 2 → ∃ p, W.cell? ⟨w.heap.size + 2 + 1, i, none⟩ = some (.pointer p) ∧ NilS W p) := by
      intro W hW
      have h3 : ∀ k, k < w3.heap.size → W.heap[k]? = w3.heap[k]? := fun k hk => (hW.block k (by omega)).trans ((b5.block k (by omega)).trans (b4.block k hk))
      have hc : ∀ j u, w3.cell? ⟨w.heap.size, j, none⟩ = some u → W.cell? ⟨w.heap.size, j, none⟩ = some u := fun j u hu => (World.cell?_of_block (a := ⟨w.heap.size, j, none⟩) (h3 _ (by show w.heap.size < _; omega))).trans hu
      have hlist : W.heap[w.heap.size + 2 + 1]? = some (.cells #[.pointer none, .pointer (some ⟨w.heap.size + 2, 0, none⟩)] 24) := (hW.block _ (by omega)).trans c5
      have hst : W.heap[w.heap.size + 2]? = some (.cells #[.map none, .int .i64 0, .int .i64 0] 52) := (hW.block _ (by omega)).trans ((b5.block _ (by omega)).trans c4)
      refine ⟨hc 1 _ k1, hc 2 _ k2, hc 3 _ k3, hc 4 _ k4, hc 5 _ k5, ⟨hW.os.trans (b5.os.trans (b4.os.trans L3.out.os)), hW.tape.trans (b5.tape.trans (b4.tape.trans L3.out.tape)), hW.output.trans (b5.output.trans (b4.output.trans L3.out.output)), ?_, fun k hk => (h3 k (by omega)).trans (L3.out.block k hk)⟩, fun i hi => ?_⟩
      · have := hW.size; have := b5.size; omega
      · match i, hi with
        | 0, _ => exact ⟨none, by rw [cell_of hlist]; rfl, nilS_none W⟩
        | 1, _ => exact ⟨_, by rw [cell_of hlist]; rfl, nilS_zero (by rw [cell_of hst]; rfl)⟩
    have hsz5 : ((w3.alloc (.cells #[.map none, .int .i64 0, .int .i64 0] 52)).alloc (.cells #[.pointer none, .pointer (some ⟨w.heap.size + 2, 0, none⟩)] 24)).heap.size = w.heap.size + 2 + 2 := by simp [s3]
    replace hsz5 := hid hsz5
    clear b4 s4 b5 c4 c5 k1 k2 k3 k4 k5
    go_wp2_with fail
    generalize (w3.alloc (.cells #[.map none, .int .i64 0, .int .i64 0] 52)).alloc (.cells #[.pointer none, .pointer (some ⟨w.heap.size + 2, 0, none⟩)] 24) = W5 at FX hsz5 ⊢
    clear s3 L3
    go_loopw [5] (fun iv wr => ∃ (i : Nat), i ≤ 2 ∧ iv = .int .i64 i ∧ Below (w.heap.size + 2 + 2) W5 wr ∧ w.heap.size + 2 + 2 ≤ wr.heap.size) (fun iv _ => 2 - (intOf iv).toNat)
    case atStart => exact ⟨0, by omega, rfl, Below.refl _ _, by rw [hsz5.out]; exact Nat.le_refl _⟩
    case round =>
      rename_i wr
      obtain ⟨i, hi, rfl, L, hsz⟩ := hrel
      obtain ⟨k1, k2, k3, k4, k5, L0, hp⟩ := FX.out _ L
      replace L := hid (And.intro L hsz)
      clear hsz
      by_cases hlt : i < 2
      · have hlt' : (i : Int) < 2 := by omega
        obtain ⟨p, hcell, hnil⟩ := hp i hlt
        replace hnil := hid hnil
        clear hp L0
        -- what every later world has
        have NX : Hid (∀ W W', (Below (w.heap.size + 2 + 2) W5 W ∧ w.heap.size + 2 + 2 ≤ W.heap.size) → NilS W p → Below W.heap.size W W' → (Below (w.heap.size + 2 + 2) W5 W' ∧ w.heap.size + 2 + 2 ≤ W'.heap.size) ∧ NilS W' p ∧ W'.cell? ⟨w.heap.size, 1, none⟩ = some (.string ⟨x.name.toArray⟩) ∧ W'.cell? ⟨w.heap.size, 2, none⟩ = some (.string ⟨x.other.toArray⟩) ∧ W'.cell? ⟨w.heap.size, 3, none⟩ = some (.slice va x.b.length vc) ∧ W'.cell? ⟨w.heap.size, 4, none⟩ = some (.int .i64 x.n) ∧ W'.cell? ⟨w.heap.size, 5, none⟩ = some (.slice ka x.keep.length kc)) := by
          intro W W' h1 h2 hb
          have h3 := h1.1.trans (hb.mono h1.2)
          obtain ⟨q1, q2, q3, q4, q5, _, _⟩ := FX.out _ h3
          exact ⟨⟨h3, Nat.le_trans h1.2 hb.size⟩, h2.below hb, q1, q2, q3, q4, q5⟩
        have hstr : Hid (∀ n : List UInt8, Value.string ⟨n.toArray⟩ = str n) := fun n => rfl
        clear FX hsz5
        go_wp2_with fail
        refine (read_nil hnil.out x.name).mono ?_
        rintro e w6 ⟨rfl, hb6⟩
        obtain ⟨M6, N6, a1, a2, a3, a4, a5⟩ := NX.out _ _ L.out hnil.out hb6
        replace M6 := hid M6
        replace N6 := hid N6
        clear hb6
        go_wp2_with fail
        refine (size_nil N6.out x.name).mono ?_
        rintro e w7 ⟨rfl, hb7⟩
        obtain ⟨M7, N7, b1, b2, b3, b4, b5⟩ := NX.out _ _ M6.out N6.out hb7
        replace M7 := hid M7
        replace N7 := hid N7
        clear hb7 M6 N6 a1 a2 a3 a4 a5
        go_wp2_with fail
        refine (synced_nil N7.out x.name).mono ?_
        rintro e w8 ⟨rfl, hb8⟩
        obtain ⟨M8, N8, c1, c2, c3, c4, c5⟩ := NX.out _ _ M7.out N7.out hb8
        replace M8 := hid M8
        replace N8 := hid N8
        clear hb8 M7 N7 b1 b2 b3 b4 b5
        go_wp2_with fail
        refine (power_nil N8.out x.n).mono ?_
        rintro e w9 ⟨rfl, rfl⟩
        go_wp2_with fail
        refine (crash_nil N8.out _ _ _).mono ?_
        rintro e w9 ⟨rfl, rfl⟩
        go_wp2_with fail
        refine (acts_nil N8.out).mono ?_
        rintro e w9 ⟨rfl, rfl⟩
        go_wp2_with fail
        refine (names_nil N8.out).mono ?_
        rintro e w9 ⟨rfl, rfl⟩
        go_wp2_with fail
        refine (dead_nil N8.out).mono ?_
        rintro e w9 ⟨rfl, rfl⟩
        go_wp2_with fail
        refine (append_nil N8.out x.name _ _ _).mono ?_
        rintro e w10 ⟨rfl, hb10⟩
        obtain ⟨M10, N10, a1, a2, a3, a4, a5⟩ := NX.out _ _ M8.out N8.out hb10
        replace M10 := hid M10
        replace N10 := hid N10
        clear hb10 M8 N8 c1 c2 c3 c4 c5
        go_wp2_with fail
        refine (sync_nil N10.out x.name).mono ?_
        rintro e w11 ⟨rfl, hb11⟩
        obtain ⟨M11, N11, b1, b2, b3, b4, b5⟩ := NX.out _ _ M10.out N10.out hb11
        replace M11 := hid M11
        replace N11 := hid N11
        clear hb11 M10 N10 a1 a2 a3 a4 a5
        go_wp2_with fail
        refine (truncate_nil N11.out x.name x.n).mono ?_
        rintro e w12 ⟨rfl, hb12⟩
        obtain ⟨M12, N12, c1, c2, c3, c4, c5⟩ := NX.out _ _ M11.out N11.out hb12
        replace M12 := hid M12
        replace N12 := hid N12
        clear hb12 M11 N11 b1 b2 b3 b4 b5
        go_wp2_with fail
        refine (rename_nil N12.out x.name x.other).mono ?_
        rintro e w13 ⟨rfl, hb13⟩
        obtain ⟨M13, N13, a1, a2, a3, a4, a5⟩ := NX.out _ _ M12.out N12.out hb13
        replace M13 := hid M13
        replace N13 := hid N13
        clear hb13 M12 N12 c1 c2 c3 c4 c5
        go_wp2_with fail
        refine (remove_nil N13.out x.name).mono ?_
        rintro e w14 ⟨rfl, hb14⟩
        have M14 := hid (NX.out _ _ M13.out N13.out hb14).1
        clear hb14 NX M13 N13 L hnil hstr a1 a2 a3 a4 a5
        go_wp2
        exact ⟨⟨i + 1, by omega, by go_num, M14.out.1, M14.out.2⟩, by simp [intOf]; omega⟩
      · have hge : ¬ (i : Int) < 2 := by omega
        replace L0 := hid L0
        go_wp2_with (go_at_call 20; refine (haw.out _).mono ?_; rintro e w9 ⟨rfl, hb9⟩; replace hb9 := hid (low L0.out L0.out.size hb9))
        go_ret
        exact ⟨rfl, hb9.out⟩
end filesNil
end Go.Proofs.Ytinnegkkfaaceaa
