/- Plain mathematics of LexKinds: digits, a word, a text in quotes, alone, are one token each. -/
import Derived.Test.YtlggdeadkebgiabG9
import Derived.Deep.Matrix
namespace Go.Proofs.Ytlggdeadkebgiab
open Go.ChangeShapes Go.WideShapes Go.ChangeAt Go.RowKit

theorem scan_one {s : Tx} {k : Nat} {x : Tx} (h : first s = some (k, x, s.length)) : Scan 0 s [⟨k, x, 0⟩] none := by
  have hg : gap s = 0 := by have := first_gap h []; rwa [List.append_nil] at this
  have h0 := (first_form h).1
  have := Scan.tok (at_ := 0) (s := s) (l := []) (b := none) (k := k) (x := x) (u := s.length) (by omega) (by rw [hg]; exact h) (by
    rw [hg, Nat.zero_add, List.drop_length]
    exact .done rfl)
  rw [hg] at this
  exact this
def AllD (ds : Tx) : Prop := ∀ c ∈ ds, dig c = true
def AllL (l : Tx) : Prop := ∀ c ∈ l, low c = true
theorem dig_low {c : UInt8} (h : dig c = true) : low c = false := by
  unfold dig at h
  unfold low
  simp only [Bool.and_eq_true, decide_eq_true_eq] at h
  rw [decide_eq_false (by omega : ¬ 97 ≤ c.toNat)]
  rfl
theorem dig_nmc {c : UInt8} (h : dig c = true) : nmc c = true := by
  have : nmc c = (low c || dig c || c.toNat == 95) := rfl
  rw [this, h]; simp
theorem sc_digits {ds : Tx} (h0 : ds ≠ []) (h : AllD ds) : Scan 0 ds [⟨2, ds, 0⟩] none := by
  refine scan_one ?_
  cases ds with
  | nil => exact absurd rfl h0
  | cons c t =>
    have hc := h c (by simp)
    have hn : numL (c :: t) = (c :: t).length := by
      unfold numL
      rw [cnt_all h, List.drop_length]
      rfl
    rw [first_num (dig_low hc) hc, hn, List.take_length]
theorem sc_word {l ds : Tx} (h0 : l ≠ []) (hl : AllL l) (h : AllD ds) : Scan 0 (l ++ ds) [⟨1, l ++ ds, 0⟩] none := by
  refine scan_one ?_
  have ha : ∀ c ∈ l ++ ds, nmc c = true := fun c hc => by
    rcases List.mem_append.1 hc with hc | hc
    · exact low_nmc (hl c hc)
    · exact dig_nmc (h c hc)
  have hn : cnt nmc (l ++ ds) = (l ++ ds).length := cnt_all ha
  cases l with
  | nil => exact absurd rfl h0
  | cons c t =>
    rw [List.cons_append] at hn ⊢
    rw [first_word (hl c (by simp)), hn, List.take_length]
theorem esc_id : ∀ {v : Tx}, (∀ c ∈ v, spc c = false) → esc v = v
  | [], _ => rfl
  | c :: v, h => by
    rw [esc_cons, esc_id fun d hd => h d (by simp [hd])]
    unfold esc1
    rw [if_neg (by rw [h c (by simp)]; simp)]
    rfl
theorem plain_of {c : UInt8} (h : low c = true ∨ dig c = true ∨ c = 32) : spc c = false ∧ vlc c = true := by
  unfold spc vlc
  rcases h with h | h | rfl
  · unfold low at h
    simp only [Bool.and_eq_true, decide_eq_true_eq] at h
    refine ⟨?_, by simp; omega⟩
    rw [show (c.toNat == 34) = false by simp; omega, show (c.toNat == 92) = false by simp; omega]
    rfl
  · unfold dig at h
    simp only [Bool.and_eq_true, decide_eq_true_eq] at h
    refine ⟨?_, by simp; omega⟩
    rw [show (c.toNat == 34) = false by simp; omega, show (c.toNat == 92) = false by simp; omega]
    rfl
  · decide
theorem sc_text {l ds : Tx} (hl : AllL l) (h : AllD ds) : Scan 0 (34 :: (l ++ 32 :: (ds ++ [34]))) [⟨3, l ++ 32 :: ds, 0⟩] none := by
  have hp : ∀ c ∈ l ++ 32 :: ds, low c = true ∨ dig c = true ∨ c = 32 := fun c hc => by
    rcases List.mem_append.1 hc with hc | hc
    · exact .inl (hl c hc)
    · rcases List.mem_cons.1 hc with rfl | hc
      · exact .inr (.inr rfl)
      · exact .inr (.inl (h c hc))
  have e : (34 :: (l ++ 32 :: (ds ++ [34])) : Tx) = quote (l ++ 32 :: ds) := by
    unfold quote
    rw [esc_id fun c hc => (plain_of (hp c hc)).1]
    simp
  rw [e]
  refine scan_one ?_
  have := (Shape.text (r := []) (fun c hc => (plain_of (hp c hc)).2)).first
  rw [List.append_nil] at this
  exact this
def dgt (d : Int) : UInt8 := UInt8.ofNat (48 + d.toNat)
def ltr (d : Int) : UInt8 := UInt8.ofNat (97 + d.toNat)
theorem dgt_dig {d : Int} (h0 : 0 ≤ d) (h9 : d ≤ 9) : dig (dgt d) = true := by
  have e : (dgt d).toNat = 48 + d.toNat := by unfold dgt; rw [UInt8.toNat_ofNat']; omega
  unfold dig
  rw [e]
  simp; omega
theorem ltr_low {d : Int} (h0 : 0 ≤ d) (h9 : d ≤ 25) : low (ltr d) = true := by
  have e : (ltr d).toNat = 97 + d.toNat := by unfold ltr; rw [UInt8.toNat_ofNat']; omega
  unfold low
  rw [e]
  simp; omega
theorem conv_byte (w : World) (c : UInt8) (z : Int) (hz : z = (c.toNat : Int)) : (convert 23 9 (.slice (some ⟨w.heap.size, 0, none⟩) 1 1)).run Try.prog (w.alloc (.cells #[.int .u8 z] 5)) = .ok (.string ⟨([c] : Tx).toArray⟩) (w.alloc (.cells #[.int .u8 z] 5)) := by
  have hb := byte_lt c
  have := conv_str (own_new w #[.int .u8 z] [z] w.heap.size 1 rfl rfl rfl (byt_one (by omega)) (by unfold maxLen; simp)).isB
  rw [show byts [z] = [c] by subst hz; simp [byts]] at this
  exact this
theorem conv_dgt (w : World) (d : Int) (h0 : 0 ≤ d) (h9 : d ≤ 9) : (convert 23 9 (.slice (some ⟨w.heap.size, 0, none⟩) 1 1)).run Try.prog (w.alloc (.cells #[.int .u8 (48 + d)] 5)) = .ok (.string ⟨([dgt d] : Tx).toArray⟩) (w.alloc (.cells #[.int .u8 (48 + d)] 5)) :=
  conv_byte w (dgt d) _ (by unfold dgt; rw [UInt8.toNat_ofNat']; omega)
theorem conv_ltr (w : World) (d : Int) (h0 : 0 ≤ d) (h9 : d ≤ 25) : (convert 23 9 (.slice (some ⟨w.heap.size, 0, none⟩) 1 1)).run Try.prog (w.alloc (.cells #[.int .u8 (97 + d)] 5)) = .ok (.string ⟨([ltr d] : Tx).toArray⟩) (w.alloc (.cells #[.int .u8 (97 + d)] 5)) :=
  conv_byte w (ltr d) _ (by unfold ltr; rw [UInt8.toNat_ofNat']; omega)
theorem wf_u8 {z : Int} (h : (Lit.int .u8 z).wf = true) : 0 ≤ z ∧ z < 256 := by
  simp [Lit.wf, IntKind.min, IntKind.max, IntKind.bits, IntKind.signed] at h
  omega
theorem wf_u64 {z : Int} (h : (Lit.int .u64 z).wf = true) : 0 ≤ z ∧ z < 18446744073709551616 := by
  simp [Lit.wf, IntKind.min, IntKind.max, IntKind.bits, IntKind.signed] at h
  omega
theorem getD_take (zs : List Int) (n i : Nat) (h : i < n) : (zs.take n).getD i 0 = zs.getD i 0 := by
  simp [List.getD, List.getElem?_take_of_lt h]
theorem isB_mk {w : World} {a : Option Addr} {len cap : Nat} {zs : List Int} (h1 : len ≤ cap) (h2 : cap ≤ maxLen) (h3 : zs.length = cap) (h4 : ∀ n ∈ zs, (Lit.int .u8 n).wf = true) (h5 : a = none → cap = 0)
    (h6 : ∀ a', a = some a' → ∀ c, c < cap → w.cell? (a'.add c) = some (.int .u8 (zs.getD c 0))) : IsB w (.slice a len cap) (zs.take len) := by
  have hl : (zs.take len).length = len := by simp; omega
  refine ⟨by omega, fun z hz => wf_u8 (h4 z (List.mem_of_mem_take hz)), a, cap, by rw [hl], by omega, h2, ?_⟩
  by_cases h0 : len = 0
  · left; simp [h0]
  · right
    cases a with
    | none => have := h5 rfl; omega
    | some x =>
      obtain ⟨b, off, spot⟩ := x
      have hc := h6 _ rfl 0 (by omega)
      have hspot : spot = none := by simpa [Addr.add] using World.cell?_spot hc
      subst hspot
      refine ⟨b, off, rfl, fun i hi => ?_⟩
      rw [hl] at hi
      have := h6 _ rfl i (by omega)
      rw [Addr.add_lit] at this
      rw [getD_take zs len i hi]
      exact this
section
variable {H : Type} {enc : TypeId × Value → H} {w : World} {base : Nat} {held : Bool}
set_option maxRecDepth 100000 in
theorem open_bytes {t e : TypeId} {r : Reach} {base0 : Nat} {P : Program} {v : Value} {d : DataW H} {p : List MemPlace} (ht : P.underlying t = some (.slice e)) (he : P.underlying e = some (.int .u8)) (ce : P.cellsOf e = 1)
    (hv : Value.okWide P w r base0 t v) (h : DataW.Trod enc P w base (fun _ => true) held t v d p) : ∃ zs, IsB w v zs := by
  obtain ⟨a, len, cap, rfl⟩ := okWide_slice ht hv
  obtain ⟨fuel, hf⟩ := h
  rcases open_ints ht he ce hf with ⟨hcs, _⟩ | ⟨x, l, c, zs, hcs, _, hl, hm, hz, _, hcell, hwz⟩
  · simp [Value.cells] at hcs
    obtain ⟨rfl, rfl, rfl⟩ := hcs
    exact ⟨[], by simp, by simp, none, 0, rfl, by simp, by simp, .inl rfl⟩
  · simp [Value.cells] at hcs
    obtain ⟨rfl, rfl, rfl⟩ := hcs
    have hz' : zs.length = cap := by simpa using hz
    exact ⟨_, isB_mk hl hm hz' hwz (fun h => by cases h) (fun a' h c hc => by cases h; exact hcell c (by omega))⟩
end
end Go.Proofs.Ytlggdeadkebgiab
