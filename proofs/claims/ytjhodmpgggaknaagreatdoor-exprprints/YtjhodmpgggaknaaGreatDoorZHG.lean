/- Joined: AT AQ. -/
import Derived.Test.YtjhodmpgggaknaaGreatDoorZHK
/- The parts of a text between its blanks, outside of quotes; of what a condition is written with they are its tokens. -/
namespace Go.Proofs.YtjhodmpgggaknaaGreatDoor
/-- where a part ends, in quotes or not; none: behind the text's end. -/
def endW : Bool → Tx → Option Nat
  | _, [] => some 0
  | q, c :: t =>
    if q = false ∧ c = 32 then some 0
    else if c = 92 then (match t with
      | [] => none
      | _ :: t2 => (endW q t2).map (· + 2))
    else if c = 34 then (endW (!q) t).map (· + 1)
    else (endW q t).map (· + 1)
theorem endW_blank (t : Tx) : endW false (32 :: t) = some 0 := by
  rw [endW.eq_def]
  simp
theorem endW_esc (q : Bool) (c : UInt8) (t : Tx) : endW q (92 :: c :: t) = (endW q t).map (· + 2) := by
  rw [endW.eq_def]
  simp
theorem endW_esc0 (q : Bool) : endW q [92] = none := by
  rw [endW.eq_def]
  simp
theorem endW_quote (q : Bool) (t : Tx) : endW q (34 :: t) = (endW (!q) t).map (· + 1) := by
  rw [endW.eq_def]
  simp
theorem endW_else {q : Bool} {c : UInt8} (t : Tx) (h1 : ¬ (q = false ∧ c = 32)) (h2 : c ≠ 92) (h3 : c ≠ 34) : endW q (c :: t) = (endW q t).map (· + 1) := by
  rw [endW.eq_def]
  simp only
  rw [if_neg h1, if_neg h2, if_neg h3]
/-- the tokens, part by part. -/
def atF : Nat → Tx → Option (List Tk)
  | 0, _ => none
  | f + 1, s => if s = [] then some [] else match endW false s with
    | none => none
    | some n => if n ≤ 4096 ∧ badOf (s.take n) = none then (atF f (s.drop (n + 1))).map (tksOf (s.take n) ++ ·) else none
/- of a condition's text. -/
def quietC (c : UInt8) : Bool := c != 32 && c != 34 && c != 92
theorem endW_quiet : ∀ (x : Tx) (t : Tx), (∀ c ∈ x, quietC c = true) → endW false (x ++ t) = (endW false t).map (· + x.length)
  | [], t, _ => by
    show endW false t = _
    cases endW false t <;> rfl
  | c :: x, t, h => by
    have hc := h c (by simp)
    unfold quietC at hc
    simp at hc
    rw [List.cons_append, endW_else _ (fun e => hc.1.1 e.2) hc.2 hc.1.2, endW_quiet x t (fun d hd => h d (by simp [hd]))]
    cases endW false t with
    | none => rfl
    | some n => simp; omega
theorem endW_in : ∀ (v : Tx) (t : Tx), endW true (esc v ++ 34 :: t) = (endW false t).map (· + ((esc v).length + 1))
  | [], t => by
    show endW true (34 :: t) = _
    rw [endW_quote]
    rfl
  | c :: v, t => by
    rw [esc_cons]
    by_cases hs : spc c = true
    · rw [esc1, if_pos hs]
      show endW true (92 :: c :: (esc v ++ 34 :: t)) = _
      rw [endW_esc, endW_in v t]
      cases endW false t with
      | none => rfl
      | some n => simp; omega
    · rw [esc1, if_neg hs]
      have h2 : c ≠ 92 := fun e => hs (by rw [e]; rfl)
      have h3 : c ≠ 34 := fun e => hs (by rw [e]; rfl)
      show endW true (c :: (esc v ++ 34 :: t)) = _
      rw [endW_else _ (by simp) h2 h3, endW_in v t]
      cases endW false t with
      | none => rfl
      | some n => simp; omega
def quietK (k : Key) : Prop := k.1 = 3 ∨ ∀ c ∈ k.2, quietC c = true
theorem endW_key {k : Key} (h : quietK k) (t : Tx) : endW false (form k.1 k.2 ++ t) = (endW false t).map (· + (form k.1 k.2).length) := by
  unfold form
  by_cases h3 : k.1 = 3
  · rw [if_pos h3]
    unfold quote
    rw [List.cons_append, endW_quote, List.append_assoc]
    show (endW true (esc k.2 ++ 34 :: t)).map _ = _
    rw [endW_in]
    cases endW false t with
    | none => rfl
    | some n => simp; omega
  · rw [if_neg h3]
    rcases h with h | h
    · exact absurd h h3
    · exact endW_quiet _ _ h
/-- how long each part is, from so many bytes on. -/
def PartOK : Nat → List Pc → Prop
  | _, [] => True
  | _, none :: l => PartOK 0 l
  | n, some k :: l => n + (form k.1 k.2).length ≤ 4096 ∧ PartOK (n + (form k.1 k.2).length) l
theorem endW_keys : ∀ (a : List Key) (t : Tx), (∀ k ∈ a, quietK k) → endW false (textO (a.map some) ++ t) = (endW false t).map (· + (textO (a.map some)).length)
  | [], t, _ => by
    show endW false t = _
    cases endW false t <;> rfl
  | k :: a, t, h => by
    rw [List.map_cons, textO_cons, List.append_assoc]
    show endW false (form k.1 k.2 ++ _) = _
    rw [endW_key (h k (by simp)), endW_keys a t (fun x hx => h x (by simp [hx]))]
    cases endW false t with
    | none => rfl
    | some n =>
      show some _ = some _
      rw [List.length_append]
      congr 1
      show n + _ + (form k.1 k.2).length = n + ((form k.1 k.2).length + _)
      omega
/-- a row of parts: its first part, and the rest. -/
theorem split_pcs : ∀ (l : List Pc), ∃ a : List Key, l = a.map some ∨ ∃ b, l = a.map some ++ none :: b
  | [] => ⟨[], .inl rfl⟩
  | none :: l => ⟨[], .inr ⟨l, rfl⟩⟩
  | some k :: l => by
    obtain ⟨a, h | ⟨b, h⟩⟩ := split_pcs l
    · exact ⟨k :: a, .inl (by rw [h]; rfl)⟩
    · exact ⟨k :: a, .inr ⟨b, by rw [h]; rfl⟩⟩
theorem part_len : ∀ (a : List Key) (n : Nat) (l : List Pc), n ≤ 4096 → PartOK n (a.map some ++ l) → n + (textO (a.map some)).length ≤ 4096
  | [], n, l, h0, h => by simpa [textO] using h0
  | k :: a, n, l, h0, h => by
    obtain ⟨h1, h2⟩ := h
    have := part_len a _ l h1 h2
    rw [List.map_cons, textO_cons, List.length_append]
    show n + ((form k.1 k.2).length + _) ≤ _
    omega
theorem part_rest : ∀ (a : List Key) (n : Nat) (b : List Pc), PartOK n (a.map some ++ none :: b) → PartOK 0 b
  | [], _, _, h => h
  | _ :: a, _, b, h => part_rest a _ b h.2
theorem hasK_part {a : List Key} (h : Glue (a.map some) none) : HasK (textO (a.map some)) a := fun p => by
  obtain ⟨m, h1, h2⟩ := glue_scan (a.map some) h p
  rw [keysO_map] at h2
  exact ⟨m, h1, h2⟩
theorem atF_pcs : ∀ (f : Nat) (l : List Pc), Glue l none → (∀ k, some k ∈ l → quietK k) → PartOK 0 l → (textO l).length < f → ∃ ts, atF f (textO l) = some ts ∧ keysT ts = keysO l
  | 0, l, _, _, _, h => absurd h (Nat.not_lt_zero _)
  | f + 1, l, hg, hq, hp, hf => by
    obtain ⟨a, rfl | ⟨b, rfl⟩⟩ := split_pcs l
    · have hk : ∀ k ∈ a, quietK k := fun k h => hq k (by simp [h])
      have he := endW_keys a [] hk
      rw [List.append_nil] at he
      have hl := part_len a 0 [] (by omega) (by simpa using hp)
      rw [Nat.zero_add] at hl
      obtain ⟨e1, e2⟩ := (hasK_part hg).keys
      rw [keysO_map]
      by_cases h0 : textO (a.map some) = []
      · rw [atF, if_pos h0]
        refine ⟨[], rfl, ?_⟩
        rw [h0] at e2
        rw [← e2]
        rfl
      · rw [atF, if_neg h0, he]
        have e0 : endW false [] = some 0 := rfl
        rw [e0]
        simp only [Option.map_some, Nat.zero_add]
        rw [List.take_length, if_pos ⟨hl, e1⟩, List.drop_eq_nil_of_le (by omega)]
        cases f with
        | zero => exact absurd (List.length_pos_iff.2 h0) (by omega)
        | succ f =>
          rw [atF, if_pos rfl]
          exact ⟨_, rfl, by simpa using e2⟩
    · have hk : ∀ k ∈ a, quietK k := fun k h => hq k (by simp [h])
      have ht : textO (a.map some ++ none :: b) = textO (a.map some) ++ 32 :: textO b := by rw [textO_app, textO_cons]; rfl
      have he := endW_keys a (32 :: textO b) hk
      rw [endW_blank] at he
      simp only [Option.map_some, Nat.zero_add] at he
      have hl := part_len a 0 _ (by omega) hp
      rw [Nat.zero_add] at hl
      obtain ⟨g1, g2⟩ := (glue_app (a.map some) (none :: b) none).1 hg
      obtain ⟨e1, e2⟩ := (hasK_part (glue_none _ g1)).keys
      rw [ht] at hf ⊢
      rw [List.length_append, List.length_cons] at hf
      obtain ⟨ts, h1, h2⟩ := atF_pcs f b g2 (fun k h => hq k (by simp [h])) (part_rest a 0 b hp) (by omega)
      rw [atF, if_neg (by simp), he]
      simp only
      rw [List.take_left, if_pos ⟨hl, e1⟩]
      have ed : (textO (a.map some) ++ 32 :: textO b).drop ((textO (a.map some)).length + 1) = textO b := by
        rw [show textO (a.map some) ++ 32 :: textO b = (textO (a.map some) ++ [32]) ++ textO b by simp]
        exact List.drop_left' (by simp)
      rw [ed, h1]
      refine ⟨_, rfl, ?_⟩
      rw [keysO_app, keysO_map]
      show keysT (_ ++ ts) = a ++ keysO b
      rw [← h2]
      unfold keysT at *
      rw [List.map_append, e2]
end Go.Proofs.YtjhodmpgggaknaaGreatDoor
/- How long a condition's text is; its parts between blanks are its tokens. -/
namespace Go.Proofs.YtjhodmpgggaknaaGreatDoor
theorem esc_len_le : ∀ v : Tx, (esc v).length ≤ 2 * v.length
  | [] => by simp [esc]
  | c :: v => by
    have := esc_len_le v
    have h1 : (esc1 c).length ≤ 2 := by unfold esc1; split <;> simp
    rw [esc_cons, List.length_append, List.length_cons]
    omega
theorem itemM_len {x : Mat.Mt} (h : Mat.mayM1 x = true) : (Mat.itemM x).length ≤ 84 := by
  obtain ⟨_, h2, h3⟩ := Mat.mayM1_iff.1 h
  have a := mayN_len h2
  have b := (Mat.opS_len x.2.1).2
  unfold Mat.mayV0 at h3
  rw [Bool.and_eq_true, decide_eq_true_iff] at h3
  have c := esc_len_le x.2.2
  unfold Mat.itemM quote
  simp
  omega
theorem join_len : ∀ (l : List Mat.Mt), (∀ x ∈ l, Mat.mayM1 x = true) → (Lib.join (l.map Mat.itemM) [44]).length ≤ 85 * l.length
  | [], _ => by simp [Lib.join]
  | [x], h => by
    rw [List.map_singleton, Lib.join_one]
    have := itemM_len (h x (by simp))
    simp
    omega
  | x :: y :: l, h => by
    have h1 := itemM_len (h x (by simp))
    have h2 := join_len (y :: l) (fun z hz => h z (by simp at hz ⊢; exact .inr hz))
    rw [List.map_cons, join2 (Mat.itemM x) ((y :: l).map Mat.itemM) (by simp) 44]
    rw [List.length_append, List.length_cons, List.length_cons]
    rw [List.length_cons] at *
    omega
theorem sel_len {m : List Mat.Mt} (h : Mat.mayM m = true) : (Mat.printM m).length ≤ 512 := by
  obtain ⟨h1, h2⟩ := Mat.mayM_iff.1 h
  have := join_len m h2
  unfold Mat.printM
  simp
  omega
theorem aggS_len (n : Nat) : (aggS n).length ≤ 5 := by
  unfold aggS
  split <;> simp
theorem cmpS_len (n : Nat) : (cmpS n).length ≤ 2 := by
  unfold cmpS
  split <;> simp
theorem num_len (v : Int) : (Num.printL v).length ≤ 25 := by
  have h1 := Num.sat_lo v
  have h2 := Num.sat_hi v
  unfold Num.printL
  split
  · have := Num.digits_len (m := -Num.sat v) (by omega) (by omega)
    simp
    omega
  · have := Num.digits_len (m := Num.sat v) (by omega) (by omega)
    omega
theorem ptxC_len {c : Cm} (h : okC c) : (ptxC c).length ≤ 570 := by
  obtain ⟨_, _, h3, _, h5, _⟩ := h
  have a := aggS_len c.agg.toNat
  have b := sel_len h3
  have d := Num.dec_len c.win.toNat (by omega)
  have e := cmpS_len c.cmp.toNat
  have f := num_len c.val
  unfold ptxC
  simp
  omega
theorem ptx_len : ∀ (t : Tree), okT t → ∀ n, (ptx n t).length ≤ 570 * t.size
  | .leaf c, h, n => by
    have := ptxC_len (c := c) h
    show (ptxC c).length ≤ _
    simp only [Tree.size]
    omega
  | .neg t, h, n => by
    have := ptx_len t h 2
    rw [ptx, List.length_append]
    simp only [Tree.size]
    simp
    omega
  | .bin o l r, h, n => by
    have h1 := ptx_len l h.1 (lvl o)
    have h2 := ptx_len r h.2 (lvl o + 1)
    have h3 : (opW o).length ≤ 3 := by cases o <;> decide
    rw [ptx, parens]
    simp only [Tree.size]
    split
    · simp
      omega
    · simp
      omega
/- quiet. -/
theorem quiet_nmc {c : UInt8} (h : nmc c = true) : quietC c = true := by
  have hh : ∀ n : Fin 256, nmc (UInt8.ofNat n.val) = true → quietC (UInt8.ofNat n.val) = true := by decide +kernel
  have := hh ⟨c.toNat, UInt8.toNat_lt c⟩
  simp at this
  exact this h
theorem quiet_dig {c : UInt8} (h : dig c = true) : quietC c = true := by
  have hh : ∀ n : Fin 256, dig (UInt8.ofNat n.val) = true → quietC (UInt8.ofNat n.val) = true := by decide +kernel
  have := hh ⟨c.toNat, UInt8.toNat_lt c⟩
  simp at this
  exact this h
theorem quiet_digits {m : Int} (h0 : 0 ≤ m) : ∀ c ∈ Num.digitsOf m, quietC c = true := by
  obtain ⟨ps, p, hs, _, _⟩ := Num.digits_shape h0
  obtain ⟨hd, hp, _, hl, _⟩ := hs
  have q1 : ∀ c ∈ Lib.decDigits (m / 1000).toNat, quietC c = true := fun c hc => quiet_dig (dig_iff.2 (hd c hc))
  have q2 : ∀ c ∈ ps, quietC c = true := fun c hc => quiet_dig (dig_iff.2 (hp c hc))
  intro c hc
  rw [hl] at hc
  cases p
  · simp at hc
    exact q1 c hc
  · simp at hc
    rcases hc with hc | rfl | hc
    · exact q1 c hc
    · decide
    · exact q2 c hc
theorem quiet_num (v : Int) : ∀ k ∈ numK v, quietK k := by
  have h1 := Num.sat_lo v
  have h2 := Num.sat_hi v
  intro k hk
  unfold numK at hk
  split at hk
  · simp at hk
    rcases hk with rfl | rfl
    · exact .inr (by decide)
    · exact .inr (quiet_digits (by omega))
  · simp at hk
    subst hk
    exact .inr (quiet_digits (by omega))
theorem quiet_item {x : Mat.Mt} (h : Mat.mayM1 x = true) (k : Key) (hk : k ∈ itemK x) : quietK k := by
  obtain ⟨_, h2, _⟩ := Mat.mayM1_iff.1 h
  simp [itemK] at hk
  rcases hk with rfl | rfl | rfl
  · exact .inr (fun c hc => quiet_nmc (Mat.mayN_all h2 c hc))
  · refine .inr ?_
    show ∀ c ∈ Mat.opS x.2.1, quietC c = true
    unfold Mat.opS
    repeat' split
    all_goals decide
  · exact .inl rfl
theorem quiet_join : ∀ (l : List Mat.Mt), (∀ x ∈ l, Mat.mayM1 x = true) → ∀ k ∈ joinK l, quietK k
  | [], _, k, hk => by simp [joinK] at hk
  | [x], h, k, hk => quiet_item (h x (by simp)) k hk
  | x :: y :: l, h, k, hk => by
    rw [joinK] at hk
    rcases List.mem_append.1 hk with hk | hk
    · exact quiet_item (h x (by simp)) k hk
    · rcases List.mem_cons.1 hk with rfl | hk
      · exact .inr (by decide)
      · exact quiet_join (y :: l) (fun z hz => h z (by simp at hz ⊢; exact .inr hz)) k hk
theorem quiet_agg (n : Nat) : ∀ c ∈ aggS n, quietC c = true := by
  unfold aggS
  split <;> decide
theorem quiet_cmp (n : Nat) : ∀ c ∈ cmpS n, quietC c = true := by
  unfold cmpS
  split <;> decide
theorem quiet_pcsC {c : Cm} (h : okC c) (k : Key) (hk : some k ∈ pcsC c) : quietK k := by
  obtain ⟨_, _, h3, _, _, _⟩ := h
  simp [pcsC] at hk
  rcases hk with rfl | rfl | rfl | hk | rfl | rfl | rfl | rfl | rfl | rfl | hk
  · exact .inr (quiet_agg _)
  · exact .inr (by decide)
  · exact .inr (by decide)
  · exact quiet_join c.sel (Mat.mayM_iff.1 h3).2 k hk
  · exact .inr (by decide)
  · exact .inr (by decide)
  · exact .inr (fun d hd => quiet_dig (dig_iff.2 (Num.dec_dig _ d hd)))
  · exact .inr (by decide)
  · exact .inr (by decide)
  · exact .inr (quiet_cmp _)
  · exact quiet_num _ k hk
theorem quiet_pcs : ∀ (t : Tree), okT t → ∀ (m : Nat) (k : Key), some k ∈ pcs m t → quietK k
  | .leaf c, h, m, k, hk => quiet_pcsC h k hk
  | .neg t, h, m, k, hk => by
    simp [pcs] at hk
    rcases hk with rfl | hk
    · exact .inr (by decide)
    · exact quiet_pcs t h 2 k hk
  | .bin o l r, h, m, k, hk => by
    have hop : quietK (opKey o) := .inr (by cases o <;> decide)
    have inner : some k ∈ pcs (lvl o) l ++ (none :: some (opKey o) :: none :: pcs (lvl o + 1) r) → quietK k := fun hk => by
      simp at hk
      rcases hk with hk | rfl | hk
      · exact quiet_pcs l h.1 _ k hk
      · exact hop
      · exact quiet_pcs r h.2 _ k hk
    rw [pcs, parensP] at hk
    split at hk
    · rcases List.mem_cons.1 hk with e | hk
      · cases e
        exact .inr (by decide)
      · rcases List.mem_append.1 hk with hk | hk
        · exact inner hk
        · simp at hk
          subst hk
          exact .inr (by decide)
    · exact inner hk
/- parts. -/
theorem part_mk : ∀ (a : List Key) (n : Nat) (l : List Pc), n + (textO (a.map some)).length ≤ 4096 → PartOK (n + (textO (a.map some)).length) l → PartOK n (a.map some ++ l)
  | [], _, _, _, h => h
  | k :: a, n, l, h0, h => by
    have e : (textO ((k :: a).map some)).length = (form k.1 k.2).length + (textO (a.map some)).length := by
      rw [List.map_cons, textO_cons, List.length_append]
      rfl
    rw [e] at h0 h
    exact ⟨by omega, part_mk a _ l (by omega) (by rw [Nat.add_assoc]; exact h)⟩
theorem part_pcs : ∀ (t : Tree), okT t → ∀ (m n : Nat) (rest : List Pc), n + t.size ≤ 1000 → (∀ n', n' ≤ 40 + t.size → PartOK n' rest) → PartOK n (pcs m t ++ rest)
  | .leaf c, h, m, n, rest, hn, hr => by
    have hl := ptxC_len (c := c) h
    have e : pcs m (.leaf c) ++ rest = ((1, aggS c.agg.toNat) :: kOpen :: kBrace :: (joinK c.sel ++ [kBraceE, kSq, (2, Lib.decDigits c.win.toNat), kSqE, kEnd])).map some ++ (none :: some (4, cmpS c.cmp.toNat) :: none :: ((numK c.val).map some ++ rest)) := by
      simp [pcs, pcsC]
    have e2 : textO (pcsC c) = textO (((1, aggS c.agg.toNat) :: kOpen :: kBrace :: (joinK c.sel ++ [kBraceE, kSq, (2, Lib.decDigits c.win.toNat), kSqE, kEnd])).map some) ++ textO (none :: some (4, cmpS c.cmp.toNat) :: none :: ((numK c.val).map some)) := by
      rw [← textO_app]
      simp [pcsC]
    rw [textO_pcsC] at e2
    have e3 := congrArg List.length e2
    rw [List.length_append] at e3
    simp only [Tree.size] at hn hr
    rw [e]
    refine part_mk _ _ _ (by omega) ?_
    refine ⟨?_, ?_⟩
    · have := cmpS_len c.cmp.toNat
      show 0 + (form 4 (cmpS c.cmp.toNat)).length ≤ _
      simp [form]
      omega
    · have := num_len c.val
      rw [← textO_num] at this
      show PartOK 0 _
      exact part_mk _ _ _ (by omega) (hr _ (by omega))
  | .neg t, h, m, n, rest, hn, hr => by
    simp only [Tree.size] at hn hr
    refine ⟨?_, ?_⟩
    · show n + 3 ≤ 4096
      omega
    · exact part_pcs t h 2 0 rest (by omega) (fun n' hn' => hr n' (by omega))
  | .bin o l r, h, m, n, rest, hn, hr => by
    simp only [Tree.size] at hn hr
    have inner : ∀ (n : Nat) (rest : List Pc), n + l.size ≤ 1000 → (∀ n', n' ≤ 40 + r.size → PartOK n' rest) → PartOK n (pcs (lvl o) l ++ (none :: some (opKey o) :: none :: (pcs (lvl o + 1) r ++ rest))) := fun n rest hn hr =>
      part_pcs l h.1 _ n _ hn fun n' _ => ⟨by cases o <;> decide, part_pcs r h.2 _ 0 rest (by omega) hr⟩
    rw [pcs, parensP]
    split
    · have e : some kOpen :: (pcs (lvl o) l ++ (none :: some (opKey o) :: none :: pcs (lvl o + 1) r) ++ [some kEnd]) ++ rest = some kOpen :: (pcs (lvl o) l ++ (none :: some (opKey o) :: none :: (pcs (lvl o + 1) r ++ (some kEnd :: rest)))) := by simp
      rw [e]
      refine ⟨by show n + 1 ≤ 4096; omega, inner _ _ (by show n + 1 + l.size ≤ 1000; omega) fun n' hn' => ⟨by show n' + 1 ≤ 4096; omega, hr _ (by show n' + 1 ≤ _; omega)⟩⟩
    · have e : pcs (lvl o) l ++ (none :: some (opKey o) :: none :: pcs (lvl o + 1) r) ++ rest = pcs (lvl o) l ++ (none :: some (opKey o) :: none :: (pcs (lvl o + 1) r ++ rest)) := by simp
      rw [e]
      exact inner n rest (by omega) fun n' hn' => hr n' (by omega)
/-- the parts of a condition's text have its tokens. -/
theorem at_ptx {t : Tree} (h : okT t) (hs : t.size ≤ 31) : ∃ ts, atF ((ptx 0 t).length + 1) (ptx 0 t) = some ts ∧ keysT ts = pks 0 t := by
  have h1 := atF_pcs ((ptx 0 t).length + 1) (pcs 0 t) (glue_pcs t h 0 none (.inl rfl)) (quiet_pcs t h 0) (by
    have := part_pcs t h 0 0 [] (by omega) (fun _ _ => trivial)
    rwa [List.append_nil] at this) (by rw [text_pcs]; omega)
  rw [text_pcs, keys_pcs] at h1
  exact h1
end Go.Proofs.YtjhodmpgggaknaaGreatDoor
