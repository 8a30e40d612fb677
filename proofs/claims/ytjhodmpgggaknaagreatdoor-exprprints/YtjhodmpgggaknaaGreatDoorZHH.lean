/- Joined: NRefA NRefB. -/
import Derived.Test.YtjhodmpgggaknaaGreatDoorZNArith
import Derived.Test.YtjhodmpgggaknaaGreatDoorZGD
import Derived.Test.YtjhodmpgggaknaaGreatDoorZNParse
/- Contracts of the document's own answer: Sat, a digit's test, a number with one digit more; and plain mathematics of how a text parts into digits, a point and digits. -/
namespace Go.Proofs.YtjhodmpgggaknaaGreatDoor.Num
open Go.RowKit

set_option maxHeartbeats 400000 in
theorem rsat_any (x : Int) (w : World) :
    Calls Tryz.prog 49 #[.int .i64 x] w fun e w' => e = .returned (.int .i64 (sat x)) ∧ w' = w := by
  by_cases h1 : 4611686018427387903 < x
  · have H2 : Hid (4611686018427387903 = sat x) := sat_gt h1
    go_enter Tryz.func49, Tryz.ntmps49
    go_wp2
    go_ret
    exact ⟨ret_int H2.out, rfl⟩
  · by_cases h3 : x < -4611686018427387903
    · have H2 : Hid (-4611686018427387903 = sat x) := sat_lt h3
      go_enter Tryz.func49, Tryz.ntmps49
      go_wp2
      go_ret
      exact ⟨ret_int H2.out, rfl⟩
    · have H2 : Hid (x = sat x) := sat_in (by omega) (by omega)
      go_enter Tryz.func49, Tryz.ntmps49
      go_wp2
      go_ret
      exact ⟨ret_int H2.out, rfl⟩

set_option maxHeartbeats 400000 in
theorem digit_yes (c : Int) (w : World) (h1 : 48 ≤ c) (h2 : c ≤ 57) :
    Calls Tryz.prog 131 #[.int .u8 c] w fun e w' => e = .returned (.bool true) ∧ w' = w := by
  go_enter Tryz.func131, Tryz.ntmps131
  go_wp2
  go_ret
  exact ⟨rfl, rfl⟩
set_option maxHeartbeats 400000 in
theorem digit_no (c : Int) (w : World) (h : c < 48 ∨ 57 < c) :
    Calls Tryz.prog 131 #[.int .u8 c] w fun e w' => e = .returned (.bool false) ∧ w' = w := by
  rcases h with h | h
  · have h' : ¬ 48 ≤ c := by omega
    go_enter Tryz.func131, Tryz.ntmps131
    go_wp2
    go_ret
    exact ⟨rfl, rfl⟩
  · have h' : 48 ≤ c := by omega
    have h'' : ¬ c ≤ 57 := by omega
    go_enter Tryz.func131, Tryz.ntmps131
    go_wp2
    go_ret
    exact ⟨rfl, rfl⟩

theorem more_is {x d : Int} (h0 : 0 ≤ x) (hx : ¬ 461168601842738790 < x) (h1 : 0 ≤ d) (h2 : d ≤ 9) : sat (10 * x + d) = beh x d := by
  by_cases h : (4611686018427387903 - d) / 10 < x
  · rw [← beh_gt h, ← sat_gt (by omega)]
  · rw [← beh_le h, ← sat_in (by omega) (by omega)]; omega
set_option maxHeartbeats 400000 in
theorem more_any (n c : Int) (w : World) (hn : 0 ≤ n) (hn' : n ≤ 4611686018427387903) (hc : 48 ≤ c) (hc' : c ≤ 57) :
    Calls Tryz.prog 132 #[.int .i64 n, .int .u8 c] w fun e w' => e = .returned (.int .i64 (beh n (c - 48))) ∧ w' = w := by
  by_cases h : 461168601842738790 < n
  · have H : Hid (4611686018427387903 = beh n (c - 48)) := beh_gt (by omega)
    go_enter Tryz.func132, Tryz.ntmps132
    go_wp2
    go_ret
    exact ⟨ret_int H.out, rfl⟩
  · have H : Hid (sat (10 * n + (c - 48)) = beh n (c - 48)) := more_is hn h (by omega) (by omega)
    go_enter Tryz.func132, Tryz.ntmps132
    go_wp2_with (go_at_call 49; refine (rsat_any _ _).mono ?_; rintro e w' ⟨rfl, rfl⟩)
    go_ret
    exact ⟨ret_int H.out, rfl⟩

def NoDig (t : List UInt8) : Prop := ∀ c t', t = c :: t' → ¬ (48 ≤ c.toNat ∧ c.toNat ≤ 57)
theorem NoDig.nil : NoDig [] := fun _ _ h => by cases h
theorem NoDig.cons {c : UInt8} {t : List UInt8} (h : c.toNat < 48 ∨ 57 < c.toNat) : NoDig (c :: t) := fun d t' e => by
  cases e; omega
theorem split_unique : ∀ (a b t u : List UInt8), Dig a → Dig b → NoDig t → NoDig u → a ++ t = b ++ u → a = b ∧ t = u
  | [], [], t, u, _, _, _, _, h => ⟨rfl, h⟩
  | [], c :: b, t, u, _, hb, ht, _, h => absurd hb.head (ht c (b ++ u) (by simpa using h))
  | c :: a, [], t, u, ha, _, _, hu, h => absurd ha.head (hu c (a ++ t) (by simpa using h.symm))
  | c :: a, d :: b, t, u, ha, hb, ht, hu, h => by
    rw [List.cons_append, List.cons_append, List.cons.injEq] at h
    obtain ⟨rfl, h2⟩ := h
    obtain ⟨rfl, rfl⟩ := split_unique a b t u ha.tail hb.tail ht hu h2
    exact ⟨rfl, rfl⟩
def Right (l : List UInt8) : Prop := ∃ ds ps p, Shape l ds ps p ∧ ds ≠ [] ∧ (p = true → ps ≠ [])
theorem right_split {ds t : List UInt8} (hd : Dig ds) (ht : NoDig t) (h : Right (ds ++ t)) : ds ≠ [] ∧ (t = [] ∨ ∃ ps, t = 46 :: ps ∧ Dig ps ∧ ps ≠ [] ∧ ps.length ≤ 3) := by
  obtain ⟨ds', ps, p, ⟨hd', hp, h3, he, h0⟩, hne, hpe⟩ := h
  cases p
  · have := split_unique ds ds' t [] hd hd' ht NoDig.nil (by rw [List.append_nil]; exact he)
    rw [this.1]
    exact ⟨hne, .inl this.2⟩
  · have := split_unique ds ds' t (46 :: ps) hd hd' ht (NoDig.cons (by decide)) he
    rw [this.1]
    exact ⟨hne, .inr ⟨ps, this.2, hp, hpe rfl, h3⟩⟩
theorem tail_dig {a t : List UInt8} (ht : NoDig t) (h : Dig (a ++ t)) : t = [] := by
  cases t with
  | nil => rfl
  | cons c t' => exact absurd (h.right.head) (ht c t' rfl)
/-- Where no digit leads, no text is right; nor where digits end in what is no point. -/
theorem wrong_whole {t : List UInt8} (ht : NoDig t) : ¬ Right t := fun h => (right_split Dig.nil ht (by simpa using h)).1 rfl
theorem wrong_end {ds t : List UInt8} {c : UInt8} (hd : Dig ds) (hc : c.toNat < 48 ∨ 57 < c.toNat) (h46 : c ≠ 46) : ¬ Right (ds ++ c :: t) := fun h => by
  rcases (right_split hd (NoDig.cons hc) h).2 with e | ⟨ps, e, _⟩
  · cases e
  · cases e; exact h46 rfl
theorem wrong_part {ds ps t : List UInt8} (hd : Dig ds) (ht : NoDig t) (h : ps = [] ∨ 3 < ps.length ∨ t ≠ []) : ¬ Right (ds ++ 46 :: (ps ++ t)) := fun hr => by
  rcases (right_split hd (NoDig.cons (by decide)) hr).2 with e | ⟨qs, e, hq, hne, h3⟩
  · cases e
  · simp only [List.cons.injEq, true_and] at e
    rw [← e] at hq hne h3
    have e2 := tail_dig ht hq
    subst e2
    rw [List.append_nil] at hne h3
    rcases h with h | h | h
    · exact hne h
    · omega
    · exact h rfl
theorem right_none {ds : List UInt8} (hd : Dig ds) : Shape ds ds [] false := ⟨hd, Dig.nil, by simp, rfl, fun _ => rfl⟩
theorem right_point {ds ps : List UInt8} (hd : Dig ds) (hp : Dig ps) (h : ps.length ≤ 3) : Shape (ds ++ 46 :: ps) ds ps true := ⟨hd, hp, h, rfl, fun h => by cases h⟩
theorem not_right {l : List UInt8} (h0 : Lib.hasPrefix l [45] = false) (h : ¬ Right l) : parseN l = 0 ∧ parseE l = 10 := by
  by_cases he : parseE l = 0
  · exfalso
    obtain ⟨l', ds, ps, p, hs, hd, hp, hor⟩ := parse_inv he
    rcases hor with ⟨rfl, _⟩ | ⟨rfl, _⟩
    · exact h ⟨ds, ps, p, hs, hd, hp⟩
    · rw [has_cons] at h0; exact absurd h0 (by decide)
  · exact parse_no he
theorem not_right_minus {l : List UInt8} (h : ¬ Right l) : parseN (45 :: l) = 0 ∧ parseE (45 :: l) = 10 := by
  by_cases he : parseE (45 :: l) = 0
  · exfalso
    obtain ⟨l', ds, ps, p, hs, hd, hp, hor⟩ := parse_inv he
    rcases hor with ⟨e, _⟩ | ⟨e, _⟩
    · subst e
      exact absurd (hs.begins hd) (by rw [has_cons]; decide)
    · cases e
      exact h ⟨ds, ps, p, hs, hd, hp⟩
  · exact parse_no he
end Go.Proofs.YtjhodmpgggaknaaGreatDoor.Num
/- The contract of the document's own Parse: for any string of at most 20000 bytes it returns the number and the error that the plain functions say; nothing in memory turns. -/
namespace Go.Proofs.YtjhodmpgggaknaaGreatDoor.Num
open Go.RowKit

theorem byte_at (s : ByteArray) (a t : List UInt8) (c : UInt8) (i : Nat) (h : s.data.toList = a ++ c :: t) (hi : i = a.length) : ∃ hq : i < s.size, s[i]'hq = c := by
  have hlt : i < s.data.toList.length := by rw [h, hi]; simp
  refine ⟨by rw [Lib.size_eq]; exact hlt, ?_⟩
  show s.data[i]'(by simpa using hlt) = c
  have : s.data.toList[i]'hlt = c := by simp [h, hi]
  simpa using this

set_option maxHeartbeats 2000000 in
theorem rparse_empty (s : ByteArray) (w : World) (hs : s.size ≤ 20000) (hsz : s.size = 0) (rest : List UInt8) (HS : Hid (s.data.toList = [] ++ rest))
    (HOK : Hid (∀ ds ps p, Shape rest ds ps p → ds ≠ [] → (p = true → ps ≠ []) → parseN s.data.toList = satN (val 0 (ds ++ ps) * 10 ^ (3 - ps.length)) ∧ parseE s.data.toList = 0))
    (HERR : Hid (¬ Right rest → parseN s.data.toList = 0 ∧ parseE s.data.toList = 10)) :
    Calls Tryz.prog 111 #[.string s] w fun e w' => e = .returned (.tuple #[.int .i64 (parseN s.data.toList), .int .i64 (parseE s.data.toList)]) ∧ w' = w := by
  have hz : ¬ (0 : Int) < (s.size : Int) := by omega
  have hsize0 : s.size ≤ 0 := by omega
  clear hsz
  go_enter Tryz.func111, Tryz.ntmps111
  go_wp2
  go_loop [4, 6, 7] (fun at_ x wh => ∃ (i k : Nat) (n : Int) (ds t : List UInt8), at_ = .int .i64 i ∧ x = .int .i64 n ∧ wh = .int .i64 k ∧ 0 ≤ n ∧ n ≤ 4611686018427387903 ∧ i ≤ s.size ∧ k ≤ i ∧ Dig ds ∧ Hid (rest = ds ++ t ∧ i = ([] ++ ds).length ∧ k = ds.length ∧ n = satN (val 0 ds))) (fun i _ _ => s.size - (intOf i).toNat)
  case atStart => exact ⟨0, 0, 0, [], rest, rfl, rfl, rfl, by omega, by omega, by omega, by omega, Dig.nil, ⟨rfl, rfl, rfl, rfl⟩⟩
  case round =>
    obtain ⟨i, k, n, ds, t, rfl, rfl, rfl, n0, n1, hi, hki, hd, HR⟩ := hrel
    have HX := HR.out
    have hLL : s.data.toList = ([] ++ ds) ++ t := by rw [HS.out, HX.1, List.append_assoc]
    cases t with
    | nil =>
      have hiz : i = s.size := by rw [Lib.size_eq, hLL, HX.2.1, List.append_nil]
      have hni : ¬ (i : Int) < (s.size : Int) := by omega
      have kat : ((i : Int) != (s.size : Int)) = false := by rw [hiz]; simp
      by_cases hk : k = 0
      · have hds : ds = [] := List.length_eq_zero_iff.1 (by rw [← HX.2.2.1]; exact hk)
        have he := HERR.out (by rw [HX.1, hds]; exact wrong_whole NoDig.nil)
        have H1 : Hid (0 = parseN s.data.toList) := he.1.symm
        have H2 : Hid (10 = parseE s.data.toList) := he.2.symm
        clear he
        have kk : ((k : Int) == 0) = true := by rw [hk]; rfl
        clear HX hLL hiz hds hk
        go_wp2
        go_ret2
        exact ⟨ret_two H1.out H2.out, rfl⟩
      · have hne : ds ≠ [] := fun e => hk (by rw [HX.2.2.1, e]; rfl)
        have hok := HOK.out ds [] false (by rw [HX.1, List.append_nil]; exact right_none hd) hne (fun h => by cases h)
        obtain ⟨V, hV⟩ : ∃ V, padN (3 - 0) n = V := ⟨_, rfl⟩
        have HPAD : Hid (padN (3 - 0) n = V) := hV
        have HE0 : Hid (0 = parseE s.data.toList) := hok.2.symm
        have HVN : Hid (V = parseN s.data.toList) := by
          show _ = _
          rw [hok.1, ← hV, HX.2.2.2, padN_satN _ (val_nonneg ds (by omega) hd), List.append_nil]
          rfl
        have kk : ((k : Int) == 0) = false := by rw [beq_eq_false_iff_ne]; omega
        clear HX hLL hiz hk hok hV
        go_wp2_with fail
        go_loop [6, 8] (fun n d => ∃ (m : Int) (k : Nat), n = .int .i64 m ∧ d = .int .i64 k ∧ k ≤ 3 ∧ 0 ≤ m ∧ m ≤ 4611686018427387903 ∧ Hid (padN (3 - k) m = V)) (fun _ d => 3 - (intOf d).toNat)
        case atStart => exact ⟨_, 0, rfl, rfl, by omega, n0, n1, HPAD⟩
        case round =>
          obtain ⟨m, k2, rfl, rfl, hk2, m0, m1, HM⟩ := hrel
          by_cases hk3 : k2 < 3
          · have g1 := beh_lo (d := 0) m0 (by omega)
            have g2 := beh_hi m 0
            have HN : Hid (padN (3 - (k2 + 1)) (beh m 0) = V) := (padN_next k2 m hk3).symm.trans HM.out
            go_wp2_with (go_at_call 132; refine (more_any _ _ _ (by omega) (by omega) (by omega) (by omega)).mono ?_; rintro e w' ⟨rfl, rfl⟩)
            go_round
            case rel => exact ⟨_, k2 + 1, rfl, by go_num, by omega, g1, g2, HN⟩
            case measure => simp [intOf]; omega
          · have hmv : m = V := by
              have e1 := HM.out
              rw [show 3 - k2 = 0 by omega] at e1
              exact e1
            have HQ : Hid (m = parseN s.data.toList) := by
              show _ = _
              rw [hmv]
              exact HVN.out
            clear hmv
            have hk5 : ¬ (k2 : Int) < 3 := by omega
            go_wp2
            go_ret2
            exact ⟨ret_two HQ.out HE0.out, rfl⟩
    | cons c t =>
      obtain ⟨hi1, hget⟩ := byte_at s _ t c i hLL HX.2.1
      exact absurd hi1 (by omega)

set_option maxHeartbeats 2000000 in
theorem rparse_plain (s : ByteArray) (w : World) (hs : s.size ≤ 20000) (hsz : 0 < s.size) (h45 : (((s[0]'hsz).toNat : Int) == 45) = false) (rest : List UInt8) (HS : Hid (s.data.toList = [] ++ rest))
    (HOK : Hid (∀ ds ps p, Shape rest ds ps p → ds ≠ [] → (p = true → ps ≠ []) → parseN s.data.toList = satN (val 0 (ds ++ ps) * 10 ^ (3 - ps.length)) ∧ parseE s.data.toList = 0))
    (HERR : Hid (¬ Right rest → parseN s.data.toList = 0 ∧ parseE s.data.toList = 10)) :
    Calls Tryz.prog 111 #[.string s] w fun e w' => e = .returned (.tuple #[.int .i64 (parseN s.data.toList), .int .i64 (parseE s.data.toList)]) ∧ w' = w := by
  have hz : (0 : Int) < (s.size : Int) := by omega
  go_enter Tryz.func111, Tryz.ntmps111
  go_wp2
  go_loop [4, 6, 7] (fun at_ x wh => ∃ (i k : Nat) (n : Int) (ds t : List UInt8), at_ = .int .i64 i ∧ x = .int .i64 n ∧ wh = .int .i64 k ∧ 0 ≤ n ∧ n ≤ 4611686018427387903 ∧ i ≤ s.size ∧ k ≤ i ∧ Dig ds ∧ Hid (rest = ds ++ t ∧ i = ([] ++ ds).length ∧ k = ds.length ∧ n = satN (val 0 ds))) (fun i _ _ => s.size - (intOf i).toNat)
  case atStart => exact ⟨0, 0, 0, [], rest, rfl, rfl, rfl, by omega, by omega, by omega, by omega, Dig.nil, ⟨rfl, rfl, rfl, rfl⟩⟩
  case round =>
    obtain ⟨i, k, n, ds, t, rfl, rfl, rfl, n0, n1, hi, hki, hd, HR⟩ := hrel
    have HX := HR.out
    have hLL : s.data.toList = ([] ++ ds) ++ t := by rw [HS.out, HX.1, List.append_assoc]
    cases t with
    | nil =>
      have hiz : i = s.size := by rw [Lib.size_eq, hLL, HX.2.1, List.append_nil]
      have hni : ¬ (i : Int) < (s.size : Int) := by omega
      have kat : ((i : Int) != (s.size : Int)) = false := by rw [hiz]; simp
      by_cases hk : k = 0
      · have hds : ds = [] := List.length_eq_zero_iff.1 (by rw [← HX.2.2.1]; exact hk)
        have he := HERR.out (by rw [HX.1, hds]; exact wrong_whole NoDig.nil)
        have H1 : Hid (0 = parseN s.data.toList) := he.1.symm
        have H2 : Hid (10 = parseE s.data.toList) := he.2.symm
        clear he
        have kk : ((k : Int) == 0) = true := by rw [hk]; rfl
        clear HX hLL hiz hds hk
        go_wp2
        go_ret2
        exact ⟨ret_two H1.out H2.out, rfl⟩
      · have hne : ds ≠ [] := fun e => hk (by rw [HX.2.2.1, e]; rfl)
        have hok := HOK.out ds [] false (by rw [HX.1, List.append_nil]; exact right_none hd) hne (fun h => by cases h)
        obtain ⟨V, hV⟩ : ∃ V, padN (3 - 0) n = V := ⟨_, rfl⟩
        have HPAD : Hid (padN (3 - 0) n = V) := hV
        have HE0 : Hid (0 = parseE s.data.toList) := hok.2.symm
        have HVN : Hid (V = parseN s.data.toList) := by
          show _ = _
          rw [hok.1, ← hV, HX.2.2.2, padN_satN _ (val_nonneg ds (by omega) hd), List.append_nil]
          rfl
        have kk : ((k : Int) == 0) = false := by rw [beq_eq_false_iff_ne]; omega
        clear HX hLL hiz hk hok hV
        go_wp2_with fail
        go_loop [6, 8] (fun n d => ∃ (m : Int) (k : Nat), n = .int .i64 m ∧ d = .int .i64 k ∧ k ≤ 3 ∧ 0 ≤ m ∧ m ≤ 4611686018427387903 ∧ Hid (padN (3 - k) m = V)) (fun _ d => 3 - (intOf d).toNat)
        case atStart => exact ⟨_, 0, rfl, rfl, by omega, n0, n1, HPAD⟩
        case round =>
          obtain ⟨m, k2, rfl, rfl, hk2, m0, m1, HM⟩ := hrel
          by_cases hk3 : k2 < 3
          · have g1 := beh_lo (d := 0) m0 (by omega)
            have g2 := beh_hi m 0
            have HN : Hid (padN (3 - (k2 + 1)) (beh m 0) = V) := (padN_next k2 m hk3).symm.trans HM.out
            go_wp2_with (go_at_call 132; refine (more_any _ _ _ (by omega) (by omega) (by omega) (by omega)).mono ?_; rintro e w' ⟨rfl, rfl⟩)
            go_round
            case rel => exact ⟨_, k2 + 1, rfl, by go_num, by omega, g1, g2, HN⟩
            case measure => simp [intOf]; omega
          · have hmv : m = V := by
              have e1 := HM.out
              rw [show 3 - k2 = 0 by omega] at e1
              exact e1
            have HQ : Hid (m = parseN s.data.toList) := by
              show _ = _
              rw [hmv]
              exact HVN.out
            clear hmv
            have hk5 : ¬ (k2 : Int) < 3 := by omega
            go_wp2
            go_ret2
            exact ⟨ret_two HQ.out HE0.out, rfl⟩
    | cons c t =>
      obtain ⟨hi1, hget⟩ := byte_at s _ t c i hLL HX.2.1
      have hlt : (i : Int) < (s.size : Int) := by omega
      have hi2 : i < s.size := hi1
      by_cases hdig : 48 ≤ c.toNat ∧ c.toNat ≤ 57
      · obtain ⟨c1, c2⟩ := hdig
        have g1 := beh_lo (d := (c.toNat : Int) - 48) n0 (by omega)
        have g2 := beh_hi n ((c.toNat : Int) - 48)
        have HN : Hid (rest = (ds ++ [c]) ++ t ∧ i + 1 = ([] ++ (ds ++ [c])).length ∧ k + 1 = (ds ++ [c]).length ∧ beh n ((c.toNat : Int) - 48) = satN (val 0 (ds ++ [c]))) := by
          refine ⟨by rw [HX.1]; simp, by rw [HX.2.1]; simp, by rw [HX.2.2.1]; simp, ?_⟩
          rw [HX.2.2.2, beh_satN (val_nonneg ds (by omega) hd) (by omega) (by omega), val_append]
          rfl
        have hd2 : Dig (ds ++ [c]) := hd.append (Dig.cons ⟨c1, c2⟩ Dig.nil)
        clear HX hLL
        go_wp2_with (first | (go_at_call 131; refine (digit_yes _ _ (by omega) (by omega)).mono ?_; rintro e w' ⟨rfl, rfl⟩) | (go_at_call 132; refine (more_any _ _ _ (by omega) (by omega) (by omega) (by omega)).mono ?_; rintro e w' ⟨rfl, rfl⟩))
        go_round
        case rel => exact ⟨i + 1, k + 1, _, ds ++ [c], t, by go_num, rfl, by go_num, g1, g2, by omega, by omega, hd2, HN⟩
        case measure => simp [intOf]; omega
      · have hnd : c.toNat < 48 ∨ 57 < c.toNat := by omega
        have hnd' : (c.toNat : Int) < 48 ∨ 57 < (c.toNat : Int) := by omega
        have HD : Hid ((c.toNat : Int) < 48 ∨ 57 < (c.toNat : Int)) := hnd'
        clear hnd'
        by_cases h46 : c = 46
        · have k46 := c46 h46
          have HX1 := HX.1
          rw [h46] at HX1 hLL
          have HY : Hid (rest = ds ++ 46 :: t ∧ i = ([] ++ ds).length ∧ k = ds.length ∧ n = satN (val 0 ds) ∧ s.data.toList = [] ++ ds ++ 46 :: t) := ⟨HX1, HX.2.1, HX.2.2.1, HX.2.2.2, hLL⟩
          clear HX1 HX hLL h46 hdig hnd HR
          go_wp2_with (go_at_call 131; refine (digit_no _ _ HD.out).mono ?_; rintro e w' ⟨rfl, rfl⟩)
          clear hget k46
          go_loop [4, 6, 8] (fun at_ x pa => ∃ (i2 j : Nat) (n2 : Int) (ps t2 : List UInt8), at_ = .int .i64 i2 ∧ x = .int .i64 n2 ∧ pa = .int .i64 j ∧ 0 ≤ n2 ∧ n2 ≤ 4611686018427387903 ∧ i2 ≤ s.size ∧ j ≤ i2 ∧ Dig ps ∧ Hid (t = ps ++ t2 ∧ i2 = ([] ++ ds ++ 46 :: ps).length ∧ j = ps.length ∧ n2 = satN (val 0 (ds ++ ps)))) (fun i _ _ => s.size - (intOf i).toNat)
          case atStart => exact ⟨i + 1, 0, n, [], t, by go_num, rfl, rfl, n0, n1, by omega, by omega, Dig.nil, ⟨rfl, by rw [HY.out.2.1]; simp, rfl, by rw [List.append_nil]; exact HY.out.2.2.2.1⟩⟩
          case round =>
            obtain ⟨i2, j, n2, ps, t2, rfl, rfl, rfl, m0', m1', hi2', hj, hpd, HZ⟩ := hrel
            have HX := HZ.out
            have hLL : s.data.toList = ([] ++ ds ++ 46 :: ps) ++ t2 := by rw [HY.out.2.2.2.2, HX.1]; simp
            have n0 := m0'
            have n1 := m1'
            cases t2 with
            | nil =>
              have hiz : i2 = s.size := by rw [Lib.size_eq, hLL, HX.2.1, List.append_nil]
              have hni : ¬ (i2 : Int) < (s.size : Int) := by omega
              have kat : ((i2 : Int) != (s.size : Int)) = false := by rw [hiz]; simp
              by_cases hj0 : j = 0
              · have hps : ps = [] := List.length_eq_zero_iff.1 (by rw [← HX.2.2.1]; exact hj0)
                have he := HERR.out (by rw [HY.out.1, HX.1]; exact wrong_part hd NoDig.nil (.inl hps))
                have H1 : Hid (0 = parseN s.data.toList) := he.1.symm
                have H2 : Hid (10 = parseE s.data.toList) := he.2.symm
                clear he
                have kj : ((j : Int) == 0) = true := by rw [hj0]; rfl
                clear HX hLL hiz hps hj0
                go_wp2
                go_ret2
                exact ⟨ret_two H1.out H2.out, rfl⟩
              · have kj : ((j : Int) == 0) = false := by rw [beq_eq_false_iff_ne]; omega
                by_cases hk : k = 0
                · have hds : ds = [] := List.length_eq_zero_iff.1 (by rw [← HY.out.2.2.1]; exact hk)
                  have he := HERR.out (by rw [HY.out.1, hds]; exact wrong_whole (NoDig.cons (by decide)))
                  have H1 : Hid (0 = parseN s.data.toList) := he.1.symm
                  have H2 : Hid (10 = parseE s.data.toList) := he.2.symm
                  clear he
                  have kk : ((k : Int) == 0) = true := by rw [hk]; rfl
                  clear HX hLL hiz hds hk hj0
                  go_wp2
                  go_ret2
                  exact ⟨ret_two H1.out H2.out, rfl⟩
                · have kk : ((k : Int) == 0) = false := by rw [beq_eq_false_iff_ne]; omega
                  by_cases hj3 : 3 < j
                  · have hj3' : (3 : Int) < (j : Int) := by omega
                    have he := HERR.out (by rw [HY.out.1, HX.1]; exact wrong_part hd NoDig.nil (.inr (.inl (by omega))))
                    have H1 : Hid (0 = parseN s.data.toList) := he.1.symm
                    have H2 : Hid (10 = parseE s.data.toList) := he.2.symm
                    clear he
                    clear HX hLL hiz hk hj0
                    go_wp2
                    go_ret2
                    exact ⟨ret_two H1.out H2.out, rfl⟩
                  · have hj3' : ¬ (3 : Int) < (j : Int) := by omega
                    have hne : ds ≠ [] := fun e => hk (by rw [HY.out.2.2.1, e]; rfl)
                    have hok := HOK.out ds ps true (by rw [HY.out.1, HX.1, List.append_nil]; exact right_point hd hpd (by omega)) hne (fun _ e => hj0 (by rw [HX.2.2.1, e]; rfl))
                    obtain ⟨V, hV⟩ : ∃ V, padN (3 - j) n2 = V := ⟨_, rfl⟩
                    have HPAD : Hid (padN (3 - j) n2 = V) := hV
                    have HE0 : Hid (0 = parseE s.data.toList) := hok.2.symm
                    have HVN : Hid (V = parseN s.data.toList) := by
                      show _ = _
                      rw [hok.1, ← hV, HX.2.2.2, HX.2.2.1, padN_satN _ (val_nonneg _ (by omega) (hd.append hpd))]
                    clear HX hLL hiz hk hok hV hj0
                    go_wp2_with fail
                    go_loop [6, 8] (fun n d => ∃ (m : Int) (k : Nat), n = .int .i64 m ∧ d = .int .i64 k ∧ k ≤ 3 ∧ 0 ≤ m ∧ m ≤ 4611686018427387903 ∧ Hid (padN (3 - k) m = V)) (fun _ d => 3 - (intOf d).toNat)
                    case atStart => exact ⟨_, j, rfl, rfl, by omega, n0, n1, HPAD⟩
                    case round =>
                      obtain ⟨m, k2, rfl, rfl, hk2, m0, m1, HM⟩ := hrel
                      by_cases hk3 : k2 < 3
                      · have g1 := beh_lo (d := 0) m0 (by omega)
                        have g2 := beh_hi m 0
                        have HN : Hid (padN (3 - (k2 + 1)) (beh m 0) = V) := (padN_next k2 m hk3).symm.trans HM.out
                        go_wp2_with (go_at_call 132; refine (more_any _ _ _ (by omega) (by omega) (by omega) (by omega)).mono ?_; rintro e w' ⟨rfl, rfl⟩)
                        go_round
                        case rel => exact ⟨_, k2 + 1, rfl, by go_num, by omega, g1, g2, HN⟩
                        case measure => simp [intOf]; omega
                      · have hmv : m = V := by
                          have e1 := HM.out
                          rw [show 3 - k2 = 0 by omega] at e1
                          exact e1
                        have HQ : Hid (m = parseN s.data.toList) := by
                          show _ = _
                          rw [hmv]
                          exact HVN.out
                        clear hmv
                        have hk5 : ¬ (k2 : Int) < 3 := by omega
                        go_wp2
                        go_ret2
                        exact ⟨ret_two HQ.out HE0.out, rfl⟩
            | cons c2 t2 =>
              obtain ⟨hi3, hget⟩ := byte_at s _ t2 c2 i2 hLL HX.2.1
              have hlt2 : (i2 : Int) < (s.size : Int) := by omega
              have hi4 : i2 < s.size := hi3
              by_cases hdig : 48 ≤ c2.toNat ∧ c2.toNat ≤ 57
              · obtain ⟨c1, c2'⟩ := hdig
                have g1 := beh_lo (d := (c2.toNat : Int) - 48) n0 (by omega)
                have g2 := beh_hi n2 ((c2.toNat : Int) - 48)
                have HN : Hid (t = (ps ++ [c2]) ++ t2 ∧ i2 + 1 = ([] ++ ds ++ 46 :: (ps ++ [c2])).length ∧ j + 1 = (ps ++ [c2]).length ∧ beh n2 ((c2.toNat : Int) - 48) = satN (val 0 (ds ++ (ps ++ [c2])))) := by
                  refine ⟨by rw [HX.1]; simp, by rw [HX.2.1]; simp; omega, by rw [HX.2.2.1]; simp, ?_⟩
                  rw [HX.2.2.2, beh_satN (val_nonneg _ (by omega) (hd.append hpd)) (by omega) (by omega), ← List.append_assoc, val_append 0 (ds ++ ps)]
                  rfl
                have hd2 : Dig (ps ++ [c2]) := hpd.append (Dig.cons ⟨c1, c2'⟩ Dig.nil)
                clear HX hLL
                go_wp2_with (first | (go_at_call 131; refine (digit_yes _ _ (by omega) (by omega)).mono ?_; rintro e w' ⟨rfl, rfl⟩) | (go_at_call 132; refine (more_any _ _ _ (by omega) (by omega) (by omega) (by omega)).mono ?_; rintro e w' ⟨rfl, rfl⟩))
                go_round
                case rel => exact ⟨i2 + 1, j + 1, _, ps ++ [c2], t2, by go_num, rfl, by go_num, g1, g2, by omega, by omega, hd2, HN⟩
                case measure => simp [intOf]; omega
              · have hnd2 : c2.toNat < 48 ∨ 57 < c2.toNat := by omega
                have HD2 : Hid ((c2.toNat : Int) < 48 ∨ 57 < (c2.toNat : Int)) := by show _ ∨ _; omega
                have he := HERR.out (by rw [HY.out.1, HX.1]; exact wrong_part hd (NoDig.cons hnd2) (.inr (.inr (by simp))))
                have H1 : Hid (0 = parseN s.data.toList) := he.1.symm
                have H2 : Hid (10 = parseE s.data.toList) := he.2.symm
                clear he
                have kat : ((i2 : Int) != (s.size : Int)) = true := by rw [bne_iff_ne]; omega
                clear HX hLL hdig hnd2
                go_wp2_with (go_at_call 131; refine (digit_no _ _ HD2.out).mono ?_; rintro e w' ⟨rfl, rfl⟩)
                all_goals go_ret2
                all_goals exact ⟨ret_two H1.out H2.out, rfl⟩
        · have k46 := c46' h46
          have he := HERR.out (by rw [HX.1]; exact wrong_end hd hnd h46)
          have H1 : Hid (0 = parseN s.data.toList) := he.1.symm
          have H2 : Hid (10 = parseE s.data.toList) := he.2.symm
          clear he
          have kat : ((i : Int) != (s.size : Int)) = true := by rw [bne_iff_ne]; omega
          clear HX hLL hdig hnd h46
          go_wp2_with (go_at_call 131; refine (digit_no _ _ HD.out).mono ?_; rintro e w' ⟨rfl, rfl⟩)
          all_goals go_ret2
          all_goals exact ⟨ret_two H1.out H2.out, rfl⟩

set_option maxHeartbeats 2000000 in
theorem rparse_minus (s : ByteArray) (w : World) (hs : s.size ≤ 20000) (hsz : 0 < s.size) (h45 : (((s[0]'hsz).toNat : Int) == 45) = true) (rest : List UInt8) (HS : Hid (s.data.toList = [45] ++ rest))
    (HOK : Hid (∀ ds ps p, Shape rest ds ps p → ds ≠ [] → (p = true → ps ≠ []) → parseN s.data.toList = -satN (val 0 (ds ++ ps) * 10 ^ (3 - ps.length)) ∧ parseE s.data.toList = 0))
    (HERR : Hid (¬ Right rest → parseN s.data.toList = 0 ∧ parseE s.data.toList = 10)) :
    Calls Tryz.prog 111 #[.string s] w fun e w' => e = .returned (.tuple #[.int .i64 (parseN s.data.toList), .int .i64 (parseE s.data.toList)]) ∧ w' = w := by
  have hz : (0 : Int) < (s.size : Int) := by omega
  go_enter Tryz.func111, Tryz.ntmps111
  go_wp2
  go_loop [4, 6, 7] (fun at_ x wh => ∃ (i k : Nat) (n : Int) (ds t : List UInt8), at_ = .int .i64 i ∧ x = .int .i64 n ∧ wh = .int .i64 k ∧ 0 ≤ n ∧ n ≤ 4611686018427387903 ∧ i ≤ s.size ∧ k ≤ i ∧ Dig ds ∧ Hid (rest = ds ++ t ∧ i = ([45] ++ ds).length ∧ k = ds.length ∧ n = satN (val 0 ds))) (fun i _ _ => s.size - (intOf i).toNat)
  case atStart => exact ⟨1, 0, 0, [], rest, rfl, rfl, rfl, by omega, by omega, by omega, by omega, Dig.nil, ⟨rfl, rfl, rfl, rfl⟩⟩
  case round =>
    obtain ⟨i, k, n, ds, t, rfl, rfl, rfl, n0, n1, hi, hki, hd, HR⟩ := hrel
    have HX := HR.out
    have hLL : s.data.toList = ([45] ++ ds) ++ t := by rw [HS.out, HX.1, List.append_assoc]
    cases t with
    | nil =>
      have hiz : i = s.size := by rw [Lib.size_eq, hLL, HX.2.1, List.append_nil]
      have hni : ¬ (i : Int) < (s.size : Int) := by omega
      have kat : ((i : Int) != (s.size : Int)) = false := by rw [hiz]; simp
      by_cases hk : k = 0
      · have hds : ds = [] := List.length_eq_zero_iff.1 (by rw [← HX.2.2.1]; exact hk)
        have he := HERR.out (by rw [HX.1, hds]; exact wrong_whole NoDig.nil)
        have H1 : Hid (0 = parseN s.data.toList) := he.1.symm
        have H2 : Hid (10 = parseE s.data.toList) := he.2.symm
        clear he
        have kk : ((k : Int) == 0) = true := by rw [hk]; rfl
        clear HX hLL hiz hds hk
        go_wp2
        go_ret2
        exact ⟨ret_two H1.out H2.out, rfl⟩
      · have hne : ds ≠ [] := fun e => hk (by rw [HX.2.2.1, e]; rfl)
        have hok := HOK.out ds [] false (by rw [HX.1, List.append_nil]; exact right_none hd) hne (fun h => by cases h)
        obtain ⟨V, hV⟩ : ∃ V, padN (3 - 0) n = V := ⟨_, rfl⟩
        have HPAD : Hid (padN (3 - 0) n = V) := hV
        have HE0 : Hid (0 = parseE s.data.toList) := hok.2.symm
        have HVN : Hid (-V = parseN s.data.toList) := by
          show _ = _
          rw [hok.1, ← hV, HX.2.2.2, padN_satN _ (val_nonneg ds (by omega) hd), List.append_nil]
          rfl
        have kk : ((k : Int) == 0) = false := by rw [beq_eq_false_iff_ne]; omega
        clear HX hLL hiz hk hok hV
        go_wp2_with fail
        go_loop [6, 8] (fun n d => ∃ (m : Int) (k : Nat), n = .int .i64 m ∧ d = .int .i64 k ∧ k ≤ 3 ∧ 0 ≤ m ∧ m ≤ 4611686018427387903 ∧ Hid (padN (3 - k) m = V)) (fun _ d => 3 - (intOf d).toNat)
        case atStart => exact ⟨_, 0, rfl, rfl, by omega, n0, n1, HPAD⟩
        case round =>
          obtain ⟨m, k2, rfl, rfl, hk2, m0, m1, HM⟩ := hrel
          by_cases hk3 : k2 < 3
          · have g1 := beh_lo (d := 0) m0 (by omega)
            have g2 := beh_hi m 0
            have HN : Hid (padN (3 - (k2 + 1)) (beh m 0) = V) := (padN_next k2 m hk3).symm.trans HM.out
            go_wp2_with (go_at_call 132; refine (more_any _ _ _ (by omega) (by omega) (by omega) (by omega)).mono ?_; rintro e w' ⟨rfl, rfl⟩)
            go_round
            case rel => exact ⟨_, k2 + 1, rfl, by go_num, by omega, g1, g2, HN⟩
            case measure => simp [intOf]; omega
          · have hmv : m = V := by
              have e1 := HM.out
              rw [show 3 - k2 = 0 by omega] at e1
              exact e1
            have HQ : Hid (-m = parseN s.data.toList) := by
              show _ = _
              rw [hmv]
              exact HVN.out
            clear hmv
            have hk5 : ¬ (k2 : Int) < 3 := by omega
            go_wp2
            go_ret2
            exact ⟨ret_two HQ.out HE0.out, rfl⟩
    | cons c t =>
      obtain ⟨hi1, hget⟩ := byte_at s _ t c i hLL HX.2.1
      have hlt : (i : Int) < (s.size : Int) := by omega
      have hi2 : i < s.size := hi1
      by_cases hdig : 48 ≤ c.toNat ∧ c.toNat ≤ 57
      · obtain ⟨c1, c2⟩ := hdig
        have g1 := beh_lo (d := (c.toNat : Int) - 48) n0 (by omega)
        have g2 := beh_hi n ((c.toNat : Int) - 48)
        have HN : Hid (rest = (ds ++ [c]) ++ t ∧ i + 1 = ([45] ++ (ds ++ [c])).length ∧ k + 1 = (ds ++ [c]).length ∧ beh n ((c.toNat : Int) - 48) = satN (val 0 (ds ++ [c]))) := by
          refine ⟨by rw [HX.1]; simp, by rw [HX.2.1]; simp, by rw [HX.2.2.1]; simp, ?_⟩
          rw [HX.2.2.2, beh_satN (val_nonneg ds (by omega) hd) (by omega) (by omega), val_append]
          rfl
        have hd2 : Dig (ds ++ [c]) := hd.append (Dig.cons ⟨c1, c2⟩ Dig.nil)
        clear HX hLL
        go_wp2_with (first | (go_at_call 131; refine (digit_yes _ _ (by omega) (by omega)).mono ?_; rintro e w' ⟨rfl, rfl⟩) | (go_at_call 132; refine (more_any _ _ _ (by omega) (by omega) (by omega) (by omega)).mono ?_; rintro e w' ⟨rfl, rfl⟩))
        go_round
        case rel => exact ⟨i + 1, k + 1, _, ds ++ [c], t, by go_num, rfl, by go_num, g1, g2, by omega, by omega, hd2, HN⟩
        case measure => simp [intOf]; omega
      · have hnd : c.toNat < 48 ∨ 57 < c.toNat := by omega
        have hnd' : (c.toNat : Int) < 48 ∨ 57 < (c.toNat : Int) := by omega
        have HD : Hid ((c.toNat : Int) < 48 ∨ 57 < (c.toNat : Int)) := hnd'
        clear hnd'
        by_cases h46 : c = 46
        · have k46 := c46 h46
          have HX1 := HX.1
          rw [h46] at HX1 hLL
          have HY : Hid (rest = ds ++ 46 :: t ∧ i = ([45] ++ ds).length ∧ k = ds.length ∧ n = satN (val 0 ds) ∧ s.data.toList = [45] ++ ds ++ 46 :: t) := ⟨HX1, HX.2.1, HX.2.2.1, HX.2.2.2, hLL⟩
          clear HX1 HX hLL h46 hdig hnd HR
          go_wp2_with (go_at_call 131; refine (digit_no _ _ HD.out).mono ?_; rintro e w' ⟨rfl, rfl⟩)
          clear hget k46
          go_loop [4, 6, 8] (fun at_ x pa => ∃ (i2 j : Nat) (n2 : Int) (ps t2 : List UInt8), at_ = .int .i64 i2 ∧ x = .int .i64 n2 ∧ pa = .int .i64 j ∧ 0 ≤ n2 ∧ n2 ≤ 4611686018427387903 ∧ i2 ≤ s.size ∧ j ≤ i2 ∧ Dig ps ∧ Hid (t = ps ++ t2 ∧ i2 = ([45] ++ ds ++ 46 :: ps).length ∧ j = ps.length ∧ n2 = satN (val 0 (ds ++ ps)))) (fun i _ _ => s.size - (intOf i).toNat)
          case atStart => exact ⟨i + 1, 0, n, [], t, by go_num, rfl, rfl, n0, n1, by omega, by omega, Dig.nil, ⟨rfl, by rw [HY.out.2.1]; simp, rfl, by rw [List.append_nil]; exact HY.out.2.2.2.1⟩⟩
          case round =>
            obtain ⟨i2, j, n2, ps, t2, rfl, rfl, rfl, m0', m1', hi2', hj, hpd, HZ⟩ := hrel
            have HX := HZ.out
            have hLL : s.data.toList = ([45] ++ ds ++ 46 :: ps) ++ t2 := by rw [HY.out.2.2.2.2, HX.1]; simp
            have n0 := m0'
            have n1 := m1'
            cases t2 with
            | nil =>
              have hiz : i2 = s.size := by rw [Lib.size_eq, hLL, HX.2.1, List.append_nil]
              have hni : ¬ (i2 : Int) < (s.size : Int) := by omega
              have kat : ((i2 : Int) != (s.size : Int)) = false := by rw [hiz]; simp
              by_cases hj0 : j = 0
              · have hps : ps = [] := List.length_eq_zero_iff.1 (by rw [← HX.2.2.1]; exact hj0)
                have he := HERR.out (by rw [HY.out.1, HX.1]; exact wrong_part hd NoDig.nil (.inl hps))
                have H1 : Hid (0 = parseN s.data.toList) := he.1.symm
                have H2 : Hid (10 = parseE s.data.toList) := he.2.symm
                clear he
                have kj : ((j : Int) == 0) = true := by rw [hj0]; rfl
                clear HX hLL hiz hps hj0
                go_wp2
                go_ret2
                exact ⟨ret_two H1.out H2.out, rfl⟩
              · have kj : ((j : Int) == 0) = false := by rw [beq_eq_false_iff_ne]; omega
                by_cases hk : k = 0
                · have hds : ds = [] := List.length_eq_zero_iff.1 (by rw [← HY.out.2.2.1]; exact hk)
                  have he := HERR.out (by rw [HY.out.1, hds]; exact wrong_whole (NoDig.cons (by decide)))
                  have H1 : Hid (0 = parseN s.data.toList) := he.1.symm
                  have H2 : Hid (10 = parseE s.data.toList) := he.2.symm
                  clear he
                  have kk : ((k : Int) == 0) = true := by rw [hk]; rfl
                  clear HX hLL hiz hds hk hj0
                  go_wp2
                  go_ret2
                  exact ⟨ret_two H1.out H2.out, rfl⟩
                · have kk : ((k : Int) == 0) = false := by rw [beq_eq_false_iff_ne]; omega
                  by_cases hj3 : 3 < j
                  · have hj3' : (3 : Int) < (j : Int) := by omega
                    have he := HERR.out (by rw [HY.out.1, HX.1]; exact wrong_part hd NoDig.nil (.inr (.inl (by omega))))
                    have H1 : Hid (0 = parseN s.data.toList) := he.1.symm
                    have H2 : Hid (10 = parseE s.data.toList) := he.2.symm
                    clear he
                    clear HX hLL hiz hk hj0
                    go_wp2
                    go_ret2
                    exact ⟨ret_two H1.out H2.out, rfl⟩
                  · have hj3' : ¬ (3 : Int) < (j : Int) := by omega
                    have hne : ds ≠ [] := fun e => hk (by rw [HY.out.2.2.1, e]; rfl)
                    have hok := HOK.out ds ps true (by rw [HY.out.1, HX.1, List.append_nil]; exact right_point hd hpd (by omega)) hne (fun _ e => hj0 (by rw [HX.2.2.1, e]; rfl))
                    obtain ⟨V, hV⟩ : ∃ V, padN (3 - j) n2 = V := ⟨_, rfl⟩
                    have HPAD : Hid (padN (3 - j) n2 = V) := hV
                    have HE0 : Hid (0 = parseE s.data.toList) := hok.2.symm
                    have HVN : Hid (-V = parseN s.data.toList) := by
                      show _ = _
                      rw [hok.1, ← hV, HX.2.2.2, HX.2.2.1, padN_satN _ (val_nonneg _ (by omega) (hd.append hpd))]
                    clear HX hLL hiz hk hok hV hj0
                    go_wp2_with fail
                    go_loop [6, 8] (fun n d => ∃ (m : Int) (k : Nat), n = .int .i64 m ∧ d = .int .i64 k ∧ k ≤ 3 ∧ 0 ≤ m ∧ m ≤ 4611686018427387903 ∧ Hid (padN (3 - k) m = V)) (fun _ d => 3 - (intOf d).toNat)
                    case atStart => exact ⟨_, j, rfl, rfl, by omega, n0, n1, HPAD⟩
                    case round =>
                      obtain ⟨m, k2, rfl, rfl, hk2, m0, m1, HM⟩ := hrel
                      by_cases hk3 : k2 < 3
                      · have g1 := beh_lo (d := 0) m0 (by omega)
                        have g2 := beh_hi m 0
                        have HN : Hid (padN (3 - (k2 + 1)) (beh m 0) = V) := (padN_next k2 m hk3).symm.trans HM.out
                        go_wp2_with (go_at_call 132; refine (more_any _ _ _ (by omega) (by omega) (by omega) (by omega)).mono ?_; rintro e w' ⟨rfl, rfl⟩)
                        go_round
                        case rel => exact ⟨_, k2 + 1, rfl, by go_num, by omega, g1, g2, HN⟩
                        case measure => simp [intOf]; omega
                      · have hmv : m = V := by
                          have e1 := HM.out
                          rw [show 3 - k2 = 0 by omega] at e1
                          exact e1
                        have HQ : Hid (-m = parseN s.data.toList) := by
                          show _ = _
                          rw [hmv]
                          exact HVN.out
                        clear hmv
                        have hk5 : ¬ (k2 : Int) < 3 := by omega
                        go_wp2
                        go_ret2
                        exact ⟨ret_two HQ.out HE0.out, rfl⟩
            | cons c2 t2 =>
              obtain ⟨hi3, hget⟩ := byte_at s _ t2 c2 i2 hLL HX.2.1
              have hlt2 : (i2 : Int) < (s.size : Int) := by omega
              have hi4 : i2 < s.size := hi3
              by_cases hdig : 48 ≤ c2.toNat ∧ c2.toNat ≤ 57
              · obtain ⟨c1, c2'⟩ := hdig
                have g1 := beh_lo (d := (c2.toNat : Int) - 48) n0 (by omega)
                have g2 := beh_hi n2 ((c2.toNat : Int) - 48)
                have HN : Hid (t = (ps ++ [c2]) ++ t2 ∧ i2 + 1 = ([45] ++ ds ++ 46 :: (ps ++ [c2])).length ∧ j + 1 = (ps ++ [c2]).length ∧ beh n2 ((c2.toNat : Int) - 48) = satN (val 0 (ds ++ (ps ++ [c2])))) := by
                  refine ⟨by rw [HX.1]; simp, by rw [HX.2.1]; simp; omega, by rw [HX.2.2.1]; simp, ?_⟩
                  rw [HX.2.2.2, beh_satN (val_nonneg _ (by omega) (hd.append hpd)) (by omega) (by omega), ← List.append_assoc, val_append 0 (ds ++ ps)]
                  rfl
                have hd2 : Dig (ps ++ [c2]) := hpd.append (Dig.cons ⟨c1, c2'⟩ Dig.nil)
                clear HX hLL
                go_wp2_with (first | (go_at_call 131; refine (digit_yes _ _ (by omega) (by omega)).mono ?_; rintro e w' ⟨rfl, rfl⟩) | (go_at_call 132; refine (more_any _ _ _ (by omega) (by omega) (by omega) (by omega)).mono ?_; rintro e w' ⟨rfl, rfl⟩))
                go_round
                case rel => exact ⟨i2 + 1, j + 1, _, ps ++ [c2], t2, by go_num, rfl, by go_num, g1, g2, by omega, by omega, hd2, HN⟩
                case measure => simp [intOf]; omega
              · have hnd2 : c2.toNat < 48 ∨ 57 < c2.toNat := by omega
                have HD2 : Hid ((c2.toNat : Int) < 48 ∨ 57 < (c2.toNat : Int)) := by show _ ∨ _; omega
                have he := HERR.out (by rw [HY.out.1, HX.1]; exact wrong_part hd (NoDig.cons hnd2) (.inr (.inr (by simp))))
                have H1 : Hid (0 = parseN s.data.toList) := he.1.symm
                have H2 : Hid (10 = parseE s.data.toList) := he.2.symm
                clear he
                have kat : ((i2 : Int) != (s.size : Int)) = true := by rw [bne_iff_ne]; omega
                clear HX hLL hdig hnd2
                go_wp2_with (go_at_call 131; refine (digit_no _ _ HD2.out).mono ?_; rintro e w' ⟨rfl, rfl⟩)
                all_goals go_ret2
                all_goals exact ⟨ret_two H1.out H2.out, rfl⟩
        · have k46 := c46' h46
          have he := HERR.out (by rw [HX.1]; exact wrong_end hd hnd h46)
          have H1 : Hid (0 = parseN s.data.toList) := he.1.symm
          have H2 : Hid (10 = parseE s.data.toList) := he.2.symm
          clear he
          have kat : ((i : Int) != (s.size : Int)) = true := by rw [bne_iff_ne]; omega
          clear HX hLL hdig hnd h46
          go_wp2_with (go_at_call 131; refine (digit_no _ _ HD.out).mono ?_; rintro e w' ⟨rfl, rfl⟩)
          all_goals go_ret2
          all_goals exact ⟨ret_two H1.out H2.out, rfl⟩

theorem rparse_any (s : ByteArray) (w : World) (hs : s.size ≤ 20000) :
    Calls Tryz.prog 111 #[.string s] w fun e w' => e = .returned (.tuple #[.int .i64 (parseN s.data.toList), .int .i64 (parseE s.data.toList)]) ∧ w' = w := by
  cases hL : s.data.toList with
  | nil =>
    have hz : s.size = 0 := by rw [Lib.size_eq, hL]; rfl
    rw [← hL]
    exact rparse_empty s w hs hz s.data.toList rfl (fun ds ps p h h1 h2 => parse_shape h h1 h2) (fun h => not_right (by rw [hL]; rfl) h)
  | cons c t =>
    have hz : 0 < s.size := by rw [Lib.size_eq, hL]; simp
    obtain ⟨h0, hget⟩ := byte_at s [] t c 0 hL rfl
    by_cases hc : c = 45
    · have k45 : (((s[0]'hz).toNat : Int) == 45) = true := by rw [hget, hc]; rfl
      rw [← hL]
      exact rparse_minus s w hs hz k45 t (by show s.data.toList = _; rw [hL, hc]; rfl) (fun ds ps p h h1 h2 => by rw [hL, hc]; exact parse_minus h h1 h2) (fun h => by rw [hL, hc]; exact not_right_minus h)
    · have k45 : (((s[0]'hz).toNat : Int) == 45) = false := by
        rw [hget, beq_eq_false_iff_ne]
        intro e
        exact hc (UInt8.toNat_inj.1 (by have : c.toNat = 45 := by omega
                                        rw [this]; rfl))
      rw [← hL]
      have hp : Lib.hasPrefix s.data.toList [45] = false := by
        rw [hL, has_cons, beq_eq_false_iff_ne]; exact fun e => hc e.symm
      exact rparse_plain s w hs hz k45 s.data.toList rfl (fun ds ps p h h1 h2 => parse_shape h h1 h2) (fun h => not_right hp h)
end Go.Proofs.YtjhodmpgggaknaaGreatDoor.Num
