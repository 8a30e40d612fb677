/- Contracts of the document's own answer: Sat, a digit's test, a number with one digit more; and plain mathematics of how a text parts into digits, a point and digits. -/
import Derived.Test.YtjhodmpgggaknaaGreatDoorZNArith
import Derived.Test.YtjhodmpgggaknaaGreatDoorZGD
namespace Go.Proofs.YtjhodmpgggaknaaGreatDoor.Num
open Go.RowKit

set_option maxHeartbeats 400000 in
theorem rsat_any (x : Int) (w : World) :
    Calls Tryz.prog 49 #[.int .i64 x] w fun e w' => e = .returned (.int .i64 (sat x)) ∧ w' = w := by
  by_cases h1 : 4611686018427387903 < x
  · have H2 : Hid (4611686018427387903 = sat x) := sat_gt h1
    go_enter Tryz.func49, Tryz.ntmps49
    go_wp2
    go_ret
    exact ⟨ret_int H2.out, rfl⟩
  · by_cases h3 : x < -4611686018427387903
    · have H2 : Hid (-4611686018427387903 = sat x) := sat_lt h3
      go_enter Tryz.func49, Tryz.ntmps49
      go_wp2
      go_ret
      exact ⟨ret_int H2.out, rfl⟩
    · have H2 : Hid (x = sat x) := sat_in (by omega) (by omega)
      go_enter Tryz.func49, Tryz.ntmps49
      go_wp2
      go_ret
      exact ⟨ret_int H2.out, rfl⟩

set_option maxHeartbeats 400000 in
theorem digit_yes (c : Int) (w : World) (h1 : 48 ≤ c) (h2 : c ≤ 57) :
    Calls Tryz.prog 131 #[.int .u8 c] w fun e w' => e = .returned (.bool true) ∧ w' = w := by
  go_enter Tryz.func131, Tryz.ntmps131
  go_wp2
  go_ret
  exact ⟨rfl, rfl⟩
set_option maxHeartbeats 400000 in
theorem digit_no (c : Int) (w : World) (h : c < 48 ∨ 57 < c) :
    Calls Tryz.prog 131 #[.int .u8 c] w fun e w' => e = .returned (.bool false) ∧ w' = w := by
  rcases h with h | h
  · have h' : ¬ 48 ≤ c := by omega
    go_enter Tryz.func131, Tryz.ntmps131
    go_wp2
    go_ret
    exact ⟨rfl, rfl⟩
  · have h' : 48 ≤ c := by omega
    have h'' : ¬ c ≤ 57 := by omega
    go_enter Tryz.func131, Tryz.ntmps131
    go_wp2
    go_ret
    exact ⟨rfl, rfl⟩

theorem more_is {x d : Int} (h0 : 0 ≤ x) (hx : ¬ 461168601842738790 < x) (h1 : 0 ≤ d) (h2 : d ≤ 9) : sat (10 * x + d) = beh x d := by
  by_cases h : (4611686018427387903 - d) / 10 < x
  · rw [← beh_gt h, ← sat_gt (by omega)]
  · rw [← beh_le h, ← sat_in (by omega) (by omega)]; omega
set_option maxHeartbeats 400000 in
theorem more_any (n c : Int) (w : World) (hn : 0 ≤ n) (hn' : n ≤ 4611686018427387903) (hc : 48 ≤ c) (hc' : c ≤ 57) :
    Calls Tryz.prog 132 #[.int .i64 n, .int .u8 c] w fun e w' => e = .returned (.int .i64 (beh n (c - 48))) ∧ w' = w := by
  by_cases h : 461168601842738790 < n
  · have H : Hid (4611686018427387903 = beh n (c - 48)) := beh_gt (by omega)
    go_enter Tryz.func132, Tryz.ntmps132
    go_wp2
    go_ret
    exact ⟨ret_int H.out, rfl⟩
  · have H : Hid (sat (10 * n + (c - 48)) = beh n (c - 48)) := more_is hn h (by omega) (by omega)
    go_enter Tryz.func132, Tryz.ntmps132
    go_wp2_with (go_at_call 49; refine (rsat_any _ _).mono ?_; rintro e w' ⟨rfl, rfl⟩)
    go_ret
    exact ⟨ret_int H.out, rfl⟩

def NoDig (t : List UInt8) : Prop := ∀ c t', t = c :: t' → ¬ (48 ≤ c.toNat ∧ c.toNat ≤ 57)
theorem NoDig.nil : NoDig [] := fun _ _ h => by cases h
theorem NoDig.cons {c : UInt8} {t : List UInt8} (h : c.toNat < 48 ∨ 57 < c.toNat) : NoDig (c :: t) := fun d t' e => by
  cases e; omega
theorem split_unique : ∀ (a b t u : List UInt8), Dig a → Dig b → NoDig t → NoDig u → a ++ t = b ++ u → a = b ∧ t = u
  | [], [], t, u, _, _, _, _, h => ⟨rfl, h⟩
  | [], c :: b, t, u, _, hb, ht, _, h => absurd hb.head (ht c (b ++ u) (by simpa using h))
  | c :: a, [], t, u, ha, _, _, hu, h => absurd ha.head (hu c (a ++ t) (by simpa using h.symm))
  | c :: a, d :: b, t, u, ha, hb, ht, hu, h => by
    rw [List.cons_append, List.cons_append, List.cons.injEq] at h
    obtain ⟨rfl, h2⟩ := h
    obtain ⟨rfl, rfl⟩ := split_unique a b t u ha.tail hb.tail ht hu h2
    exact ⟨rfl, rfl⟩
def Right (l : List UInt8) : Prop := ∃ ds ps p, Shape l ds ps p ∧ ds ≠ [] ∧ (p = true → ps ≠ [])
theorem right_split {ds t : List UInt8} (hd : Dig ds) (ht : NoDig t) (h : Right (ds ++ t)) : ds ≠ [] ∧ (t = [] ∨ ∃ ps, t = 46 :: ps ∧ Dig ps ∧ ps ≠ [] ∧ ps.length ≤ 3) := by
  obtain ⟨ds', ps, p, ⟨hd', hp, h3, he, h0⟩, hne, hpe⟩ := h
  cases p
  · have := split_unique ds ds' t [] hd hd' ht NoDig.nil (by rw [List.append_nil]; exact he)
    rw [this.1]
    exact ⟨hne, .inl this.2⟩
  · have := split_unique ds ds' t (46 :: ps) hd hd' ht (NoDig.cons (by decide)) he
    rw [this.1]
    exact ⟨hne, .inr ⟨ps, this.2, hp, hpe rfl, h3⟩⟩
theorem tail_dig {a t : List UInt8} (ht : NoDig t) (h : Dig (a ++ t)) : t = [] := by
  cases t with
  | nil => rfl
  | cons c t' => exact absurd (h.right.head) (ht c t' rfl)
/-- Where no digit leads, no text is right; nor where digits end in what is no point. -/
theorem wrong_whole {t : List UInt8} (ht : NoDig t) : ¬ Right t := fun h => (right_split Dig.nil ht (by simpa using h)).1 rfl
theorem wrong_end {ds t : List UInt8} {c : UInt8} (hd : Dig ds) (hc : c.toNat < 48 ∨ 57 < c.toNat) (h46 : c ≠ 46) : ¬ Right (ds ++ c :: t) := fun h => by
  rcases (right_split hd (NoDig.cons hc) h).2 with e | ⟨ps, e, _⟩
  · cases e
  · cases e; exact h46 rfl
theorem wrong_part {ds ps t : List UInt8} (hd : Dig ds) (ht : NoDig t) (h : ps = [] ∨ 3 < ps.length ∨ t ≠ []) : ¬ Right (ds ++ 46 :: (ps ++ t)) := fun hr => by
  rcases (right_split hd (NoDig.cons (by decide)) hr).2 with e | ⟨qs, e, hq, hne, h3⟩
  · cases e
  · simp only [List.cons.injEq, true_and] at e
    rw [← e] at hq hne h3
    have e2 := tail_dig ht hq
    subst e2
    rw [List.append_nil] at hne h3
    rcases h with h | h | h
    · exact hne h
    · omega
    · exact h rfl
theorem right_none {ds : List UInt8} (hd : Dig ds) : Shape ds ds [] false := ⟨hd, Dig.nil, by simp, rfl, fun _ => rfl⟩
theorem right_point {ds ps : List UInt8} (hd : Dig ds) (hp : Dig ps) (h : ps.length ≤ 3) : Shape (ds ++ 46 :: ps) ds ps true := ⟨hd, hp, h, rfl, fun h => by cases h⟩
theorem not_right {l : List UInt8} (h0 : Lib.hasPrefix l [45] = false) (h : ¬ Right l) : parseN l = 0 ∧ parseE l = 10 := by
  by_cases he : parseE l = 0
  · exfalso
    obtain ⟨l', ds, ps, p, hs, hd, hp, hor⟩ := parse_inv he
    rcases hor with ⟨rfl, _⟩ | ⟨rfl, _⟩
    · exact h ⟨ds, ps, p, hs, hd, hp⟩
    · rw [has_cons] at h0; exact absurd h0 (by decide)
  · exact parse_no he
theorem not_right_minus {l : List UInt8} (h : ¬ Right l) : parseN (45 :: l) = 0 ∧ parseE (45 :: l) = 10 := by
  by_cases he : parseE (45 :: l) = 0
  · exfalso
    obtain ⟨l', ds, ps, p, hs, hd, hp, hor⟩ := parse_inv he
    rcases hor with ⟨e, _⟩ | ⟨e, _⟩
    · subst e
      exact absurd (hs.begins hd) (by rw [has_cons]; decide)
    · cases e
      exact h ⟨ds, ps, p, hs, hd, hp⟩
  · exact parse_no he
end Go.Proofs.YtjhodmpgggaknaaGreatDoor.Num
