/- Plain mathematics of a row of frames that is cut; no program is named. -/
import Derived.Test.YtffopkpbekjanabFrP
namespace Go.Proofs.Ytffopkpbekjanab
theorem all_of_rows {l : List (List Int)} (hl : ∀ p ∈ l, p.length ≤ 65536) : Reads (rows l) l [] := ⟨by simp, hl, rfl⟩
theorem torn_reads {l : List (List Int)} (hl : ∀ p ∈ l, p.length ≤ 65536) (hb : ∀ p ∈ l, Byt p) {k cut : Nat} (hk : k ≤ l.length) (h1 : (rows (l.take k)).length ≤ cut) (h2 : cut ≤ (rows l).length) (h3 : k = l.length ∨ cut < (rows (l.take (k + 1))).length) (hne : cut ≠ (rows (l.take k)).length) :
    ∃ r, Reads ((rows l).take cut) (l.take k) r := by
  have hlt : k < l.length := by
    rcases h3 with rfl | h3
    · rw [List.take_length] at h1 hne; omega
    · by_cases h : k < l.length
      · exact h
      · have e1 : l.take (k + 1) = l.take k := by rw [List.take_of_length_le (by omega), List.take_of_length_le (by omega)]
        rw [e1] at h3; omega
  have hlt3 : cut < (rows (l.take (k + 1))).length := by
    rcases h3 with rfl | h3
    · omega
    · exact h3
  have hsu := rows_take_succ l k hlt
  rw [hsu, List.length_append] at hlt3
  have hm : l.getD k [] ∈ l := by simp [List.getD, List.getElem?_eq_getElem hlt]
  refine ⟨(fr (l.getD k [])).take (cut - (rows (l.take k)).length), ?_, fun p hp => hl p (List.mem_of_mem_take hp), torn (hb _ hm) (hl _ hm) (by omega)⟩
  have e : rows l = rows (l.take k) ++ (fr (l.getD k []) ++ rows (l.drop (k + 1))) := by
    rw [← List.append_assoc, ← hsu, ← rows_app, List.take_append_drop]
  rw [e, List.take_append, List.take_of_length_le h1]
  congr 1
  rw [List.take_append, show cut - (rows (l.take k)).length - (fr (l.getD k [])).length = 0 by omega]
  simp
theorem cut_reads {l : List (List Int)} (hl : ∀ p ∈ l, p.length ≤ 65536) {k : Nat} (m : Nat) : Reads ((rows l).take (rows (l.take k)).length ++ List.replicate m 0) (l.take k) (List.replicate m 0) := by
  refine ⟨?_, fun p hp => hl p (List.mem_of_mem_take hp), next_noughts m⟩
  congr 1
  have e : rows l = rows (l.take k) ++ rows (l.drop k) := by rw [← rows_app, List.take_append_drop]
  rw [e, List.take_left' rfl]
end Go.Proofs.Ytffopkpbekjanab
