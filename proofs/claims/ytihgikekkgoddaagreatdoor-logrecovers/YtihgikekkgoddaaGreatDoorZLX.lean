/- A checkpoint, the power staying. -/
import Derived.Test.YtihgikekkgoddaaGreatDoorZLU
namespace Go.Proofs.YtihgikekkgoddaaGreatDoor
open Go.RowKit Go.Shelf Sto

theorem rename_old {t t' : St} {o n : List UInt8} {f : Ent} {r : Int} (hm : mayB n = true) (ho : lookE o t.l = some f) (h : t.rename o n = (r, t')) : (t' = t ∧ r = 30 ∧ t.left = 0) ∨ (r = 0 ∧ t.left ≠ 0 ∧ t'.l = putE { f with name := n } (delE o t.l) ∧ t'.left = (t.done).left) := by
  unfold St.rename St.with at h
  by_cases h0 : t.left = 0
  · rw [if_pos h0] at h; cases h; exact .inl ⟨rfl, rfl, h0⟩
  · rw [if_neg h0, ho] at h
    simp only at h
    rw [if_neg (by simp [hm])] at h
    cases h
    exact .inr ⟨rfl, h0, rfl, rfl⟩
theorem enc_short {bs : List UInt8} (h : bs.length ≤ 65536) : (enc bs).length ≤ 70000 := by
  rw [enc_len, Frm.fr_len, ints_len]
  have := Frm.vi_len (n := bs.length) (by omega)
  rw [this]
  have : Frm.wide bs.length ≤ 3 := by unfold Frm.wide; split <;> (try split) <;> omega
  omega
/-- what a checkpoint makes, the power staying. -/
theorem check_plain {p : List UInt8} {t : St} {N : Nat} {S X : List UInt8} {s K : Nat} (h : RS p t N S X s K) (hlv : LV t) {f : Ent} (hf : lookE (nameOf p (pLog N)) t.l = some f) (hN : N + 1 < 90) (hK : K + 2 < 64) (bs : List UInt8) (hb : bs.length ≤ 65536) (sb c : Nat) :
    ∃ t' f', checkA ⟨sb, p, N, c, false⟩ t bs = (0, t', ⟨sb, p, N + 1, 0, false⟩) ∧ RS p t' (N + 1) bs [] 0 (K + 2) ∧ LV t' ∧ lookE (nameOf p (pLog (N + 1))) t'.l = some f' ∧ t'.acts ≤ t.acts + 7 := by
  have hbl := enc_short hb
  have hlen := h.len
  -- names are unlike
  have u1 : nameOf p (pSnap (N + 1)) ≠ nameOf p pNew := ne_snap_new (by omega) (by omega)
  have u2 : nameOf p (pLog (N + 1)) ≠ nameOf p pNew := ne_log_new (by omega)
  have u3 : nameOf p (pLog N) ≠ nameOf p pNew := ne_log_new (by omega)
  have u4 : nameOf p (pSnap (N + 1)) ≠ nameOf p (pLog (N + 1)) := ne_snap_log (by omega) (by omega) (by omega)
  have u5 : nameOf p (pSnap (N + 1)) ≠ nameOf p (pLog N) := ne_snap_log (by omega) (by omega) (by omega)
  have u6 : nameOf p (pLog (N + 1)) ≠ nameOf p (pLog N) := fun e => by
    have := congrArg Part.num (nameOf_inj (ok_log (by omega)) (ok_log (by omega)) e); simp [pLog] at this
  have nl : ∀ t : St, LV t → t.left ≠ 0 := fun t h => by unfold LV at h; omega
  -- the seven steps
  obtain ⟨r1, t1, e1⟩ : ∃ r1 t1, dropNewA p t = (r1, t1) := ⟨_, _, rfl⟩
  have l1 := lv_dropNew hlv e1
  obtain ⟨a1, a2, a3⟩ := h.dropNew e1
  have z1 : r1 = 0 := Classical.byContradiction fun hz => nl t1 l1 (a2 hz).2
  subst z1
  have n1 := a3 rfl
  have hsame : lookE (nameOf p (pLog N)) t1.l = some f := by
    unfold dropNewA at e1
    split at e1
    · rename_i hin
      rcases remove_in hin e1 with ⟨_, h9, _⟩ | ⟨_, _, hl, _⟩
      · omega
      · rw [hl, look_del, if_neg u3]; exact hf
    · cases e1; exact hf
  have hno : lookE (nameOf p (pLog (N + 1))) t1.l = none := look_none.2 fun hm => by
    have := a1.top (pLog (N + 1)) (ok_log (by omega)) hm log_ne_new
    simp [pLog] at this
    omega
  have hnos : lookE (nameOf p (pSnap (N + 1))) t1.l = none := look_none.2 fun hm => by
    have := a1.top (pSnap (N + 1)) (ok_snap (by omega) (by omega)) hm snap_ne_new
    simp [pSnap] at this
    omega
  have k1 := a1.few
  obtain ⟨r2, t2, e2⟩ : ∃ r2 t2, t1.append (nameOf p pNew) (enc bs) = (r2, t2) := ⟨_, _, rfl⟩
  have l2 := lv_append t1 (nameOf p pNew) (enc bs) l1
  rw [e2] at l2
  rcases append_new (may_name ok_new hlen) n1 (by omega) (by omega) e2 with ⟨_, _, h9⟩ | ⟨rfl, _, m2, _⟩
  · exact absurd h9 (nl t1 l1)
  obtain ⟨r3, t3, e3⟩ : ∃ r3 t3, t2.sync (nameOf p pNew) = (r3, t3) := ⟨_, _, rfl⟩
  have l3 := lv_sync t2 (nameOf p pNew) l2
  rw [e3] at l3
  have f2 : lookE (nameOf p pNew) t2.l = some ⟨nameOf p pNew, enc bs, 0⟩ := by rw [m2, look_put, if_pos rfl]
  rcases sync_old f2 e3 with ⟨_, _, h9⟩ | ⟨rfl, _, m3, _⟩
  · exact absurd h9 (nl t2 l2)
  simp only at m3
  obtain ⟨r4, t4, e4⟩ : ∃ r4 t4, t3.rename (nameOf p pNew) (nameOf p (pSnap (N + 1))) = (r4, t4) := ⟨_, _, rfl⟩
  have l4 := lv_rename t3 (nameOf p pNew) (nameOf p (pSnap (N + 1))) l3
  rw [e4] at l4
  have f3 : lookE (nameOf p pNew) t3.l = some ⟨nameOf p pNew, enc bs, (enc bs).length⟩ := by rw [m3, look_put, if_pos rfl]
  rcases rename_old (may_name (ok_snap (by omega) (by omega)) hlen) f3 e4 with ⟨_, _, h9⟩ | ⟨rfl, _, m4, _⟩
  · exact absurd h9 (nl t3 l3)
  simp only at m4
  have lk4 : ∀ n, n ≠ nameOf p pNew → n ≠ nameOf p (pSnap (N + 1)) → lookE n t4.l = lookE n t1.l := fun n h1 h2 => by
    rw [m4, look_put, if_neg (by exact h2), look_del, if_neg h1, m3, look_put, if_neg (by exact h1), m2, look_put, if_neg (by exact h1)]
  have f4 : lookE (nameOf p (pSnap (N + 1))) t4.l = some ⟨nameOf p (pSnap (N + 1)), enc bs, (enc bs).length⟩ := by rw [m4, look_put, if_pos rfl]
  have k2 : t2.l.length ≤ K + 1 := by rw [m2]; exact Nat.le_trans (len_put _ _) (by omega)
  have k3 : t3.l.length ≤ K + 1 := by rw [m3]; exact Nat.le_trans (len_put_old ⟨_, (look_name f2).2, rfl⟩) k2
  have k4 : t4.l.length ≤ K + 1 := by
    rw [m4]
    have h1 := len_put ⟨nameOf p (pSnap (N + 1)), enc bs, (enc bs).length⟩ (delE (nameOf p pNew) t3.l)
    have h2 : (delE (nameOf p pNew) t3.l).length < t3.l.length := by
      unfold delE
      refine List.length_filter_lt_length_iff_exists.2 ⟨_, (look_name f3).2, by simp⟩
    omega
  obtain ⟨r5, t5, e5⟩ : ∃ r5 t5, t4.append (nameOf p (pLog (N + 1))) [] = (r5, t5) := ⟨_, _, rfl⟩
  have l5 := lv_append t4 (nameOf p (pLog (N + 1))) [] l4
  rw [e5] at l5
  rcases append_new (may_name (ok_log (by omega)) hlen) ((lk4 _ u2 u4.symm).trans hno) (by omega) (by simp) e5 with ⟨_, _, h9⟩ | ⟨rfl, _, m5, _⟩
  · exact absurd h9 (nl t4 l4)
  have k5 : t5.l.length ≤ K + 2 := by rw [m5]; exact Nat.le_trans (len_put _ _) (by omega)
  obtain ⟨r6, t6, e6⟩ : ∃ r6 t6, t5.remove (nameOf p (pLog N)) = (r6, t6) := ⟨_, _, rfl⟩
  have l6 := lv_remove t5 (nameOf p (pLog N)) l5
  rw [e6] at l6
  have f5 : lookE (nameOf p (pLog N)) t5.l = some f := by rw [m5, look_put, if_neg (by exact u6.symm), lk4 _ u3 u5.symm]; exact hsame
  rcases remove_in (mem_names.2 ⟨f, (look_name f5).2, (look_name f5).1⟩) e6 with ⟨_, _, h9⟩ | ⟨rfl, _, m6, _⟩
  · exact absurd h9 (nl t5 l5)
  have hs1 : lookE (nameOf p (pSnap (N + 1))) t6.l = some ⟨nameOf p (pSnap (N + 1)), enc bs, (enc bs).length⟩ := by rw [m6, look_del, if_neg u5, m5, look_put, if_neg (by exact u4)]; exact f4
  have hl1 : lookE (nameOf p (pLog (N + 1))) t6.l = some ⟨nameOf p (pLog (N + 1)), [], 0⟩ := by rw [m6, look_del, if_neg u6, m5, look_put, if_pos rfl]
  have nm6 : ∀ n ∈ namesOf t6, n = nameOf p (pSnap (N + 1)) ∨ n = nameOf p (pLog (N + 1)) ∨ n ∈ namesOf t1 := fun n hn => by
    have h5 := names_del m6 hn
    rcases names_put m5 h5 with e | h4
    · exact .inr (.inl e)
    · obtain ⟨y, hy, rfl⟩ := mem_names.1 h4
      rw [m4] at hy
      rcases mem_putE.1 hy with rfl | ⟨hy, _⟩
      · exact .inl rfl
      · have h3 := (mem_delE.1 hy)
        rw [m3] at h3
        rcases mem_putE.1 h3.1 with e | ⟨hy3, _⟩
        · exact absurd (by rw [e]) h3.2
        · rw [m2] at hy3
          rcases mem_putE.1 hy3 with e | ⟨hy2, _⟩
          · exact absurd (by rw [e]) h3.2
          · exact .inr (.inr (mem_names.2 ⟨y, hy2, rfl⟩))
  have rs6 : RS p t6 (N + 1) bs [] 0 (K + 2) := by
    refine ⟨hlen, fun n hn hp => ?_, fun q hq hm hk => ?_, by omega, .inr ⟨by omega, hb, _, hs1, rfl, rfl⟩, .inr ⟨_, hl1, rfl, rfl⟩, by rw [m6]; exact Nat.le_trans (len_del _ _) k5⟩
    · rcases nm6 n hn with e | e | e
      · exact ⟨_, ok_snap (by omega) (by omega), e⟩
      · exact ⟨_, ok_log (by omega), e⟩
      · exact a1.good n e hp
    · rcases nm6 _ hm with e | e | e
      · rw [nameOf_inj hq (ok_snap (by omega) (by omega)) e]; exact Nat.le_refl _
      · rw [nameOf_inj hq (ok_log (by omega)) e]; exact Nat.le_refl _
      · have := a1.top q hq e hk; omega
  -- the last one
  have fin : ∃ t7, third p N t6 = (0, t7) ∧ RS p t7 (N + 1) bs [] 0 (K + 2) ∧ LV t7 ∧ lookE (nameOf p (pLog (N + 1))) t7.l = some ⟨nameOf p (pLog (N + 1)), [], 0⟩ := by
    by_cases hz : N = 0
    · exact ⟨t6, if_pos hz, rs6, l6, hl1⟩
    · obtain ⟨r7, t7, e7⟩ : ∃ r7 t7, t6.remove (nameOf p (pSnap N)) = (r7, t7) := ⟨_, _, rfl⟩
      have l7 := lv_remove t6 (nameOf p (pSnap N)) l6
      rw [e7] at l7
      have v1 : nameOf p (pSnap N) ≠ nameOf p (pLog N) := ne_snap_log (by omega) (by omega) (by omega)
      have v2 : nameOf p (pSnap N) ≠ nameOf p (pLog (N + 1)) := ne_snap_log (by omega) (by omega) (by omega)
      have v3 : nameOf p (pSnap N) ≠ nameOf p (pSnap (N + 1)) := fun e => by
        have := congrArg Part.num (nameOf_inj (ok_snap (by omega) (by omega)) (ok_snap (by omega) (by omega)) e); simp [pSnap] at this
      have v4 : nameOf p (pSnap N) ≠ nameOf p pNew := ne_snap_new (by omega) (by omega)
      rcases a1.snap with ⟨h9, _⟩ | ⟨_, _, g, hg, _⟩
      · exact absurd h9 hz
      · have g6 : lookE (nameOf p (pSnap N)) t6.l = some g := by rw [m6, look_del, if_neg v1, m5, look_put, if_neg (by exact v2), lk4 _ v4 v3]; exact hg
        rcases remove_in (mem_names.2 ⟨g, (look_name g6).2, (look_name g6).1⟩) e7 with ⟨_, _, h9⟩ | ⟨rfl, _, m7, _⟩
        · exact absurd h9 (nl t6 l6)
        · refine ⟨t7, by unfold third; rw [if_neg hz]; exact e7, ?_, l7, by rw [m7, look_del, if_neg v2.symm]; exact hl1⟩
          exact rs6.same (fun n hn => names_del m7 hn) (fun _ => by rw [m7, look_del, if_neg v3.symm]) (by rw [m7, look_del, if_neg v2.symm]) (by rw [m7]; exact Nat.le_trans (len_del _ _) rs6.few)
  obtain ⟨t7, e7, rs7, l7, hl7⟩ := fin
  have w1 : seqA (writeL p N bs) t = (0, t4) := by
    unfold writeL
    simp only [seqA, e1, e2, e3, e4, if_true]
  have w2 : seqA (moveL p N) t4 = (0, t7) := by
    unfold moveL
    simp only [seqA, e5, e6, e7, if_true]
  refine ⟨t7, _, ?_, rs7, l7, hl7, ?_⟩
  · unfold checkA
    simp only [w1, w2]
    simp
  · have q1 := write_acts p N bs t
    rw [w1] at q1
    have q2 := append_acts t4 (nameOf p (pLog (N + 1))) []
    rw [e5] at q2
    have q3 := remove_acts t5 (nameOf p (pLog N))
    rw [e6] at q3
    have q4 : t7.acts ≤ t6.acts + 1 := by
      unfold third at e7
      split at e7
      · cases e7; omega
      · have := remove_acts t6 (nameOf p (pSnap N)); rw [e7] at this; exact this
    simp only at q1 q2 q3
    omega
end Go.Proofs.YtihgikekkgoddaaGreatDoor
