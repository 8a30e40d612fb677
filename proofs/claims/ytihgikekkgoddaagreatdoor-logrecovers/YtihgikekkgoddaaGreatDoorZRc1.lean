/- LogRecovers: what a log's calls, a crash and an opening make of what a store tells, whenever the power goes. Plain mathematics. -/
import Derived.Test.YtihgikekkgoddaaGreatDoorZLX
namespace Go.Proofs.YtihgikekkgoddaaGreatDoor
open Go.RowKit Go.Shelf Sto

theorem enc_room5 (r : List UInt8) (h : r.length ≤ 65536) : (enc r).length ≤ r.length + 20 := by
  rw [enc_len, Frm.fr_len, ints_len]
  have := Frm.vi_len (n := r.length) (by omega)
  rw [this]
  have : Frm.wide r.length ≤ 3 := by unfold Frm.wide; split <;> (try split) <;> omega
  omega
/-- so many acts are left, and at most so many files and acts together. -/
def Bd (C : Nat) (t : St) : Prop := 0 ≤ t.left ∧ (t.l.length : Int) + t.left ≤ (C : Int) ∧ (t.acts : Int) + t.left ≤ 1000
theorem Bd.len {C : Nat} {t : St} (h : Bd C t) : t.l.length ≤ C := by have := h.1; have := h.2.1; omega
theorem Bd.lt {C : Nat} {t : St} (h : Bd C t) (h0 : t.left ≠ 0) : t.l.length < C := by have := h.1; have := h.2.1; omega
theorem done_left {t : St} (h : 0 ≤ t.left) (h0 : t.left ≠ 0) : t.done.left = t.left - 1 := by unfold St.done; simp only; rw [if_pos (by omega)]
theorem Bd.next {C : Nat} {t t' : St} (h : Bd C t) (h0 : t.left ≠ 0) (hl : t'.left = t.done.left) (hn : t'.l.length ≤ t.l.length + 1) (ha : t'.acts ≤ t.acts + 1) : Bd C t' ∧ t'.left < t.left := by
  rw [done_left h.1 h0] at hl
  have h1 := h.1
  have h2 := h.2.1
  have h3 := h.2.2
  exact ⟨⟨by omega, by omega, by omega⟩, by omega⟩
/-- beside the log's files there may be a snapshot that is being made. -/
theorem RS.more {p : List UInt8} {t t' : St} {N : Nat} {S X : List UInt8} {s K K' : Nat} (h : RS p t N S X s K) (hn : ∀ n ∈ namesOf t', n = nameOf p pNew ∨ n ∈ namesOf t) (h1 : 1 ≤ N → lookE (nameOf p (pSnap N)) t'.l = lookE (nameOf p (pSnap N)) t.l) (h2 : lookE (nameOf p (pLog N)) t'.l = lookE (nameOf p (pLog N)) t.l) (hk : t'.l.length ≤ K') : RS p t' N S X s K' :=
  ⟨h.len, fun n hn' hp => (hn n hn').elim (fun e => ⟨_, ok_new, e⟩) (fun hm => h.good n hm hp), fun q hq hm hk => (hn _ hm).elim (fun e => absurd (by rw [nameOf_inj hq ok_new e]; rfl) hk) (fun hm => h.top q hq hm hk), h.small, h.snap.imp id (fun ⟨a, b, f, c, d⟩ => ⟨a, b, f, (h1 a).trans c, d⟩), h.log.imp (fun ⟨a, b⟩ => ⟨h2.trans a, b⟩) (fun ⟨f, a, b⟩ => ⟨f, h2.trans a, b⟩), hk⟩
theorem len_re {f f' : Ent} {o : List UInt8} {l : List Ent} (ho : lookE o l = some f) : (putE f' (delE o l)).length ≤ l.length := by
  have h1 := len_put f' (delE o l)
  have h2 : (delE o l).length < l.length := by
    unfold delE
    exact List.length_filter_lt_length_iff_exists.2 ⟨_, (look_name ho).2, by simp [(look_name ho).1]⟩
  omega
/-- an Append: it is done, or the power is gone. -/
theorem append_ever {p : List UInt8} {t : St} {N : Nat} {S X : List UInt8} {s C : Nat} (h : RS p t N S X s C) (hb : Bd C t) {f : Ent} (hf : lookE (nameOf p (pLog N)) t.l = some f) (bs : List UInt8) (hX : X.length + (enc bs).length ≤ 1048576) :
    ∃ r t', t.append (nameOf p (pLog N)) (enc bs) = (r, t') ∧ ((r = 30 ∧ t' = t ∧ t.left = 0) ∨ (r = 0 ∧ RS p t' N S (X ++ enc bs) s C ∧ Bd C t' ∧ t'.left < t.left ∧ ∃ f', lookE (nameOf p (pLog N)) t'.l = some f')) := by
  have hsm := h.small
  obtain ⟨e1, e2⟩ := h.file hf
  have hfn := (look_name hf).1
  obtain ⟨r, t', ht⟩ : ∃ r t', t.append (nameOf p (pLog N)) (enc bs) = (r, t') := ⟨_, _, rfl⟩
  refine ⟨r, t', ht, ?_⟩
  rcases append_old (may_name (ok_log (by omega)) h.len) hf (by rw [e1]; exact hX) ht with ⟨rfl, rfl, h0⟩ | ⟨rfl, h0, hl', hlf⟩
  · exact .inl ⟨rfl, rfl, h0⟩
  · have hlen : t'.l.length ≤ t.l.length := by rw [hl']; exact len_put_old ⟨f, (look_name hf).2, rfl⟩
    obtain ⟨b1, b2⟩ := hb.next h0 hlf (by omega) (by have := append_acts t (nameOf p (pLog N)) (enc bs); rw [ht] at this; exact this)
    have h2 := h.relog (t' := t') (f := { f with b := f.b ++ enc bs }) hfn hl' (K' := C) b1.len
    simp only at h2
    rw [e1, e2] at h2
    exact .inr ⟨rfl, h2, b1, b2, _, by rw [hl', look_put, if_pos hfn.symm]⟩
theorem sync_ever {p : List UInt8} {t : St} {N : Nat} {S X : List UInt8} {s C : Nat} (h : RS p t N S X s C) (hb : Bd C t) {f : Ent} (hf : lookE (nameOf p (pLog N)) t.l = some f) :
    ∃ r t', t.sync (nameOf p (pLog N)) = (r, t') ∧ ((r = 30 ∧ t' = t ∧ t.left = 0) ∨ (r = 0 ∧ RS p t' N S X X.length C ∧ Bd C t' ∧ t'.left < t.left ∧ ∃ f', lookE (nameOf p (pLog N)) t'.l = some f')) := by
  obtain ⟨e1, e2⟩ := h.file hf
  have hfn := (look_name hf).1
  obtain ⟨r, t', ht⟩ : ∃ r t', t.sync (nameOf p (pLog N)) = (r, t') := ⟨_, _, rfl⟩
  refine ⟨r, t', ht, ?_⟩
  rcases sync_old hf ht with ⟨rfl, rfl, h0⟩ | ⟨rfl, h0, hl', hlf⟩
  · exact .inl ⟨rfl, rfl, h0⟩
  · have hlen : t'.l.length ≤ t.l.length := by rw [hl']; exact len_put_old ⟨f, (look_name hf).2, rfl⟩
    obtain ⟨b1, b2⟩ := hb.next h0 hlf (by omega) (by have := sync_acts t (nameOf p (pLog N)); rw [ht] at this; exact this)
    have h2 := h.relog (t' := t') (f := { f with s := f.b.length }) hfn hl' (K' := C) b1.len
    simp only at h2
    rw [e1] at h2
    exact .inr ⟨rfl, h2, b1, b2, _, by rw [hl', look_put, if_pos hfn.symm]⟩
/-- a checkpoint: it is done, or the power is gone, and what is told is the old or the new. -/
theorem check_ever {p : List UInt8} {t : St} {N : Nat} {S X : List UInt8} {s C : Nat} (h : RS p t N S X s C) (hC : C ≤ 63) (hbd : Bd C t) {f : Ent} (hf : lookE (nameOf p (pLog N)) t.l = some f) (hN : N + 1 < 90) (bs : List UInt8) (hb : bs.length ≤ 65536) (sb c : Nat) :
    ∃ r t' x', checkA ⟨sb, p, N, c, false⟩ t bs = (r, t', x') ∧ ((r = 0 ∧ x' = ⟨sb, p, N + 1, 0, false⟩ ∧ RS p t' (N + 1) bs [] 0 C ∧ Bd C t' ∧ t'.left < t.left ∧ ∃ f', lookE (nameOf p (pLog (N + 1))) t'.l = some f') ∨
      (r ≠ 0 ∧ t'.left = 0 ∧ x'.sb = sb ∧ Bd C t' ∧ (RS p t' N S X s C ∨ RS p t' (N + 1) bs [] 0 C))) := by
  have hbl := enc_short hb
  have hlen := h.len
  have u1 : nameOf p (pSnap (N + 1)) ≠ nameOf p pNew := ne_snap_new (by omega) (by omega)
  have u2 : nameOf p (pLog (N + 1)) ≠ nameOf p pNew := ne_log_new (by omega)
  have u3 : nameOf p (pLog N) ≠ nameOf p pNew := ne_log_new (by omega)
  have u4 : nameOf p (pSnap (N + 1)) ≠ nameOf p (pLog (N + 1)) := ne_snap_log (by omega) (by omega) (by omega)
  have u5 : nameOf p (pSnap (N + 1)) ≠ nameOf p (pLog N) := ne_snap_log (by omega) (by omega) (by omega)
  have u6 : nameOf p (pLog (N + 1)) ≠ nameOf p (pLog N) := fun e => by
    have := congrArg Part.num (nameOf_inj (ok_log (by omega)) (ok_log (by omega)) e); simp [pLog] at this
  have u7 : 1 ≤ N → nameOf p (pSnap N) ≠ nameOf p pNew := fun h1 => ne_snap_new h1 (by omega)
  -- 1: the snapshot that was being made goes
  obtain ⟨r1, t1, e1⟩ : ∃ r1 t1, dropNewA p t = (r1, t1) := ⟨_, _, rfl⟩
  obtain ⟨a1, a2, a3⟩ := h.dropNew e1
  have b1 : Bd C t1 ∧ t1.left ≤ t.left := by
    unfold dropNewA at e1
    split at e1
    · rename_i hin
      rcases remove_in hin e1 with ⟨rfl, _, _⟩ | ⟨_, h0, hl, hlf⟩
      · exact ⟨hbd, Int.le_refl _⟩
      · have := hbd.next h0 hlf (by rw [hl]; have := len_del (nameOf p pNew) t.l; omega) (by have := remove_acts t (nameOf p pNew); rw [e1] at this; exact this)
        exact ⟨this.1, by omega⟩
    · cases e1; exact ⟨hbd, Int.le_refl _⟩
  by_cases z1 : r1 = 0
  case neg =>
    refine ⟨r1, t1, ⟨sb, p, N, c, false⟩, ?_, .inr ⟨z1, (a2 z1).2, rfl, b1.1, .inl a1⟩⟩
    have w1 : seqA (writeL p N bs) t = (r1, t1) := by unfold writeL; simp only [seqA, e1]; rw [if_neg z1]
    unfold checkA; simp only [w1]; simp [z1]
  subst z1
  have n1 := a3 rfl
  have hsame : lookE (nameOf p (pLog N)) t1.l = some f := by
    unfold dropNewA at e1
    split at e1
    · rename_i hin
      rcases remove_in hin e1 with ⟨_, h9, _⟩ | ⟨_, _, hl, _⟩
      · omega
      · rw [hl, look_del, if_neg u3]; exact hf
    · cases e1; exact hf
  have hno : lookE (nameOf p (pLog (N + 1))) t1.l = none := look_none.2 fun hm => by
    have := a1.top (pLog (N + 1)) (ok_log (by omega)) hm log_ne_new
    simp [pLog] at this
    omega
  -- 2: it is written
  obtain ⟨r2, t2, e2⟩ : ∃ r2 t2, t1.append (nameOf p pNew) (enc bs) = (r2, t2) := ⟨_, _, rfl⟩
  rcases append_new (may_name ok_new hlen) n1 (by have := b1.1.len; omega) (by omega) e2 with ⟨rfl, rfl, h9⟩ | ⟨rfl, h9, m2, lf2⟩
  · refine ⟨30, t2, ⟨sb, p, N, c, false⟩, ?_, .inr ⟨by omega, h9, rfl, b1.1, .inl a1⟩⟩
    have w1 : seqA (writeL p N bs) t = (30, t2) := by unfold writeL; simp only [seqA, e1, e2, if_true]; rfl
    unfold checkA; simp only [w1]; simp
  obtain ⟨b2, c2⟩ := b1.1.next h9 lf2 (by rw [m2]; exact len_put _ _) (by have := append_acts t1 (nameOf p pNew) (enc bs); rw [e2] at this; exact this)
  have rs2 : RS p t2 N S X s C := a1.more (fun n hn => names_put m2 hn) (fun h1 => by rw [m2, look_put, if_neg (by exact u7 h1)]) (by rw [m2, look_put, if_neg (by exact u3)]) b2.len
  -- 3: and synced
  obtain ⟨r3, t3, e3⟩ : ∃ r3 t3, t2.sync (nameOf p pNew) = (r3, t3) := ⟨_, _, rfl⟩
  have f2 : lookE (nameOf p pNew) t2.l = some ⟨nameOf p pNew, enc bs, 0⟩ := by rw [m2, look_put, if_pos rfl]
  rcases sync_old f2 e3 with ⟨rfl, rfl, h9⟩ | ⟨rfl, h9, m3, lf3⟩
  · refine ⟨30, t3, ⟨sb, p, N, c, false⟩, ?_, .inr ⟨by omega, h9, rfl, b2, .inl rs2⟩⟩
    have w1 : seqA (writeL p N bs) t = (30, t3) := by unfold writeL; simp only [seqA, e1, e2, e3, if_true]; rfl
    unfold checkA; simp only [w1]; simp
  simp only at m3
  obtain ⟨b3, c3⟩ := b2.next h9 lf3 (by rw [m3]; exact len_put _ _) (by have := sync_acts t2 (nameOf p pNew); rw [e3] at this; exact this)
  have rs3 : RS p t3 N S X s C := rs2.more (fun n hn => names_put m3 hn) (fun h1 => by rw [m3, look_put, if_neg (by exact u7 h1)]) (by rw [m3, look_put, if_neg (by exact u3)]) b3.len
  -- 4: and has the next number's name
  obtain ⟨r4, t4, e4⟩ : ∃ r4 t4, t3.rename (nameOf p pNew) (nameOf p (pSnap (N + 1))) = (r4, t4) := ⟨_, _, rfl⟩
  have f3 : lookE (nameOf p pNew) t3.l = some ⟨nameOf p pNew, enc bs, (enc bs).length⟩ := by rw [m3, look_put, if_pos rfl]
  rcases rename_old (may_name (ok_snap (by omega) (by omega)) hlen) f3 e4 with ⟨rfl, rfl, h9⟩ | ⟨rfl, h9, m4, lf4⟩
  · refine ⟨30, t4, ⟨sb, p, N, c, false⟩, ?_, .inr ⟨by omega, h9, rfl, b3, .inl rs3⟩⟩
    have w1 : seqA (writeL p N bs) t = (30, t4) := by unfold writeL; simp only [seqA, e1, e2, e3, e4, if_true]; rfl
    unfold checkA; simp only [w1]; simp
  simp only at m4
  have w1 : seqA (writeL p N bs) t = (0, t4) := by unfold writeL; simp only [seqA, e1, e2, e3, e4, if_true]
  obtain ⟨b4, c4⟩ := b3.next h9 lf4 (by rw [m4]; exact Nat.le_trans (len_re f3) (by omega)) (by have := rename_acts t3 (nameOf p pNew) (nameOf p (pSnap (N + 1))); rw [e4] at this; exact this)
  have lk4 : ∀ n, n ≠ nameOf p pNew → n ≠ nameOf p (pSnap (N + 1)) → lookE n t4.l = lookE n t1.l := fun n h1 h2 => by
    rw [m4, look_put, if_neg (by exact h2), look_del, if_neg h1, m3, look_put, if_neg (by exact h1), m2, look_put, if_neg (by exact h1)]
  have f4 : lookE (nameOf p (pSnap (N + 1))) t4.l = some ⟨nameOf p (pSnap (N + 1)), enc bs, (enc bs).length⟩ := by rw [m4, look_put, if_pos rfl]
  have nm4 : ∀ n ∈ namesOf t4, n = nameOf p (pSnap (N + 1)) ∨ n ∈ namesOf t1 := fun n hn => by
    obtain ⟨y, hy, rfl⟩ := mem_names.1 hn
    rw [m4] at hy
    rcases mem_putE.1 hy with rfl | ⟨hy, _⟩
    · exact .inl rfl
    · have h3 := (mem_delE.1 hy)
      rw [m3] at h3
      rcases mem_putE.1 h3.1 with e | ⟨hy3, _⟩
      · exact absurd (by rw [e]) h3.2
      · rw [m2] at hy3
        rcases mem_putE.1 hy3 with e | ⟨hy2, _⟩
        · exact absurd (by rw [e]) h3.2
        · exact .inr (mem_names.2 ⟨y, hy2, rfl⟩)
  have rs4 : RS p t4 (N + 1) bs [] 0 C := by
    refine ⟨hlen, fun n hn hp => ?_, fun q hq hm hk => ?_, by omega, .inr ⟨by omega, hb, _, f4, rfl, rfl⟩, .inl ⟨(lk4 _ u2 u4.symm).trans hno, rfl, rfl⟩, b4.len⟩
    · rcases nm4 n hn with e | e
      · exact ⟨_, ok_snap (by omega) (by omega), e⟩
      · exact a1.good n e hp
    · rcases nm4 _ hm with e | e
      · rw [nameOf_inj hq (ok_snap (by omega) (by omega)) e]; exact Nat.le_refl _
      · have := a1.top q hq e hk; omega
  -- 5: the new log's file
  obtain ⟨r5, t5, e5⟩ : ∃ r5 t5, t4.append (nameOf p (pLog (N + 1))) [] = (r5, t5) := ⟨_, _, rfl⟩
  rcases append_new (may_name (ok_log (by omega)) hlen) ((lk4 _ u2 u4.symm).trans hno) (by have := b4.len; omega) (by simp) e5 with ⟨rfl, rfl, h9⟩ | ⟨rfl, h9, m5, lf5⟩
  · refine ⟨30, t5, ⟨sb, p, N, c, true⟩, ?_, .inr ⟨by omega, h9, rfl, b4, .inr rs4⟩⟩
    have w2 : seqA (moveL p N) t5 = (30, t5) := by unfold moveL; simp only [seqA, e5]; rfl
    unfold checkA; simp only [w1, w2]; simp
  obtain ⟨b5, c5⟩ := b4.next h9 lf5 (by rw [m5]; exact len_put _ _) (by have := append_acts t4 (nameOf p (pLog (N + 1))) []; rw [e5] at this; exact this)
  have rs5 : RS p t5 (N + 1) bs [] 0 C := rs4.relog (f := ⟨nameOf p (pLog (N + 1)), [], 0⟩) rfl m5 b5.len
  have hl5 : lookE (nameOf p (pLog (N + 1))) t5.l = some ⟨nameOf p (pLog (N + 1)), [], 0⟩ := by rw [m5, look_put, if_pos rfl]
  -- 6: the old one's goes
  obtain ⟨r6, t6, e6⟩ : ∃ r6 t6, t5.remove (nameOf p (pLog N)) = (r6, t6) := ⟨_, _, rfl⟩
  have f5 : lookE (nameOf p (pLog N)) t5.l = some f := by rw [m5, look_put, if_neg (by exact u6.symm), lk4 _ u3 u5.symm]; exact hsame
  rcases remove_in (mem_names.2 ⟨f, (look_name f5).2, (look_name f5).1⟩) e6 with ⟨rfl, rfl, h9⟩ | ⟨rfl, h9, m6, lf6⟩
  · refine ⟨30, t6, ⟨sb, p, N, c, true⟩, ?_, .inr ⟨by omega, h9, rfl, b5, .inr rs5⟩⟩
    have w2 : seqA (moveL p N) t4 = (30, t6) := by unfold moveL; simp only [seqA, e5, e6, if_true]; rfl
    unfold checkA; simp only [w1, w2]; simp
  obtain ⟨b6, c6⟩ := b5.next h9 lf6 (by rw [m6]; exact Nat.le_trans (len_del _ _) (by omega)) (by have := remove_acts t5 (nameOf p (pLog N)); rw [e6] at this; exact this)
  have hl6 : lookE (nameOf p (pLog (N + 1))) t6.l = some ⟨nameOf p (pLog (N + 1)), [], 0⟩ := by rw [m6, look_del, if_neg u6]; exact hl5
  have rs6 : RS p t6 (N + 1) bs [] 0 C := rs5.same (fun n hn => names_del m6 hn) (fun _ => by rw [m6, look_del, if_neg u5]) (by rw [m6, look_del, if_neg u6]) b6.len
  -- 7: and its snapshot
  by_cases hz : N = 0
  · refine ⟨0, t6, _, ?_, .inl ⟨rfl, rfl, rs6, b6, by omega, _, hl6⟩⟩
    have w2 : seqA (moveL p N) t4 = (0, t6) := by unfold moveL third; simp only [seqA, e5, e6, if_true, if_pos hz]
    unfold checkA; simp only [w1, w2]; simp
  · obtain ⟨r7, t7, e7⟩ : ∃ r7 t7, t6.remove (nameOf p (pSnap N)) = (r7, t7) := ⟨_, _, rfl⟩
    have v1 : nameOf p (pSnap N) ≠ nameOf p (pLog N) := ne_snap_log (by omega) (by omega) (by omega)
    have v2 : nameOf p (pSnap N) ≠ nameOf p (pLog (N + 1)) := ne_snap_log (by omega) (by omega) (by omega)
    have v3 : nameOf p (pSnap N) ≠ nameOf p (pSnap (N + 1)) := fun e => by
      have := congrArg Part.num (nameOf_inj (ok_snap (by omega) (by omega)) (ok_snap (by omega) (by omega)) e); simp [pSnap] at this
    have v4 : nameOf p (pSnap N) ≠ nameOf p pNew := ne_snap_new (by omega) (by omega)
    rcases a1.snap with ⟨h8, _⟩ | ⟨_, _, g, hg, _⟩
    · exact absurd h8 hz
    have g6 : lookE (nameOf p (pSnap N)) t6.l = some g := by rw [m6, look_del, if_neg v1, m5, look_put, if_neg (by exact v2), lk4 _ v4 v3]; exact hg
    rcases remove_in (mem_names.2 ⟨g, (look_name g6).2, (look_name g6).1⟩) e7 with ⟨rfl, rfl, h9⟩ | ⟨rfl, h9, m7, lf7⟩
    · refine ⟨30, t7, ⟨sb, p, N, c, true⟩, ?_, .inr ⟨by omega, h9, rfl, b6, .inr rs6⟩⟩
      have w2 : seqA (moveL p N) t4 = (30, t7) := by unfold moveL third; simp only [seqA, e5, e6, e7, if_true, if_neg hz]; rfl
      unfold checkA; simp only [w1, w2]; simp
    · obtain ⟨b7, c7⟩ := b6.next h9 lf7 (by rw [m7]; exact Nat.le_trans (len_del _ _) (by omega)) (by have := remove_acts t6 (nameOf p (pSnap N)); rw [e7] at this; exact this)
      refine ⟨0, t7, _, ?_, .inl ⟨rfl, rfl, rs6.same (fun n hn => names_del m7 hn) (fun _ => by rw [m7, look_del, if_neg v3.symm]) (by rw [m7, look_del, if_neg v2.symm]) b7.len, b7, by omega, _, by rw [m7, look_del, if_neg v2.symm]; exact hl6⟩⟩
      have w2 : seqA (moveL p N) t4 = (0, t7) := by unfold moveL third; simp only [seqA, e5, e6, e7, if_true, if_neg hz]
      unfold checkA; simp only [w1, w2]; simp
/-- a crash, file by file. -/
theorem crash_names : ∀ (l : List Ent) (ks : List Int), (crashL l ks).map Ent.name = l.map Ent.name
  | [], _ => rfl
  | f :: r, ks => by
    unfold crashL
    split
    · rw [List.map_cons, List.map_cons, crash_names r ks]
    · rw [List.map_cons, List.map_cons, crash_names r ks.tail]
theorem crash_look {n : List UInt8} {f : Ent} : ∀ (l : List Ent) (ks : List Int), lookE n l = some f → ∃ f', lookE n (crashL l ks) = some f' ∧ ((f.b.length ≤ f.s ∧ f' = f) ∨ (f.s < f.b.length ∧ ∃ k, f'.b = f.b.take (f.s + k) ∧ f'.s = f.s + k))
  | [], ks, h => by cases h
  | g :: r, ks, h => by
    unfold lookE at h
    rw [List.find?_cons] at h
    by_cases hg : g.name = n
    · have h1 : (g.name == n) = true := by simpa using hg
      rw [h1] at h
      simp only at h
      cases h
      unfold crashL
      by_cases hle : f.b.length ≤ f.s
      · rw [if_pos hle]
        exact ⟨f, by unfold lookE; rw [List.find?_cons, h1], .inl ⟨hle, rfl⟩⟩
      · rw [if_neg hle]
        exact ⟨_, by unfold lookE; rw [List.find?_cons, h1], .inr ⟨by omega, _, rfl, rfl⟩⟩
    · have h1 : (g.name == n) = false := by simpa using hg
      rw [h1] at h
      simp only at h
      unfold crashL
      split
      · obtain ⟨f', h2, h3⟩ := crash_look r ks h
        exact ⟨f', by unfold lookE at h2 ⊢; rw [List.find?_cons, h1]; exact h2, h3⟩
      · obtain ⟨f', h2, h3⟩ := crash_look r ks.tail h
        refine ⟨f', ?_, h3⟩
        unfold lookE at h2 ⊢
        rw [List.find?_cons]
        simp only [h1]
        exact h2
theorem RS.crash {p : List UInt8} {t : St} {N : Nat} {S X : List UInt8} {s K : Nat} (h : RS p t N S X s K) (ks : List Int) : ∃ j s', RS p (t.crash ks) N S (X.take j) s' K ∧ s ≤ j ∧ (X.take j).length ≤ s' := by
  have hnm : namesOf (t.crash ks) = namesOf t := by unfold namesOf St.crash; exact crash_names t.l ks
  have hfew : (t.crash ks).l.length ≤ K := by
    have := congrArg List.length hnm
    unfold namesOf at this
    rw [List.length_map, List.length_map] at this
    rw [this]; exact h.few
  have hsnap : (N = 0 ∧ S = []) ∨ (1 ≤ N ∧ S.length ≤ 65536 ∧ ∃ f, lookE (nameOf p (pSnap N)) (t.crash ks).l = some f ∧ f.b = enc S ∧ f.s = (enc S).length) := by
    refine h.snap.imp id ?_
    rintro ⟨h1, h2, f, h3, h4, h5⟩
    obtain ⟨f', h6, h7⟩ := crash_look t.l ks h3
    rcases h7 with ⟨_, rfl⟩ | ⟨h8, _⟩
    · exact ⟨h1, h2, f', h6, h4, h5⟩
    · rw [h4, h5] at h8; omega
  rcases h.log with ⟨h1, rfl, rfl⟩ | ⟨f, h1, rfl, rfl⟩
  · refine ⟨0, 0, ⟨h.len, by rw [hnm]; exact h.good, fun q hq hm => h.top q hq (by rw [← hnm]; exact hm), h.small, hsnap, .inl ⟨?_, rfl, rfl⟩, hfew⟩, by omega, by simp⟩
    rw [look_none, hnm]; exact look_none.1 h1
  · obtain ⟨f', h6, h7⟩ := crash_look t.l ks h1
    rcases h7 with ⟨h8, rfl⟩ | ⟨h8, k, h9, h10⟩
    · refine ⟨f'.s, f'.s, ⟨h.len, by rw [hnm]; exact h.good, fun q hq hm => h.top q hq (by rw [← hnm]; exact hm), h.small, hsnap, .inr ⟨f', h6, by rw [List.take_of_length_le h8], rfl⟩, hfew⟩, Nat.le_refl _, by rw [List.length_take]; omega⟩
    · exact ⟨f.s + k, f.s + k, ⟨h.len, by rw [hnm]; exact h.good, fun q hq hm => h.top q hq (by rw [← hnm]; exact hm), h.small, hsnap, .inr ⟨f', h6, h9, h10⟩, hfew⟩, by omega, by rw [List.length_take]; omega⟩
/-- what an opening may tell, by a story. -/
def FitS (on : Bool) (S nx : List UInt8) (rs : List (List UInt8)) (sy : Nat) (S' : List UInt8) (R : List (List UInt8)) : Prop := (on = true ∧ S' = nx ∧ R = []) ∨ (S' = S ∧ ∃ k, k ≤ rs.length ∧ sy ≤ k ∧ R = rs.take k)
/-- the store tells what a story says. -/
def TellsS (p : List UInt8) (t : St) (on : Bool) (S nx : List UInt8) (rs : List (List UInt8)) (sy C : Nat) : Prop :=
  (∃ N s, RS p t N S (encs rs) s C ∧ (encs (rs.take sy)).length ≤ s) ∨ (on = true ∧ ∃ N, RS p t N nx [] 0 C)
/-- and so behind a crash: all that is told is safe. -/
theorem TellsS.crash {p : List UInt8} {t : St} {on : Bool} {S nx : List UInt8} {rs : List (List UInt8)} {sy C : Nat} (h : TellsS p t on S nx rs sy C) (ks : List Int) (hsy : sy ≤ rs.length) (hr : ∀ r ∈ rs, r.length ≤ 65536) :
    ∃ N S' X s R, RS p (t.crash ks) N S' X s C ∧ X.length ≤ s ∧ Read8 X R ∧ FitS on S nx rs sy S' R ∧ ∀ r ∈ R, r.length ≤ 65536 := by
  rcases h with ⟨N, s, h1, h2⟩ | ⟨h0, N, h1⟩
  · obtain ⟨j, s', h3, h4, h5⟩ := h1.crash ks
    obtain ⟨k, k1, k2, k3, k4⟩ := read8_take (l := rs) hr (min j (encs rs).length) (by omega)
    have e : (encs rs).take (min j (encs rs).length) = (encs rs).take j := by
      rcases Nat.le_total j (encs rs).length with h | h
      · rw [Nat.min_eq_left h]
      · rw [Nat.min_eq_right h, List.take_of_length_le h, List.take_of_length_le (Nat.le_refl _)]
    rw [e] at k2
    have hm := encs_mono (l := rs) hsy
    rw [List.take_length] at hm
    exact ⟨N, S, _, s', rs.take k, h3, h5, k2, .inr ⟨rfl, k, k1, k4 sy hsy (by omega), rfl⟩, fun r hr' => hr r (List.mem_of_mem_take hr')⟩
  · obtain ⟨j, s', h3, h4, h5⟩ := h1.crash ks
    rw [List.take_nil] at h3 h5
    exact ⟨N, nx, [], s', [], h3, h5, read8_all (l := []) (by simp), .inl ⟨h0, rfl, rfl⟩, by simp⟩
/-- an opening whose power goes, and a crash: all is told still. -/
theorem again_fails {p : List UInt8} {t t' : St} {N : Nat} {S X : List UInt8} {s K : Nat} {R : List (List UInt8)} (h : RS p t N S X s K) (hd : ND t) (hK : K < 64) (hs : X.length ≤ s) (hR : Read8 X R) (hr : ∀ r ∈ R, r.length ≤ 65536) {r : Int} (ho : OpenNo p t r t') (ks : List Int) :
    ∃ X' s', RS p (t'.crash ks) N S X' s' (K + 1) ∧ Read8 X' R := by
  obtain ⟨_, _, X2, s2, h1, h2, h3⟩ := open_fails h hd hK ho
  have hX2 : X2.length ≤ s2 ∧ Read8 X2 R := by
    rcases h2 with rfl | ⟨recs, rfl, h4⟩
    · exact ⟨by omega, hR⟩
    · obtain rfl := read8_one h4 hR
      obtain ⟨q, hq⟩ := hR.pre
      have : (encs recs).length ≤ X.length := by rw [hq, List.length_append]; omega
      exact ⟨by omega, read8_all hr⟩
  obtain ⟨j, s', h5, h6, h7⟩ := h1.crash ks
  rw [List.take_of_length_le (by omega)] at h5
  exact ⟨X2, s', h5, hX2.2⟩
/-- one that is done, and a crash. -/
theorem again_done {p : List UInt8} {t' : St} {N : Nat} {S : List UInt8} {K : Nat} {R : List (List UInt8)} (h : RS p t' N S (encs R) (encs R).length K) (hr : ∀ r ∈ R, r.length ≤ 65536) (ks : List Int) : ∃ X' s', RS p (t'.crash ks) N S X' s' K ∧ Read8 X' R := by
  obtain ⟨j, s', h5, h6, h7⟩ := h.crash ks
  rw [List.take_of_length_le (by omega)] at h5
  exact ⟨_, s', h5, read8_all hr⟩
end Go.Proofs.YtihgikekkgoddaaGreatDoor
