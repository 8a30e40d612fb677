import Derived.Test.YtjhodmpgggaknaaGreatDoorZB6
/- Contract of matchers. -/
namespace Go.Proofs.YtjhodmpgggaknaaGreatDoor
open Go.RowKit Go.Shelf Go.Maps

def keysT (ts : List Tk) : List Key := ts.map Tk.key
def Suf (ts' ts : List Tk) : Prop := ∃ p, ts = p ++ ts'
theorem Suf.refl (ts : List Tk) : Suf ts ts := ⟨[], rfl⟩
theorem Suf.trans {a b c : List Tk} (h : Suf a b) (k : Suf b c) : Suf a c := by
  obtain ⟨p, rfl⟩ := h
  obtain ⟨q, rfl⟩ := k
  exact ⟨q ++ p, by simp⟩
theorem Suf.tail (ts : List Tk) : Suf ts.tail ts := by
  cases ts with
  | nil => exact ⟨[], rfl⟩
  | cons t ts => exact ⟨[t], rfl⟩
theorem Suf.all {a b : List Tk} (h : Suf a b) {p : Tk → Prop} (hp : ∀ t ∈ b, p t) : ∀ t ∈ a, p t := by
  obtain ⟨q, rfl⟩ := h
  exact fun t ht => hp t (List.mem_append_right _ ht)
theorem Suf.len {a b : List Tk} (h : Suf a b) : a.length ≤ b.length := by
  obtain ⟨q, rfl⟩ := h
  simp
theorem hd_key (k : Key) (ts : List Tk) : hd k ts = true ↔ ∃ r, keysT ts = k :: r ∧ r = keysT ts.tail := by
  cases ts with
  | nil => simp [hd, keysT]
  | cons t ts =>
    obtain ⟨a, b⟩ := k
    simp [hd, keysT, Tk.key]
theorem hd_not {k : Key} {ts : List Tk} (h : hd k ts = false) : ∀ r, keysT ts ≠ k :: r := fun r e => by
  have := (hd_key k ts).2 ⟨r, e, by cases ts with
    | nil => cases e
    | cons t ts => simp [keysT] at *; exact e.2.symm⟩
  rw [h] at this; cases this
/-- matchers' row is set. -/
theorem RdAt.grow {F G : Nat → Prop} {w0 w w1 : World} {b : Nat} {ts : List Tk} {ns : List Nd} {fl : Bool} (h : RdAt F w0 w b ts ns fl) {pb po : Nat} {v v' : Value} (hp : ¬ F pb) (hl : w0.heap.size ≤ pb) (hg : w.grownBy w1 v.ownBlock) (hv : ∀ k, v.ownBlock = some k → ¬ F k ∧ w0.heap.size ≤ k) (hG : ∀ k, k < w.heap.size → (k = pb ∨ v.ownBlock = some k) → G k) : RdTo F G w0 w (w1.setCell ⟨pb, po, none⟩ v') b ts ns fl := by
  have hk : Kept (fun k => k = pb ∨ v.ownBlock = some k) w (w1.setCell ⟨pb, po, none⟩ v') := (kept_of_grown hg (F := fun k => k = pb ∨ v.ownBlock = some k) fun k hk => .inr hk).trans (kept_set (F := fun k => k = pb ∨ v.ownBlock = some k) _ _ _ _ (.inl rfl)) fun k hk => .inl hk
  refine ⟨F, h.keep hk (fun k hf hk => ?_) (fun k hk => ?_), hk.mono fun k hl hk => .inr (hG k hl hk), fun _ h => h, fun _ h => .inl h⟩
  · rcases hk with rfl | hk
    · exact hp hf
    · exact (hv k hk).1 hf
  · rcases hk with rfl | hk
    · exact hl
    · exact (hv k hk).2
theorem RdTo.comp {F F1 G : Nat → Prop} {w0 w w1 w2 : World} {b : Nat} {ts : List Tk} {ns : List Nd} {fl : Bool} (k1 : Kept (fun k => F k ∨ G k) w w1) (i1 : ∀ k, F k → F1 k) (f1 : ∀ k, F1 k → F k ∨ w.heap.size ≤ k) (h : RdTo F1 G w0 w1 w2 b ts ns fl) : RdTo F G w0 w w2 b ts ns fl := by
  obtain ⟨F2, h2, k2, i2, f2⟩ := h
  refine ⟨F2, h2, k1.trans k2 fun k hk => ?_, fun k hk => i2 k (i1 k hk), fun k hk => ?_⟩
  · rcases hk with hk | hk
    · rcases f1 k hk with h | h
      · exact .inl (.inl h)
      · exact .inr h
    · exact .inl (.inr hk)
  · rcases f2 k hk with h | h
    · exact f1 k h
    · exact .inr (Nat.le_trans k1.size h)
/-- between two rounds. -/
structure MsI (F G F1 : Nat → Prop) (w0 w : World) (b pb : Nat) (cs : Array Value) (T : TypeId) (ns : List Nd) (fl : Bool) (ts1 : List Tk) (acc : List Mat.Mt) (sv : Value) (W : World) : Prop where
  rd : RdAt F1 w0 W b ts1 ns fl
  kept : Kept (fun k => F k ∨ G k) w W
  inc : ∀ k, F k → F1 k
  new : ∀ k, F1 k → F k ∨ w.heap.size ≤ k
  box : W.heap[pb]? = some (.cells (cs.setIfInBounds 2 sv) T)
  own : Mat.OwnM w0.heap.size W sv acc
  sep : ∀ k, sv.ownBlock = some k → w.heap.size ≤ k ∧ ¬ F1 k
theorem MsI.to {F G F1 : Nat → Prop} {w0 w : World} {b pb : Nat} {cs : Array Value} {T : TypeId} {ns : List Nd} {fl : Bool} {ts1 : List Tk} {acc : List Mat.Mt} {sv : Value} {W : World} (h : MsI F G F1 w0 w b pb cs T ns fl ts1 acc sv W) : RdTo F G w0 w W b ts1 ns fl := ⟨F1, h.rd, h.kept, h.inc, h.new⟩
/-- a call that turns nothing but the reader. -/
theorem MsI.call {F G F1 : Nat → Prop} {w0 w : World} {b pb : Nat} {cs : Array Value} {T : TypeId} {ns : List Nd} {fl : Bool} {ts1 ts2 : List Tk} {acc : List Mat.Mt} {sv : Value} {W W2 : World} {G' : Nat → Prop} (h : MsI F G F1 w0 w b pb cs T ns fl ts1 acc sv W) (hp : ¬ F pb) (hpw : pb < w.heap.size) (hr : RdTo F1 G' w0 W W2 b ts2 ns fl) (hG1 : ¬ G' pb) (hG2 : ∀ k, sv.ownBlock = some k → ¬ G' k) (hG3 : ∀ k, G' k → G k ∨ w.heap.size ≤ k) :
    ∃ F2, MsI F G F2 w0 w b pb cs T ns fl ts2 acc sv W2 := by
  obtain ⟨F2, r2, k2, i2, f2⟩ := hr
  have hpF : ¬ F1 pb := fun hf => by
    rcases h.new pb hf with e | e
    · exact hp e
    · omega
  refine ⟨F2, r2, h.kept.trans k2 fun k hk => ?_, fun k hk => i2 k (h.inc k hk), fun k hk => ?_, ?_, h.own.keep fun k hk => ?_, fun k hk => ⟨(h.sep k hk).1, fun hf => ?_⟩⟩
  · rcases hk with hk | hk
    · rcases h.new k hk with e | e
      · exact .inl (.inl e)
      · exact .inr e
    · rcases hG3 k hk with e | e
      · exact .inl (.inr e)
      · exact .inr e
  · rcases f2 k hk with e | e
    · exact h.new k e
    · exact .inr (Nat.le_trans h.kept.size e)
  · rw [k2.block pb (lt_of_block h.box) (by rintro (e | e); exact hpF e; exact hG1 e)]
    exact h.box
  · exact k2.block k (h.own.lt hk).2 (by rintro (e | e); exact (h.sep k hk).2 e; exact hG2 k hk e)
  · rcases f2 k hf with e | e
    · exact (h.sep k hk).2 e
    · have := (h.own.lt hk).2; omega
theorem MsI.below {F G F1 : Nat → Prop} {w0 w : World} {b pb : Nat} {cs : Array Value} {T : TypeId} {ns : List Nd} {fl : Bool} {ts1 : List Tk} {acc : List Mat.Mt} {sv : Value} {W W2 : World} (h : MsI F G F1 w0 w b pb cs T ns fl ts1 acc sv W) (hb : Below W.heap.size W W2) : MsI F G F1 w0 w b pb cs T ns fl ts1 acc sv W2 :=
  ⟨h.rd.below hb, h.kept.trans (F' := fun _ => False) (kept_below hb) fun _ hk => hk.elim, h.inc, h.new, (hb.block pb (lt_of_block h.box)).trans h.box, h.own.below hb, h.sep⟩
/-- one matcher more. -/
theorem MsI.push {F G F1 : Nat → Prop} {w0 w : World} {b pb : Nat} {cs : Array Value} {T : TypeId} {ns : List Nd} {fl : Bool} {ts1 : List Tk} {acc acc' : List Mat.Mt} {sv sv' : Value} {W W2 : World} (h : MsI F G F1 w0 w b pb cs T ns fl ts1 acc sv W) (hT : T ≠ 33) (hp : ¬ F pb) (hpw : pb < w.heap.size) (hg : G pb) (hl : w0.heap.size ≤ pb) (ho : Mat.OwnM w0.heap.size W2 sv' acc') (hgr : W.grownBy W2 sv.ownBlock) (hn : sv'.ownBlock = sv.ownBlock ∨ ∃ k, sv'.ownBlock = some k ∧ W.heap.size ≤ k) :
    W2.heap[pb]? = some (.cells (cs.setIfInBounds 2 sv) T) ∧ MsI F G F1 w0 w b pb cs T ns fl ts1 acc' sv' (W2.setCell ⟨pb, 2, none⟩ sv') := by
  have hpF : ¬ F1 pb := fun hf => by
    rcases h.new pb hf with e | e
    · exact hp e
    · omega
  have hpv : sv.ownBlock ≠ some pb := fun e => by
    have := (h.sep pb e).1; omega
  have hb2 : W2.heap[pb]? = some (.cells (cs.setIfInBounds 2 sv) T) := (hgr.block pb (lt_of_block h.box) (fun e => hpv e.symm)).trans h.box
  have hpv' : sv'.ownBlock ≠ some pb := fun e => by
    obtain ⟨c, hc⟩ := ownM_block ho e
    rw [hb2] at hc
    simp at hc
    exact hT hc.2
  have hk : Kept (fun k => k = pb ∨ sv.ownBlock = some k) W (W2.setCell ⟨pb, 2, none⟩ sv') := (kept_of_grown hgr (F := fun k => k = pb ∨ sv.ownBlock = some k) fun k hk => .inr hk).trans (kept_set (F := fun k => k = pb ∨ sv.ownBlock = some k) _ _ _ _ (.inl rfl)) fun k hk => .inl hk
  refine ⟨hb2, h.rd.keep hk (fun k hf hk => ?_) (fun k hk => ?_), h.kept.trans hk fun k hk => ?_, h.inc, h.new, ?_, ho.keep fun k hk => heap_set _ _ _ _ _ fun e => hpv' (e ▸ hk), fun k hk => ?_⟩
  · rcases hk with rfl | hk
    · exact hpF hf
    · exact (h.sep k hk).2 hf
  · rcases hk with rfl | hk
    · exact hl
    · exact (h.own.lt hk).1
  · rcases hk with rfl | hk
    · exact .inl (.inr hg)
    · exact .inr (h.sep k hk).1
  · rw [heap_set_at hb2, Array.setIfInBounds_setIfInBounds]
  · rcases hn with e | ⟨j, e, hj⟩
    · rw [e] at hk
      exact h.sep k hk
    · rw [e] at hk
      cases hk
      exact ⟨Nat.le_trans h.kept.size hj, fun hf => by have := h.rd.lt _ hf; omega⟩
end Go.Proofs.YtjhodmpgggaknaaGreatDoor
