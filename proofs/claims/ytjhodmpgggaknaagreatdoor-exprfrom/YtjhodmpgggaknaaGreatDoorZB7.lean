/- Contract of matchers. -/
import Derived.Test.YtjhodmpgggaknaaGreatDoorZB6
namespace Go.Proofs.YtjhodmpgggaknaaGreatDoor
open Go.RowKit Go.Shelf Go.Maps

def keysT (ts : List Tk) : List Key := ts.map Tk.key
def Suf (ts' ts : List Tk) : Prop := ∃ p, ts = p ++ ts'
theorem Suf.refl (ts : List Tk) : Suf ts ts := ⟨[], rfl⟩
theorem Suf.trans {a b c : List Tk} (h : Suf a b) (k : Suf b c) : Suf a c := by
  obtain ⟨p, rfl⟩ := h
  obtain ⟨q, rfl⟩ := k
  exact ⟨q ++ p, by simp⟩
theorem Suf.tail (ts : List Tk) : Suf ts.tail ts := by
  cases ts with
  | nil => exact ⟨[], rfl⟩
  | cons t ts => exact ⟨[t], rfl⟩
theorem Suf.rst (o : Bool) (ts : List Tk) : Suf (rst o ts) ts := by
  cases o
  · exact Suf.refl _
  · exact Suf.tail _
theorem Suf.all {a b : List Tk} (h : Suf a b) {p : Tk → Prop} (hp : ∀ t ∈ b, p t) : ∀ t ∈ a, p t := by
  obtain ⟨q, rfl⟩ := h
  exact fun t ht => hp t (List.mem_append_right _ ht)
theorem Suf.len {a b : List Tk} (h : Suf a b) : a.length ≤ b.length := by
  obtain ⟨q, rfl⟩ := h
  simp
def selQ (ks : List Key) : Option (List Mat.Mt × List Key) := match selP ks with
  | none => none
  | some p => if Mat.mayM p.1 then some p else none
def moreQ (acc : List Mat.Mt) (ks : List Key) : Option (List Mat.Mt × List Key) := match moreM acc ks with
  | none => none
  | some p => if Mat.mayM p.1 then some p else none
theorem moreM_ext2 : ∀ (n : Nat) (ts : List Key) (acc m : List Mat.Mt) (r : List Key), ts.length ≤ n → moreM acc ts = some (m, r) → ∃ k, m = acc ++ k
  | n, (k1, nm) :: (k2, o) :: (k3, v) :: y :: r0, acc, m, r, hn, h => by
    rw [moreM] at h
    split at h
    · split at h
      · cases h
      · split at h
        · cases h; exact ⟨_, rfl⟩
        · split at h
          · cases n with
            | zero => simp at hn
            | succ n =>
              obtain ⟨k, hk⟩ := moreM_ext2 n r0 _ _ _ (by simp at hn; omega) h
              exact ⟨_ :: k, by rw [hk]; simp; rfl⟩
          · cases h
    · cases h
  | _, [], _, _, _, _, h => by simp [moreM] at h
  | _, [_], _, _, _, _, h => by simp [moreM] at h
  | _, [_, _], _, _, _, _, h => by simp [moreM] at h
  | _, [_, _, _], _, _, _, _, h => by simp [moreM] at h
theorem mayM_app {a b : List Mat.Mt} (h : Mat.mayM (a ++ b) = true) : Mat.mayM a = true := by
  rw [Mat.mayM_iff] at h ⊢
  refine ⟨?_, fun x hx => h.2 x (List.mem_append_left _ hx)⟩
  have := h.1
  rw [List.length_append] at this
  omega
theorem moreQ_no {acc : List Mat.Mt} (h : Mat.mayM acc = false) (ks : List Key) : moreQ acc ks = none := by
  unfold moreQ
  cases hm : moreM acc ks with
  | none => rfl
  | some p =>
    obtain ⟨m, r⟩ := p
    obtain ⟨k, rfl⟩ := moreM_ext2 _ _ _ _ _ (Nat.le_refl _) hm
    simp only
    rw [if_neg]
    intro h2
    rw [mayM_app h2] at h
    cases h
theorem matT_none {ts : List Tk} (h : matT ts = none) (acc : List Mat.Mt) : moreQ acc (keysT ts) = none := by
  match ts, h with
  | [], _ => rfl
  | [_], _ => rfl
  | [_, _], _ => rfl
  | [_, _, _], _ => rfl
  | t1 :: t2 :: t3 :: t4 :: r, h =>
    unfold moreQ
    show (match moreM acc ((t1.kind, t1.text) :: (t2.kind, t2.text) :: (t3.kind, t3.text) :: t4.key :: keysT r) with | none => none | some p => if Mat.mayM p.1 then some p else none) = none
    rw [matT] at h
    rw [moreM]
    split at h
    · rename_i hc
      rw [if_pos hc]
      cases hp : opOf t2.text with
      | none => rfl
      | some p => rw [hp] at h; cases h
    · rename_i hc
      rw [if_neg hc]
theorem matT_some {ts r : List Tk} {m : Mat.Mt} (h : matT ts = some (m, r)) : ∃ t1 t2 t3, ts = t1 :: t2 :: t3 :: r ∧ t1.kind = 1 ∧ t2.kind = 4 ∧ t3.kind = 3 ∧ opOf t2.text = some m.2.1 ∧ m = (t1.text, m.2.1, t3.text) := by
  match ts, h with
  | t1 :: t2 :: t3 :: r0, h =>
    rw [matT] at h
    split at h
    · rename_i hc
      split at h
      · cases h
      · rename_i p hp
        cases h
        exact ⟨t1, t2, t3, rfl, hc.1, hc.2.1, hc.2.2, hp, rfl⟩
    · cases h
theorem moreQ_some {ts r : List Tk} {m : Mat.Mt} (h : matT ts = some (m, r)) (acc : List Mat.Mt) : moreQ acc (keysT ts) = (match keysT r with
    | [] => none
    | y :: r2 => if y = kBraceE then (if Mat.mayM (acc ++ [m]) then some (acc ++ [m], r2) else none) else if y = kComma then moreQ (acc ++ [m]) r2 else none) := by
  obtain ⟨t1, t2, t3, rfl, h1, h2, h3, h4, h5⟩ := matT_some h
  cases r with
  | nil => rfl
  | cons t4 r =>
    unfold moreQ
    show (match moreM acc ((t1.kind, t1.text) :: (t2.kind, t2.text) :: (t3.kind, t3.text) :: t4.key :: keysT r) with | none => none | some p => if Mat.mayM p.1 then some p else none) = _
    rw [moreM, if_pos ⟨h1, h2, h3⟩, h4]
    simp only
    rw [← h5]
    show (match (if t4.key = kBraceE then some (acc ++ [m], keysT r) else if t4.key = kComma then moreM (acc ++ [m]) (keysT r) else none) with | none => none | some p => if Mat.mayM p.1 then some p else none) = (if t4.key = kBraceE then (if Mat.mayM (acc ++ [m]) then some (acc ++ [m], keysT r) else none) else if t4.key = kComma then moreQ (acc ++ [m]) (keysT r) else none)
    by_cases hb : t4.key = kBraceE
    · rw [if_pos hb, if_pos hb]
    · rw [if_neg hb, if_neg hb]
      by_cases hc : t4.key = kComma
      · rw [if_pos hc, if_pos hc]
        rfl
      · rw [if_neg hc, if_neg hc]
theorem hd_key (k : Key) (ts : List Tk) : hd k ts = true ↔ ∃ r, keysT ts = k :: r ∧ r = keysT ts.tail := by
  cases ts with
  | nil => simp [hd, keysT]
  | cons t ts =>
    obtain ⟨a, b⟩ := k
    simp [hd, keysT, Tk.key]
theorem hd_not {k : Key} {ts : List Tk} (h : hd k ts = false) : ∀ r, keysT ts ≠ k :: r := fun r e => by
  have := (hd_key k ts).2 ⟨r, e, by cases ts with
    | nil => cases e
    | cons t ts => simp [keysT] at *; exact e.2.symm⟩
  rw [h] at this; cases this
/-- matchers' row is set. -/
theorem RdAt.grow {F G : Nat → Prop} {w0 w w1 : World} {b : Nat} {ts : List Tk} {ns : List Nd} {fl : Bool} (h : RdAt F w0 w b ts ns fl) {pb po : Nat} {v v' : Value} (hp : ¬ F pb) (hl : w0.heap.size ≤ pb) (hg : w.grownBy w1 v.ownBlock) (hv : ∀ k, v.ownBlock = some k → ¬ F k ∧ w0.heap.size ≤ k) (hG : ∀ k, k < w.heap.size → (k = pb ∨ v.ownBlock = some k) → G k) : RdTo F G w0 w (w1.setCell ⟨pb, po, none⟩ v') b ts ns fl := by
  have hk : Kept (fun k => k = pb ∨ v.ownBlock = some k) w (w1.setCell ⟨pb, po, none⟩ v') := (kept_of_grown hg (F := fun k => k = pb ∨ v.ownBlock = some k) fun k hk => .inr hk).trans (kept_set (F := fun k => k = pb ∨ v.ownBlock = some k) _ _ _ _ (.inl rfl)) fun k hk => .inl hk
  refine ⟨F, h.keep hk (fun k hf hk => ?_) (fun k hk => ?_), hk.mono fun k hl hk => .inr (hG k hl hk), fun _ h => h, fun _ h => .inl h⟩
  · rcases hk with rfl | hk
    · exact hp hf
    · exact (hv k hk).1 hf
  · rcases hk with rfl | hk
    · exact hl
    · exact (hv k hk).2
theorem RdTo.comp {F F1 G : Nat → Prop} {w0 w w1 w2 : World} {b : Nat} {ts : List Tk} {ns : List Nd} {fl : Bool} (k1 : Kept (fun k => F k ∨ G k) w w1) (i1 : ∀ k, F k → F1 k) (f1 : ∀ k, F1 k → F k ∨ w.heap.size ≤ k) (h : RdTo F1 G w0 w1 w2 b ts ns fl) : RdTo F G w0 w w2 b ts ns fl := by
  obtain ⟨F2, h2, k2, i2, f2⟩ := h
  refine ⟨F2, h2, k1.trans k2 fun k hk => ?_, fun k hk => i2 k (i1 k hk), fun k hk => ?_⟩
  · rcases hk with hk | hk
    · rcases f1 k hk with h | h
      · exact .inl (.inl h)
      · exact .inr h
    · exact .inl (.inr hk)
  · rcases f2 k hk with h | h
    · exact f1 k h
    · exact .inr (Nat.le_trans k1.size h)
theorem RdTo.fresh {F G G' : Nat → Prop} {w0 w w1 w2 : World} {b : Nat} {ts : List Tk} {ns : List Nd} {fl : Bool} (hb : Below w.heap.size w w1) (h : RdTo F G' w0 w1 w2 b ts ns fl) (hG : ∀ k, G' k → G k ∨ w.heap.size ≤ k) : RdTo F G w0 w w2 b ts ns fl := by
  obtain ⟨F2, h2, k2, i2, f2⟩ := h
  refine ⟨F2, h2, (kept_below hb).trans k2 fun k hk => ?_, i2, fun k hk => ?_⟩
  · rcases hk with hk | hk
    · exact .inl (.inl hk)
    · rcases hG k hk with h | h
      · exact .inl (.inr h)
      · exact .inr h
  · rcases f2 k hk with h | h
    · exact .inl h
    · exact .inr (Nat.le_trans hb.size h)
theorem pushM_run2 {w : World} {base : Nat} {v : Value} {l : List Mat.Mt} (hr : Mat.OwnM base w v l) (n : Tx) (o : UInt8) (x : Tx) (hn : n.length ≤ maxLen) (hx : x.length ≤ maxLen) (hl : l.length + 1 ≤ 3000000000) (hb : base ≤ w.heap.size) :
    ∃ a' c' w', (∀ ty, (Builtin.append_ #[29, 29] ty #[v, .slice (some ⟨w.heap.size, 0, none⟩) 1 1]).run Tryz.prog (w.alloc (.cells #[str n, Mat.opv o, str x] 33)) = .ok (.slice a' (l.length + 1) c') w') ∧ Mat.OwnM base w' (.slice a' (l.length + 1) c') (l ++ [(n, o, x)]) ∧ (w.alloc (.cells #[str n, Mat.opv o, str x] 33)).grownBy w' v.ownBlock ∧ ((Value.slice a' (l.length + 1) c').ownBlock = v.ownBlock ∨ (Value.slice a' (l.length + 1) c').ownBlock = some (w.heap.size + 1)) := by
  have hr' := hr.below (alloc_below w (.cells #[str n, Mat.opv o, str x] 33))
  obtain ⟨a', c', w', h1, h2, h3, h4⟩ := Mat.appM_run hr' (Mat.ownM_one w n o x hn hx).isM hl (by simp; omega)
  exact ⟨a', c', w', h1, h2, h3, by simpa using h4⟩
/-- how many tokens are left, read off memory. -/
def restLen (w : World) (b : Nat) : Nat := match w.cell? ⟨b, 0, none⟩ with
  | some (.slice _ n _) => n
  | _ => 0
theorem RdAt.restLen {F : Nat → Prop} {w0 w : World} {b : Nat} {ts : List Tk} {ns : List Nd} {fl : Bool} (h : RdAt F w0 w b ts ns fl) : Proofs.YtjhodmpgggaknaaGreatDoor.restLen w b = ts.length := by
  obtain ⟨vr, vn, z, h1, h2, _⟩ := h.cell
  obtain ⟨a, c, rfl⟩ := h2.slice
  unfold Proofs.YtjhodmpgggaknaaGreatDoor.restLen
  rw [cell_of h1]
  rfl
/-- between two rounds. -/
structure MsI (F G F1 : Nat → Prop) (w0 w : World) (b pb : Nat) (cs : Array Value) (T : TypeId) (ns : List Nd) (fl : Bool) (ts1 : List Tk) (acc : List Mat.Mt) (sv : Value) (W : World) : Prop where
  rd : RdAt F1 w0 W b ts1 ns fl
  kept : Kept (fun k => F k ∨ G k) w W
  inc : ∀ k, F k → F1 k
  new : ∀ k, F1 k → F k ∨ w.heap.size ≤ k
  box : W.heap[pb]? = some (.cells (cs.setIfInBounds 2 sv) T)
  own : Mat.OwnM w0.heap.size W sv acc
  sep : ∀ k, sv.ownBlock = some k → w.heap.size ≤ k ∧ ¬ F1 k
/-- what matchers makes: of the select's cell. -/
def SelPost (F G : Nat → Prop) (w0 w : World) (b pb : Nat) (cs : Array Value) (T : TypeId) (ts : List Tk) (ns : List Nd) (fl : Bool) (e : Ending) (w' : World) : Prop :=
  ∃ ok ts', e = .returned (.bool ok) ∧ RdTo F G w0 w w' b ts' ns fl ∧ (ok = false → (∀ r, keysT ts = kBrace :: r → selQ r = none)) ∧ (ok = true → Suf ts' ts ∧ ∃ r sel sv F1, keysT ts = kBrace :: r ∧ selQ r = some (sel, keysT ts') ∧ MsI F G F1 w0 w b pb cs T ns fl ts' sel sv w')
theorem MsI.to {F G F1 : Nat → Prop} {w0 w : World} {b pb : Nat} {cs : Array Value} {T : TypeId} {ns : List Nd} {fl : Bool} {ts1 : List Tk} {acc : List Mat.Mt} {sv : Value} {W : World} (h : MsI F G F1 w0 w b pb cs T ns fl ts1 acc sv W) : RdTo F G w0 w W b ts1 ns fl := ⟨F1, h.rd, h.kept, h.inc, h.new⟩
/-- a call that turns nothing but the reader. -/
theorem MsI.call {F G F1 : Nat → Prop} {w0 w : World} {b pb : Nat} {cs : Array Value} {T : TypeId} {ns : List Nd} {fl : Bool} {ts1 ts2 : List Tk} {acc : List Mat.Mt} {sv : Value} {W W2 : World} {G' : Nat → Prop} (h : MsI F G F1 w0 w b pb cs T ns fl ts1 acc sv W) (hp : ¬ F pb) (hpw : pb < w.heap.size) (hr : RdTo F1 G' w0 W W2 b ts2 ns fl) (hG1 : ¬ G' pb) (hG2 : ∀ k, sv.ownBlock = some k → ¬ G' k) (hG3 : ∀ k, G' k → G k ∨ w.heap.size ≤ k) :
    ∃ F2, MsI F G F2 w0 w b pb cs T ns fl ts2 acc sv W2 := by
  obtain ⟨F2, r2, k2, i2, f2⟩ := hr
  have hpF : ¬ F1 pb := fun hf => by
    rcases h.new pb hf with e | e
    · exact hp e
    · omega
  refine ⟨F2, r2, h.kept.trans k2 fun k hk => ?_, fun k hk => i2 k (h.inc k hk), fun k hk => ?_, ?_, h.own.keep fun k hk => ?_, fun k hk => ⟨(h.sep k hk).1, fun hf => ?_⟩⟩
  · rcases hk with hk | hk
    · rcases h.new k hk with e | e
      · exact .inl (.inl e)
      · exact .inr e
    · rcases hG3 k hk with e | e
      · exact .inl (.inr e)
      · exact .inr e
  · rcases f2 k hk with e | e
    · exact h.new k e
    · exact .inr (Nat.le_trans h.kept.size e)
  · rw [k2.block pb (lt_of_block h.box) (by rintro (e | e); exact hpF e; exact hG1 e)]
    exact h.box
  · exact k2.block k (h.own.lt hk).2 (by rintro (e | e); exact (h.sep k hk).2 e; exact hG2 k hk e)
  · rcases f2 k hf with e | e
    · exact (h.sep k hk).2 e
    · have := (h.own.lt hk).2; omega
theorem MsI.below {F G F1 : Nat → Prop} {w0 w : World} {b pb : Nat} {cs : Array Value} {T : TypeId} {ns : List Nd} {fl : Bool} {ts1 : List Tk} {acc : List Mat.Mt} {sv : Value} {W W2 : World} (h : MsI F G F1 w0 w b pb cs T ns fl ts1 acc sv W) (hb : Below W.heap.size W W2) : MsI F G F1 w0 w b pb cs T ns fl ts1 acc sv W2 :=
  ⟨h.rd.below hb, h.kept.trans (F' := fun _ => False) (kept_below hb) fun _ hk => hk.elim, h.inc, h.new, (hb.block pb (lt_of_block h.box)).trans h.box, h.own.below hb, h.sep⟩
/-- one matcher more. -/
theorem MsI.push {F G F1 : Nat → Prop} {w0 w : World} {b pb : Nat} {cs : Array Value} {T : TypeId} {ns : List Nd} {fl : Bool} {ts1 : List Tk} {acc acc' : List Mat.Mt} {sv sv' : Value} {W W2 : World} (h : MsI F G F1 w0 w b pb cs T ns fl ts1 acc sv W) (hT : T ≠ 33) (hp : ¬ F pb) (hpw : pb < w.heap.size) (hg : G pb) (hl : w0.heap.size ≤ pb) (ho : Mat.OwnM w0.heap.size W2 sv' acc') (hgr : W.grownBy W2 sv.ownBlock) (hn : sv'.ownBlock = sv.ownBlock ∨ ∃ k, sv'.ownBlock = some k ∧ W.heap.size ≤ k) :
    W2.heap[pb]? = some (.cells (cs.setIfInBounds 2 sv) T) ∧ MsI F G F1 w0 w b pb cs T ns fl ts1 acc' sv' (W2.setCell ⟨pb, 2, none⟩ sv') := by
  have hpF : ¬ F1 pb := fun hf => by
    rcases h.new pb hf with e | e
    · exact hp e
    · omega
  have hpv : sv.ownBlock ≠ some pb := fun e => by
    have := (h.sep pb e).1; omega
  have hb2 : W2.heap[pb]? = some (.cells (cs.setIfInBounds 2 sv) T) := (hgr.block pb (lt_of_block h.box) (fun e => hpv e.symm)).trans h.box
  have hpv' : sv'.ownBlock ≠ some pb := fun e => by
    obtain ⟨c, hc⟩ := ownM_block ho e
    rw [hb2] at hc
    simp at hc
    exact hT hc.2
  have hk : Kept (fun k => k = pb ∨ sv.ownBlock = some k) W (W2.setCell ⟨pb, 2, none⟩ sv') := (kept_of_grown hgr (F := fun k => k = pb ∨ sv.ownBlock = some k) fun k hk => .inr hk).trans (kept_set (F := fun k => k = pb ∨ sv.ownBlock = some k) _ _ _ _ (.inl rfl)) fun k hk => .inl hk
  refine ⟨hb2, h.rd.keep hk (fun k hf hk => ?_) (fun k hk => ?_), h.kept.trans hk fun k hk => ?_, h.inc, h.new, ?_, ho.keep fun k hk => heap_set _ _ _ _ _ fun e => hpv' (e ▸ hk), fun k hk => ?_⟩
  · rcases hk with rfl | hk
    · exact hpF hf
    · exact (h.sep k hk).2 hf
  · rcases hk with rfl | hk
    · exact hl
    · exact (h.own.lt hk).1
  · rcases hk with rfl | hk
    · exact .inl (.inr hg)
    · exact .inr (h.sep k hk).1
  · rw [heap_set_at hb2, Array.setIfInBounds_setIfInBounds]
  · rcases hn with e | ⟨j, e, hj⟩
    · rw [e] at hk
      exact h.sep k hk
    · rw [e] at hk
      cases hk
      exact ⟨Nat.le_trans h.kept.size hj, fun hf => by have := h.rd.lt _ hf; omega⟩
end Go.Proofs.YtjhodmpgggaknaaGreatDoor
