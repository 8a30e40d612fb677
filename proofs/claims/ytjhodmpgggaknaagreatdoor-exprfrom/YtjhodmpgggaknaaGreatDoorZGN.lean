/- Joined: B16 B17 B18. -/
import Derived.Test.YtjhodmpgggaknaaGreatDoorZB15
import Derived.Test.YtjhodmpgggaknaaGreatDoorZGI
import Derived.Test.YtjhodmpgggaknaaGreatDoorZGB
/- Contract of read. -/
namespace Go.Proofs.YtjhodmpgggaknaaGreatDoor
open Go.RowKit Go.Shelf Go.Maps

theorem rows_any {w0 : World} {b rb wb : Nat} (hE : EnvE w0) (hO : EnvO w0) : ∀ (n : Nat) (F : Nat → Prop) (w : World) (ts : List Tk) (ns : List Nd) (fl : Bool), ts.length < n → (∀ t ∈ ts, t.text.length ≤ 4096) → RdAt F w0 w b ts ns fl → RowEnv F w b rb wb → Calls Tryz.prog 41 #[.int .i64 0, .pointer (some ⟨rb, 0, none⟩), .pointer (some ⟨wb, 0, none⟩)] w (RowPost .or F w0 w b ts ns fl)
  | 0, _, _, _, _, _, h, _, _, _ => absurd h (Nat.not_lt_zero _)
  | n + 1, _, _, _, _, _, hn, hsm, h, he => rowA_any h he hO fun _ _ _ _ _ hs h1 he1 => rowB_any h1 he1 hO fun _ _ _ _ _ hs2 h2 he2 => row2_any h2 he2 hE (hs2.all (hs.all hsm)) fun {_} {_} {_} hlt hs3 h3 he3 =>
    rows_any hE hO n _ _ _ _ _ (by have := hs.len; have := hs2.len; omega) (hs3.all (hs2.all (hs.all hsm))) h3 he3
@[go_sem] theorem run_store_func (P : Program) (w : World) (a : Addr) (f : Fn) (x y : Array Value) (m : Mode) : (store a (.func f x y) m).run P w = stored P w a (.func f x y) m := run_store P w a _ m rfl
def codeOf (fl : Bool) : Int := if fl then 4 else 0
def ReadPost (w : World) (ts : List Tk) (e : Ending) (w' : World) : Prop :=
  ∃ b code ts' ns' fl' F', e = .returned (.tuple #[ptr b, .int .i64 code]) ∧ RdAt F' w w' b ts' ns' fl' ∧ (pE .or (keysT ts) = none → code = 100) ∧ (∀ t r, pE .or (keysT ts) = some (t, r) → r = keysT ts' ∧ Suf ts' ts ∧ ns' = (addT ([], false, 0) t).1 ∧ fl' = (addT ([], false, 0) t).2.1 ∧ code = codeOf fl')
set_option maxRecDepth 100000 in
set_option maxHeartbeats 4000000 in
theorem read_any {w : World} {v : Value} {ts : List Tk} (h : IsTs w v ts) (hE : EnvE w) (hO : EnvO w) (hsm : ∀ t ∈ ts, t.text.length ≤ 4096) :
    Calls Tryz.prog 23 #[v] w (ReadPost w ts) := by
  obtain ⟨a, c, rfl⟩ := h.slice
  have hrows := hid (fun b rb wb => rows_any (b := b) (rb := rb) (wb := wb) hE hO (ts.length + 1))
  have hb1 : ∀ (T1 T2 : TypeId), Below w.heap.size w (((w.alloc (.cells #[.slice a ts.length c, .slice none 0 0, .bool false] 59)).alloc (.cells #[.pointer (some ⟨w.heap.size, 0, none⟩)] T1)).alloc (.cells #[rowv (w.heap.size + 1) (w.heap.size + 1 + 1)] T2)) := fun T1 T2 => (alloc_below w _).trans ((alloc_below _ _).mono (by simp) |>.trans ((alloc_below _ _).mono (by simp; omega)))
  have e1 : ∀ (T1 T2 : TypeId), (((w.alloc (.cells #[.slice a ts.length c, .slice none 0 0, .bool false] 59)).alloc (.cells #[.pointer (some ⟨w.heap.size, 0, none⟩)] T1)).alloc (.cells #[rowv (w.heap.size + 1) (w.heap.size + 1 + 1)] T2)).heap[w.heap.size + 1 + 1]? = some (.cells #[rowv (w.heap.size + 1) (w.heap.size + 1 + 1)] T2) := fun T1 T2 => by
    have := new_block ((w.alloc (.cells #[.slice a ts.length c, .slice none 0 0, .bool false] 59)).alloc (.cells #[.pointer (some ⟨w.heap.size, 0, none⟩)] T1)) (.cells #[rowv (w.heap.size + 1) (w.heap.size + 1 + 1)] T2)
    simpa using this
  have e2 : ∀ (T1 T2 : TypeId), (((w.alloc (.cells #[.slice a ts.length c, .slice none 0 0, .bool false] 59)).alloc (.cells #[.pointer (some ⟨w.heap.size, 0, none⟩)] T1)).alloc (.cells #[rowv (w.heap.size + 1) (w.heap.size + 1 + 1)] T2)).heap[w.heap.size + 1]? = some (.cells #[.pointer (some ⟨w.heap.size, 0, none⟩)] T1) := fun T1 T2 => by
    have := new_block (w.alloc (.cells #[.slice a ts.length c, .slice none 0 0, .bool false] 59)) (.cells #[.pointer (some ⟨w.heap.size, 0, none⟩)] T1)
    rw [(alloc_below _ _).block _ (by simp)]
    simpa using this
  have e3 : ∀ (T1 T2 : TypeId), (((w.alloc (.cells #[.slice a ts.length c, .slice none 0 0, .bool false] 59)).alloc (.cells #[.pointer (some ⟨w.heap.size, 0, none⟩)] T1)).alloc (.cells #[rowv (w.heap.size + 1) (w.heap.size + 1 + 1)] T2)).heap[w.heap.size]? = some (.cells #[.slice a ts.length c, .slice none 0 0, .bool false] 59) := fun T1 T2 => by
    rw [(alloc_below _ _).block _ (by simp; omega), (alloc_below _ _).block _ (by simp)]
    exact new_block w _
  have c2 : ∀ (T1 T2 : TypeId), (((w.alloc (.cells #[.slice a ts.length c, .slice none 0 0, .bool false] 59)).alloc (.cells #[.pointer (some ⟨w.heap.size, 0, none⟩)] T1)).alloc (.cells #[rowv (w.heap.size + 1) (w.heap.size + 1 + 1)] T2)).cell? ⟨w.heap.size + 1 + 1, 0, none⟩ = some (rowv (w.heap.size + 1) (w.heap.size + 1 + 1)) := fun T1 T2 => by rw [cell_of (e1 T1 T2)]; rfl
  have key : Hid (∀ (T1 T2 : TypeId), RdAt (fun k => k = w.heap.size) w (((w.alloc (.cells #[.slice a ts.length c, .slice none 0 0, .bool false] 59)).alloc (.cells #[.pointer (some ⟨w.heap.size, 0, none⟩)] T1)).alloc (.cells #[rowv (w.heap.size + 1) (w.heap.size + 1 + 1)] T2)) w.heap.size ts [] false ∧ RowEnv (fun k => k = w.heap.size) (((w.alloc (.cells #[.slice a ts.length c, .slice none 0 0, .bool false] 59)).alloc (.cells #[.pointer (some ⟨w.heap.size, 0, none⟩)] T1)).alloc (.cells #[rowv (w.heap.size + 1) (w.heap.size + 1 + 1)] T2)) w.heap.size (w.heap.size + 1) (w.heap.size + 1 + 1)) := fun T1 T2 =>
    ⟨⟨hb1 T1 T2, fun k hk => by omega, fun k hk => by simp; omega, rfl, ⟨_, _, [], e3 T1 T2, h, rfl, ownZ_nil _ _, (fun p hp => by cases hp), (fun k hk => by cases hk), fun p hp => by cases hp⟩, by simp⟩,
     ⟨by rw [cell_of (e2 T1 T2)]; rfl, c2 T1 T2, by omega, by omega⟩⟩
  clear h hE hO hb1 e1 e2 e3
  have hmf : ∀ (fn : Fn) (first cap : Array Value) (w : World), (Instr.makeFunc fn first cap).run Tryz.prog w = .ok (.func fn first cap) w := fun _ _ _ _ => rfl
  unfold rowv at *
  go_enter Tryz.func23, Tryz.ntmps23
  go_wp2_with fail
  obtain ⟨k1, k2⟩ := key.out 55 78
  have hro := hid (hrows.out _ _ _ _ _ ts [] false (Nat.lt_succ_self _) hsm k1 k2)
  have hI := hid (RowI.start k1 k2)
  clear k1 k2 key hrows
  refine hro.out.mono ?_
  rintro e w1 ⟨ts', root, ok, rfl, h1, h2⟩
  clear hro c2
  cases ok
  · obtain ⟨⟨ns', fl', r1⟩, hc⟩ := h1 rfl
    obtain ⟨F1, hJ⟩ := hI.out.call r1
    have d1 := hJ.env.c1
    unfold ptr at d1
    replace hJ := hid hJ
    replace hc := hid hc
    clear h1 h2 r1 hI
    go_wp2
    go_ret2
    exact ⟨w.heap.size, 100, ts', ns', fl', F1, rfl, hJ.out.rd, fun _ => rfl, fun t r e => by rw [hc.out] at e; cases e⟩
  · obtain ⟨t, hc, hs, r1, -⟩ := h2 rfl
    obtain ⟨F1, hJ⟩ := hI.out.call r1
    have d1 := hJ.env.c1
    unfold ptr at d1
    obtain ⟨vr, vn, z, hx, -⟩ := hJ.rd.cell
    have d2 : w1.cell? ⟨w.heap.size, 2, none⟩ = some (.bool (addT ([], false, 0) t).2.1) := by rw [cell_of hx]; rfl
    have hfin : Hid (ReadPost w ts (.returned (.tuple #[ptr w.heap.size, .int .i64 (codeOf (addT ([], false, 0) t).2.1)])) w1) := ⟨w.heap.size, _, ts', _, _, F1, rfl, hJ.rd, (fun e => by rw [hc] at e; cases e), fun t' r e => by rw [hc] at e; cases e; exact ⟨rfl, hs, rfl, rfl, rfl⟩⟩
    clear h1 h2 r1 hI hJ hx hc hs
    cases hfl : (addT ([], false, 0) t).2.1
    all_goals
      rw [hfl] at d2 hfin
      unfold ptr at hfin
      go_wp2
      go_ret2
      exact hfin.out
end Go.Proofs.YtjhodmpgggaknaaGreatDoor
/- Contracts of Read and Parse. -/
namespace Go.Proofs.YtjhodmpgggaknaaGreatDoor
open Go.RowKit Go.Shelf Go.Maps

/-- what reading tells: nodes, what is left, an error. -/
def outP (ks : List Key) : List Nd × List Key × Int := match pE .or ks with
  | none => ([], [], 100)
  | some (t, r) => if t.size ≤ 31 then (flat 0 t, r, 0) else ([], r, 4)
def readR (l : List Tk) (at_ : Int) : List Nd × Int × Int :=
  if at_ < 0 ∨ (l.length : Int) < at_ then ([], 0, 100) else
    if (outP (keysT (l.drop at_.toNat))).2.2 = 0 then ((outP (keysT (l.drop at_.toNat))).1, (l.length : Int) - ((outP (keysT (l.drop at_.toNat))).2.1.length : Int), 0) else ([], 0, (outP (keysT (l.drop at_.toNat))).2.2)
/-- what read's answer says. -/
theorem ReadPost.out {w w' : World} {ts : List Tk} {e : Ending} (h : ReadPost w ts e w') : ∃ b ts' ns' fl' F', e = .returned (.tuple #[ptr b, .int .i64 (outP (keysT ts)).2.2]) ∧ RdAt F' w w' b ts' ns' fl' ∧ ((outP (keysT ts)).2.2 = 0 → ns' = (outP (keysT ts)).1) ∧ ((outP (keysT ts)).2.2 ≠ 100 → ts'.length = (outP (keysT ts)).2.1.length ∧ ts'.length ≤ ts.length) ∧ ((outP (keysT ts)).2.2 = 0 ∨ (outP (keysT ts)).2.2 = 4 ∨ (outP (keysT ts)).2.2 = 100) := by
  obtain ⟨b, code, ts', ns', fl', F', rfl, h1, h2, h3⟩ := h
  unfold outP
  cases hp : pE .or (keysT ts) with
  | none =>
    obtain rfl := h2 hp
    exact ⟨b, ts', ns', fl', F', rfl, h1, (fun e => by cases e), (fun e => absurd rfl e), .inr (.inr rfl)⟩
  | some q =>
    obtain ⟨t, r⟩ := q
    obtain ⟨rfl, hs, rfl, rfl, rfl⟩ := h3 t r hp
    have hl : (keysT ts').length = ts'.length := by simp [keysT]
    simp only
    by_cases hz : t.size ≤ 31
    · have hf := addT_fits t ([], false, 0) (by simpa using hz)
      rw [if_pos hz]
      refine ⟨b, ts', _, _, F', ?_, h1, fun _ => ?_, fun _ => ⟨by simp [hl], hs.len⟩, .inl rfl⟩
      · rw [hf]; rfl
      · rw [hf]; simp
    · have hf := addT_over t ([], false, 0) (by simp) (by simp; omega)
      rw [if_neg hz]
      refine ⟨b, ts', _, _, F', ?_, h1, (fun e => by cases e), fun _ => ⟨by simp [hl], hs.len⟩, .inr (.inl rfl)⟩
      rw [hf]; rfl
set_option maxRecDepth 100000 in
set_option maxHeartbeats 4000000 in
theorem Read_any {w : World} {v : Value} {l : List Tk} (h : IsTs w v l) (hE : EnvE w) (hO : EnvO w) (hsm : ∀ t ∈ l, t.text.length ≤ 4096) (at_ : Int) :
    Calls Tryz.prog 20 #[v, .int .i64 at_] w fun e w' => ∃ vn, e = .returned (.tuple #[vn, .int .i64 (readR l at_).2.1, .int .i64 (readR l at_).2.2]) ∧ OwnN w.heap.size w' vn (readR l at_).1 ∧ Below w.heap.size w w' := by
  obtain ⟨a, c, rfl⟩ := h.slice
  obtain ⟨-, hb1, hb2⟩ := h.bound
  by_cases h1 : at_ < 0
  · have hr : Hid (readR l at_ = ([], 0, 100)) := by show _ = _; unfold readR; rw [if_pos (.inl h1)]
    clear h hE hO hsm
    go_enter Tryz.func20, Tryz.ntmps20
    go_wp2
    go_ret3
    rw [hr.out]
    exact ⟨_, rfl, ownN_nil _ _, Below.refl _ _⟩
  · by_cases h2 : (l.length : Int) < at_
    · have hr : Hid (readR l at_ = ([], 0, 100)) := by show _ = _; unfold readR; rw [if_pos (.inr h2)]
      clear h hE hO hsm
      go_enter Tryz.func20, Tryz.ntmps20
      go_wp2
      go_ret3
      rw [hr.out]
      exact ⟨_, rfl, ownN_nil _ _, Below.refl _ _⟩
    · obtain ⟨n, rfl⟩ : ∃ n : Nat, at_ = n := ⟨at_.toNat, by omega⟩
      have hr : Hid (readR l n = if (outP (keysT (l.drop n))).2.2 = 0 then ((outP (keysT (l.drop n))).1, (l.length : Int) - ((outP (keysT (l.drop n))).2.1.length : Int), 0) else ([], 0, (outP (keysT (l.drop n))).2.2)) := by
        show _ = _; unfold readR; rw [if_neg (by omega)]; rfl
      have hcall := hid (fun (v' : Value) (hv : IsTs w v' (l.drop n)) => (read_any hv hE hO (fun t ht => hsm t (List.mem_of_mem_drop ht))).mono fun _ _ => ReadPost.out)
      have hcode : Hid ((outP (keysT (l.drop n))).2.2 = 0 ∨ (outP (keysT (l.drop n))).2.2 = 4 ∨ (outP (keysT (l.drop n))).2.2 = 100) := by
        show _ ∨ _
        unfold outP
        split
        · exact .inr (.inr rfl)
        · split
          · exact .inl rfl
          · exact .inr (.inl rfl)
      have hn : (n : Int) ≤ l.length := by omega
      have hn0 : (n : Int) ≤ c := by omega
      have hdl : (l.drop n).length = l.length - n := by simp
      have ho : Hid (∃ o, outP (keysT (l.drop n)) = o) := ⟨_, rfl⟩
      clear hE hO hsm
      generalize outP (keysT (l.drop n)) = o at *
      cases a with
      | none =>
        have hnil : l = [] := by
          cases l with
          | nil => rfl
          | cons t l =>
            obtain ⟨b, off, e, _⟩ := h.at (k := 0) (by simp)
            cases e
        have hv : Hid (IsTs w (.slice none (l.length - n) (c - n)) (l.drop n)) := by
          have e1 : l.length - n = 0 := by rw [hnil]; simp
          rw [e1, show l.drop n = [] by rw [hnil]; simp]
          exact isTs_nil _ _ _ (by unfold maxLen; omega)
        replace hcall := hid (hcall.out _ hv.out)
        clear hnil hv
        go_enter Tryz.func20, Tryz.ntmps20
        go_wp2_with fail
        refine hcall.out.mono ?_
        rintro e w1 ⟨b, ts', ns', fl', F', rfl, hrd, hns, hlen, -⟩
        rcases hcode.out with h0 | h0 | h0
        · rw [h0] at hns hlen
          have e1 := hns rfl
          have e2 := (hlen (by decide)).1
          have e3 := (hlen (by decide)).2
          obtain ⟨vr, vn, hx, hy, hz⟩ := hrd.nodes
          obtain ⟨a1, c1, rfl⟩ := hy.slice
          obtain ⟨a2, c2, rfl⟩ := hz.slice
          have x0 : w1.cell? ⟨b, 0, none⟩ = some (.slice a1 ts'.length c1) := by rw [cell_of hx]; rfl
          have x1 : w1.cell? ⟨b, 1, none⟩ = some (.slice a2 ns'.length c2) := by rw [cell_of hx]; rfl
          have hfin : Hid (∃ vn, Ending.returned (.tuple #[.slice a2 ns'.length c2, .int .i64 (IntKind.i64.wrap ((l.length : Int) - (ts'.length : Int))), .int .i64 0]) = Ending.returned (.tuple #[vn, .int .i64 (readR l n).2.1, .int .i64 (readR l n).2.2]) ∧ OwnN w.heap.size w1 vn (readR l n).1 ∧ Below w.heap.size w w1) := by
            show ∃ _, _
            rw [hr.out, if_pos h0]
            have hwr : IntKind.i64.wrap ((l.length : Int) - (ts'.length : Int)) = (l.length : Int) - (ts'.length : Int) := by rw [IntKind.wrap_i64]; omega
            exact ⟨_, by rw [hwr, e2], by rw [← e1]; exact hz, hrd.low⟩
          have hsz : (ts'.length : Int) ≤ l.length := by omega
          rw [h0]
          clear hrd hns hlen hx hy hz hcall hr e1 e2 e3
          unfold ptr
          go_wp2_with fail
          go_region_held3 (fun w' => w'.cell? ⟨b, 0, none⟩ = some (.slice a1 ts'.length c1) ∧ w'.cell? ⟨b, 1, none⟩ = some (.slice a2 ns'.length c2)) (go_keep) (fail)
          all_goals
            go_wp2
            go_ret3
            obtain ⟨k1, k2, k3, k4⟩ := hfin.out
            exact ⟨k1, k2, by first | exact k3 | exact k3.below (below_drew (Below.refl _ _)) | exact k3.below (below_drewN (Below.refl _ _)), by first | exact k4 | exact k4.trans ((below_drew (Below.refl _ _)).mono k4.size) | exact k4.trans ((below_drewN (Below.refl _ _)).mono k4.size)⟩
        · have hfin : Hid (∃ vn, Ending.returned (.tuple #[.slice none 0 0, .int .i64 0, .int .i64 4]) = Ending.returned (.tuple #[vn, .int .i64 (readR l n).2.1, .int .i64 (readR l n).2.2]) ∧ OwnN w.heap.size w1 vn (readR l n).1 ∧ Below w.heap.size w w1) := by
            show ∃ _, _
            rw [hr.out, if_neg (by rw [h0]; decide), h0]
            exact ⟨_, rfl, ownN_nil _ _, hrd.low⟩
          rw [h0]
          clear hrd hns hlen hcall hr
          unfold ptr
          go_wp2
          go_ret3
          exact hfin.out
        · have hfin : Hid (∃ vn, Ending.returned (.tuple #[.slice none 0 0, .int .i64 0, .int .i64 100]) = Ending.returned (.tuple #[vn, .int .i64 (readR l n).2.1, .int .i64 (readR l n).2.2]) ∧ OwnN w.heap.size w1 vn (readR l n).1 ∧ Below w.heap.size w w1) := by
            show ∃ _, _
            rw [hr.out, if_neg (by rw [h0]; decide), h0]
            exact ⟨_, rfl, ownN_nil _ _, hrd.low⟩
          rw [h0]
          clear hrd hns hlen hcall hr
          unfold ptr
          go_wp2
          go_ret3
          exact hfin.out
      | some ad =>
        by_cases hc : n = c
        · have hv : Hid (IsTs w (.slice (some ad) 0 0) (l.drop n)) := by
            rw [show l.drop n = [] from List.drop_eq_nil_of_le (by omega)]
            exact isTs_nil _ _ _ (by simp)
          replace hcall := hid (hcall.out _ hv.out)
          have hc0 : decide ((c : Int) < 0) = false := by simp
          clear hv
          go_enter Tryz.func20, Tryz.ntmps20
          go_wp2_with fail
          refine hcall.out.mono ?_
          rintro e w1 ⟨b, ts', ns', fl', F', rfl, hrd, hns, hlen, -⟩
          rcases hcode.out with h0 | h0 | h0
          · rw [h0] at hns hlen
            have e1 := hns rfl
            have e2 := (hlen (by decide)).1
            have e3 := (hlen (by decide)).2
            obtain ⟨vr, vn, hx, hy, hz⟩ := hrd.nodes
            obtain ⟨a1, c1, rfl⟩ := hy.slice
            obtain ⟨a2, c2, rfl⟩ := hz.slice
            have x0 : w1.cell? ⟨b, 0, none⟩ = some (.slice a1 ts'.length c1) := by rw [cell_of hx]; rfl
            have x1 : w1.cell? ⟨b, 1, none⟩ = some (.slice a2 ns'.length c2) := by rw [cell_of hx]; rfl
            have hfin : Hid (∃ vn, Ending.returned (.tuple #[.slice a2 ns'.length c2, .int .i64 (IntKind.i64.wrap ((l.length : Int) - (ts'.length : Int))), .int .i64 0]) = Ending.returned (.tuple #[vn, .int .i64 (readR l n).2.1, .int .i64 (readR l n).2.2]) ∧ OwnN w.heap.size w1 vn (readR l n).1 ∧ Below w.heap.size w w1) := by
              show ∃ _, _
              rw [hr.out, if_pos h0]
              have hwr : IntKind.i64.wrap ((l.length : Int) - (ts'.length : Int)) = (l.length : Int) - (ts'.length : Int) := by rw [IntKind.wrap_i64]; omega
              exact ⟨_, by rw [hwr, e2], by rw [← e1]; exact hz, hrd.low⟩
            have hsz : (ts'.length : Int) ≤ l.length := by omega
            rw [h0]
            clear hrd hns hlen hx hy hz hcall hr e1 e2 e3
            unfold ptr
            go_wp2_with fail
            go_region_held3 (fun w' => w'.cell? ⟨b, 0, none⟩ = some (.slice a1 ts'.length c1) ∧ w'.cell? ⟨b, 1, none⟩ = some (.slice a2 ns'.length c2)) (go_keep) (fail)
            all_goals
              go_wp2
              go_ret3
              obtain ⟨k1, k2, k3, k4⟩ := hfin.out
              exact ⟨k1, k2, by first | exact k3 | exact k3.below (below_drew (Below.refl _ _)) | exact k3.below (below_drewN (Below.refl _ _)), by first | exact k4 | exact k4.trans ((below_drew (Below.refl _ _)).mono k4.size) | exact k4.trans ((below_drewN (Below.refl _ _)).mono k4.size)⟩
          · have hfin : Hid (∃ vn, Ending.returned (.tuple #[.slice none 0 0, .int .i64 0, .int .i64 4]) = Ending.returned (.tuple #[vn, .int .i64 (readR l n).2.1, .int .i64 (readR l n).2.2]) ∧ OwnN w.heap.size w1 vn (readR l n).1 ∧ Below w.heap.size w w1) := by
              show ∃ _, _
              rw [hr.out, if_neg (by rw [h0]; decide), h0]
              exact ⟨_, rfl, ownN_nil _ _, hrd.low⟩
            rw [h0]
            clear hrd hns hlen hcall hr
            unfold ptr
            go_wp2
            go_ret3
            exact hfin.out
          · have hfin : Hid (∃ vn, Ending.returned (.tuple #[.slice none 0 0, .int .i64 0, .int .i64 100]) = Ending.returned (.tuple #[vn, .int .i64 (readR l n).2.1, .int .i64 (readR l n).2.2]) ∧ OwnN w.heap.size w1 vn (readR l n).1 ∧ Below w.heap.size w w1) := by
              show ∃ _, _
              rw [hr.out, if_neg (by rw [h0]; decide), h0]
              exact ⟨_, rfl, ownN_nil _ _, hrd.low⟩
            rw [h0]
            clear hrd hns hlen hcall hr
            unfold ptr
            go_wp2
            go_ret3
            exact hfin.out
        · have hv : Hid (IsTs w (.slice (some (ad.add (n * 3))) (l.length - n) (c - n)) (l.drop n)) := by
            by_cases hl : l = []
            · rw [show l.length - n = 0 by rw [hl]; simp, show l.drop n = [] by rw [hl]; simp]
              exact isTs_nil _ _ _ (by unfold maxLen; omega)
            · obtain ⟨b, off, e, _⟩ := h.at (k := 0) (List.length_pos_iff.2 hl)
              cases e
              have := h.part n l.length (by omega) (Nat.le_refl _) (l.length - n) (c - n) rfl (by omega) (by unfold maxLen; omega)
              rw [List.take_of_length_le (by simp)] at this
              show IsTs _ _ _
              rw [Addr.add_lit]
              exact this
          replace hcall := hid (hcall.out _ hv.out)
          clear hv
          go_enter Tryz.func20, Tryz.ntmps20
          go_wp2_with fail
          refine hcall.out.mono ?_
          rintro e w1 ⟨b, ts', ns', fl', F', rfl, hrd, hns, hlen, -⟩
          rcases hcode.out with h0 | h0 | h0
          · rw [h0] at hns hlen
            have e1 := hns rfl
            have e2 := (hlen (by decide)).1
            have e3 := (hlen (by decide)).2
            obtain ⟨vr, vn, hx, hy, hz⟩ := hrd.nodes
            obtain ⟨a1, c1, rfl⟩ := hy.slice
            obtain ⟨a2, c2, rfl⟩ := hz.slice
            have x0 : w1.cell? ⟨b, 0, none⟩ = some (.slice a1 ts'.length c1) := by rw [cell_of hx]; rfl
            have x1 : w1.cell? ⟨b, 1, none⟩ = some (.slice a2 ns'.length c2) := by rw [cell_of hx]; rfl
            have hfin : Hid (∃ vn, Ending.returned (.tuple #[.slice a2 ns'.length c2, .int .i64 (IntKind.i64.wrap ((l.length : Int) - (ts'.length : Int))), .int .i64 0]) = Ending.returned (.tuple #[vn, .int .i64 (readR l n).2.1, .int .i64 (readR l n).2.2]) ∧ OwnN w.heap.size w1 vn (readR l n).1 ∧ Below w.heap.size w w1) := by
              show ∃ _, _
              rw [hr.out, if_pos h0]
              have hwr : IntKind.i64.wrap ((l.length : Int) - (ts'.length : Int)) = (l.length : Int) - (ts'.length : Int) := by rw [IntKind.wrap_i64]; omega
              exact ⟨_, by rw [hwr, e2], by rw [← e1]; exact hz, hrd.low⟩
            have hsz : (ts'.length : Int) ≤ l.length := by omega
            rw [h0]
            clear hrd hns hlen hx hy hz hcall hr e1 e2 e3
            unfold ptr
            go_wp2_with fail
            go_region_held3 (fun w' => w'.cell? ⟨b, 0, none⟩ = some (.slice a1 ts'.length c1) ∧ w'.cell? ⟨b, 1, none⟩ = some (.slice a2 ns'.length c2)) (go_keep) (fail)
            all_goals
              go_wp2
              go_ret3
              obtain ⟨k1, k2, k3, k4⟩ := hfin.out
              exact ⟨k1, k2, by first | exact k3 | exact k3.below (below_drew (Below.refl _ _)) | exact k3.below (below_drewN (Below.refl _ _)), by first | exact k4 | exact k4.trans ((below_drew (Below.refl _ _)).mono k4.size) | exact k4.trans ((below_drewN (Below.refl _ _)).mono k4.size)⟩
          · have hfin : Hid (∃ vn, Ending.returned (.tuple #[.slice none 0 0, .int .i64 0, .int .i64 4]) = Ending.returned (.tuple #[vn, .int .i64 (readR l n).2.1, .int .i64 (readR l n).2.2]) ∧ OwnN w.heap.size w1 vn (readR l n).1 ∧ Below w.heap.size w w1) := by
              show ∃ _, _
              rw [hr.out, if_neg (by rw [h0]; decide), h0]
              exact ⟨_, rfl, ownN_nil _ _, hrd.low⟩
            rw [h0]
            clear hrd hns hlen hcall hr
            unfold ptr
            go_wp2
            go_ret3
            exact hfin.out
          · have hfin : Hid (∃ vn, Ending.returned (.tuple #[.slice none 0 0, .int .i64 0, .int .i64 100]) = Ending.returned (.tuple #[vn, .int .i64 (readR l n).2.1, .int .i64 (readR l n).2.2]) ∧ OwnN w.heap.size w1 vn (readR l n).1 ∧ Below w.heap.size w w1) := by
              show ∃ _, _
              rw [hr.out, if_neg (by rw [h0]; decide), h0]
              exact ⟨_, rfl, ownN_nil _ _, hrd.low⟩
            rw [h0]
            clear hrd hns hlen hcall hr
            unfold ptr
            go_wp2
            go_ret3
            exact hfin.out
end Go.Proofs.YtjhodmpgggaknaaGreatDoor
/- Contract of Parse. -/
namespace Go.Proofs.YtjhodmpgggaknaaGreatDoor
open Go.RowKit Go.Shelf Go.Maps

def tksOf (s : Tx) : List Tk := (scanF (s.length + 1) 0 s).1
def badOf (s : Tx) : Option Nat := (scanF (s.length + 1) 0 s).2
def parseR (s : Tx) : List Nd × Int :=
  if 4096 < s.length then ([], 3) else if badOf s ≠ none then ([], 90) else
    if (outP (keysT (tksOf s))).2.1 ≠ [] then ([], 100) else if (outP (keysT (tksOf s))).2.2 = 0 then ((outP (keysT (tksOf s))).1, 0) else ([], (outP (keysT (tksOf s))).2.2)
theorem tks_scan (s : Tx) : Scan 0 s (tksOf s) (badOf s) := scanF_ok _ _ _ (Nat.lt_succ_self _)
set_option maxRecDepth 100000 in
set_option maxHeartbeats 4000000 in
theorem Parse_any {w : World} (s : Tx) (hE : EnvE w) (hO : EnvO w) (hs : s.length ≤ 35184372088832) :
    Calls Tryz.prog 10 #[str s] w fun e w' => ∃ vn, e = .returned (.tuple #[vn, .int .i64 (parseR s).2]) ∧ OwnN w.heap.size w' vn (parseR s).1 ∧ Below w.heap.size w w' := by
  by_cases h1 : 4096 < s.length
  · have hr : Hid (parseR s = ([], 3)) := by show _ = _; unfold parseR; rw [if_pos h1]
    have hal := hid (all_long s w h1 hs)
    clear hE hO h1 hs
    unfold str at *
    go_enter Tryz.func10, Tryz.ntmps10
    go_wp2_with fail
    refine hal.out.mono ?_
    rintro e w1 ⟨rfl, hb⟩
    replace hb := hid hb
    go_wp2
    go_ret2
    rw [hr.out]
    exact ⟨_, rfl, ownN_nil _ _, hb.out⟩
  · cases h2 : badOf s with
    | some p =>
      have hr : Hid (parseR s = ([], 90)) := by show _ = _; unfold parseR; rw [if_neg h1, if_pos (by rw [h2]; simp)]
      have hal := hid (all_bad s w (h2 ▸ tks_scan s) (by omega))
      clear hE hO h1 hs h2
      unfold str at *
      go_enter Tryz.func10, Tryz.ntmps10
      go_wp2_with fail
      refine hal.out.mono ?_
      rintro e w1 ⟨rfl, hb⟩
      replace hb := hid hb
      go_wp2
      go_ret2
      rw [hr.out]
      exact ⟨_, rfl, ownN_nil _ _, hb.out⟩
    | none =>
      have hsc : Scan 0 s (tksOf s) none := h2 ▸ tks_scan s
      have hr : Hid (parseR s = if (outP (keysT (tksOf s))).2.1 ≠ [] then ([], 100) else if (outP (keysT (tksOf s))).2.2 = 0 then ((outP (keysT (tksOf s))).1, 0) else ([], (outP (keysT (tksOf s))).2.2)) := by
        show _ = _; unfold parseR; rw [if_neg h1, if_neg (by rw [h2]; simp)]
      have hal := hid (all_ok s w hsc (by omega))
      have hmem := hid (fun (t : Tk) (ht : t ∈ tksOf s) => show t.text.length ≤ 4096 from by have := ((scan_mem hsc).2.1 t ht).1; omega)
      have hcode : Hid ((outP (keysT (tksOf s))).2.2 = 0 ∨ (outP (keysT (tksOf s))).2.2 = 4 ∨ (outP (keysT (tksOf s))).2.2 = 100 ∧ (outP (keysT (tksOf s))).2.1 = []) := by
        show _ ∨ _
        unfold outP
        split
        · exact .inr (.inr ⟨rfl, rfl⟩)
        · split
          · exact .inl rfl
          · exact .inr (.inl rfl)
      have hcall := hid (fun (w1 : World) (v' : Value) (hb : Below w.heap.size w w1) (hv : IsTs w1 v' (tksOf s)) => (read_any hv (hE.below hb) (hO.below hb) hmem.out).mono fun _ _ => ReadPost.out)
      clear hE hO h1 hs h2 hsc hmem
      generalize tksOf s = l at *
      generalize outP (keysT l) = o at *
      unfold str at *
      go_enter Tryz.func10, Tryz.ntmps10
      go_wp2_with fail
      refine hal.out.mono ?_
      rintro e w1 ⟨a, c, rfl, hown, hb⟩
      replace hcall := hid (hcall.out w1 _ hb hown.isT)
      replace hb := hid hb
      clear hal hown
      go_wp2_with fail
      refine hcall.out.mono ?_
      rintro e w2 ⟨b, ts', ns', fl', F', rfl, hrd, hns, hlen, -⟩
      obtain ⟨vr, vn, hx, hy, hz⟩ := hrd.nodes
      obtain ⟨a1, c1, rfl⟩ := hy.slice
      obtain ⟨a2, c2, rfl⟩ := hz.slice
      have x0 : w2.cell? ⟨b, 0, none⟩ = some (.slice a1 ts'.length c1) := by rw [cell_of hx]; rfl
      have x1 : w2.cell? ⟨b, 1, none⟩ = some (.slice a2 ns'.length c2) := by rw [cell_of hx]; rfl
      have hlow := hid (hb.out.trans (hrd.low.mono hb.out.size))
      replace hz := hid (hz.base hb.out.size)
      clear hcall hx hy hrd
      rcases hcode.out with h0 | h0 | ⟨h0, h00⟩
      · rw [h0] at hns hlen
        have e1 := hns rfl
        have e2 := (hlen (by decide)).1
        by_cases hts : ts'.length = 0
        · have q : decide ((0 : Int) < (ts'.length : Int)) = false := decide_eq_false (by omega)
          have hfin : Hid (∃ vn, Ending.returned (.tuple #[.slice a2 ns'.length c2, .int .i64 0]) = Ending.returned (.tuple #[vn, .int .i64 (parseR s).2]) ∧ OwnN w.heap.size w2 vn (parseR s).1 ∧ Below w.heap.size w w2) := by
            show ∃ _, _
            have e3 : o.2.1 = [] := List.eq_nil_of_length_eq_zero (by omega)
            rw [hr.out, if_neg (by rw [e3]; simp), if_pos h0]
            exact ⟨_, rfl, by rw [← e1]; exact hz.out, hlow.out⟩
          rw [h0]
          clear hns hlen e1 e2 hr
          unfold ptr
          go_wp2
          go_ret2
          exact hfin.out
        · have q : decide ((0 : Int) < (ts'.length : Int)) = true := decide_eq_true (by omega)
          have hfin : Hid (∃ vn, Ending.returned (.tuple #[.slice none 0 0, .int .i64 100]) = Ending.returned (.tuple #[vn, .int .i64 (parseR s).2]) ∧ OwnN w.heap.size w2 vn (parseR s).1 ∧ Below w.heap.size w w2) := by
            show ∃ _, _
            have e3 : o.2.1 ≠ [] := fun e => hts (by rw [e2, e]; rfl)
            rw [hr.out, if_pos e3]
            exact ⟨_, rfl, ownN_nil _ _, hlow.out⟩
          rw [h0]
          clear hns hlen e1 e2 hr
          unfold ptr
          go_wp2
          go_ret2
          exact hfin.out
      · rw [h0] at hns hlen
        have e2 := (hlen (by decide)).1
        by_cases hts : ts'.length = 0
        · have q : decide ((0 : Int) < (ts'.length : Int)) = false := decide_eq_false (by omega)
          have hfin : Hid (∃ vn, Ending.returned (.tuple #[.slice none 0 0, .int .i64 4]) = Ending.returned (.tuple #[vn, .int .i64 (parseR s).2]) ∧ OwnN w.heap.size w2 vn (parseR s).1 ∧ Below w.heap.size w w2) := by
            show ∃ _, _
            have e3 : o.2.1 = [] := List.eq_nil_of_length_eq_zero (by omega)
            rw [hr.out, if_neg (by rw [e3]; simp), if_neg (by rw [h0]; decide), h0]
            exact ⟨_, rfl, ownN_nil _ _, hlow.out⟩
          rw [h0]
          clear hns hlen e2 hr
          unfold ptr
          go_wp2
          go_ret2
          exact hfin.out
        · have q : decide ((0 : Int) < (ts'.length : Int)) = true := decide_eq_true (by omega)
          have hfin : Hid (∃ vn, Ending.returned (.tuple #[.slice none 0 0, .int .i64 100]) = Ending.returned (.tuple #[vn, .int .i64 (parseR s).2]) ∧ OwnN w.heap.size w2 vn (parseR s).1 ∧ Below w.heap.size w w2) := by
            show ∃ _, _
            have e3 : o.2.1 ≠ [] := fun e => hts (by rw [e2, e]; rfl)
            rw [hr.out, if_pos e3]
            exact ⟨_, rfl, ownN_nil _ _, hlow.out⟩
          rw [h0]
          clear hns hlen e2 hr
          unfold ptr
          go_wp2
          go_ret2
          exact hfin.out
      · have hfin : Hid (∃ vn, Ending.returned (.tuple #[.slice none 0 0, .int .i64 100]) = Ending.returned (.tuple #[vn, .int .i64 (parseR s).2]) ∧ OwnN w.heap.size w2 vn (parseR s).1 ∧ Below w.heap.size w w2) := by
          show ∃ _, _
          rw [hr.out, if_neg (by rw [h00]; simp), if_neg (by rw [h0]; decide), h0]
          exact ⟨_, rfl, ownN_nil _ _, hlow.out⟩
        rw [h0]
        clear hns hlen hr
        unfold ptr
        by_cases hts : ts'.length = 0
        · have q : decide ((0 : Int) < (ts'.length : Int)) = false := decide_eq_false (by omega)
          go_wp2
          go_ret2
          exact hfin.out
        · have q : decide ((0 : Int) < (ts'.length : Int)) = true := decide_eq_true (by omega)
          go_wp2
          go_ret2
          exact hfin.out
end Go.Proofs.YtjhodmpgggaknaaGreatDoor
