/- Joined: B16 B17 B18. -/
import Derived.Test.YtjhodmpgggaknaaGreatDoorZB15
import Derived.Test.YtjhodmpgggaknaaGreatDoorZGI
import Derived.Test.YtjhodmpgggaknaaGreatDoorZGB
/- Contract of read. -/
namespace Go.Proofs.YtjhodmpgggaknaaGreatDoor
open Go.RowKit Go.Shelf Go.Maps

@[go_sem] theorem run_store_func (P : Program) (w : World) (a : Addr) (f : Fn) (x y : Array Value) (m : Mode) : (store a (.func f x y) m).run P w = stored P w a (.func f x y) m := run_store P w a _ m rfl
def codeOf (fl : Bool) : Int := if fl then 4 else 0
def ReadPost (w : World) (ts : List Tk) (e : Ending) (w' : World) : Prop :=
  ∃ b code ts' ns' fl' F', e = .returned (.tuple #[ptr b, .int .i64 code]) ∧ RdAt F' w w' b ts' ns' fl' ∧ (pE .or (keysT ts) = none → code = 100) ∧ (∀ t r, pE .or (keysT ts) = some (t, r) → r = keysT ts' ∧ Suf ts' ts ∧ ns' = (addT ([], false, 0) t).1 ∧ fl' = (addT ([], false, 0) t).2.1 ∧ code = codeOf fl')
end Go.Proofs.YtjhodmpgggaknaaGreatDoor
/- Contracts of Read and Parse. -/
namespace Go.Proofs.YtjhodmpgggaknaaGreatDoor
open Go.RowKit Go.Shelf Go.Maps

/-- what reading tells: nodes, what is left, an error. -/
def outP (ks : List Key) : List Nd × List Key × Int := match pE .or ks with
  | none => ([], [], 100)
  | some (t, r) => if t.size ≤ 31 then (flat 0 t, r, 0) else ([], r, 4)
/-- what read's answer says. -/
theorem ReadPost.out {w w' : World} {ts : List Tk} {e : Ending} (h : ReadPost w ts e w') : ∃ b ts' ns' fl' F', e = .returned (.tuple #[ptr b, .int .i64 (outP (keysT ts)).2.2]) ∧ RdAt F' w w' b ts' ns' fl' ∧ ((outP (keysT ts)).2.2 = 0 → ns' = (outP (keysT ts)).1) ∧ ((outP (keysT ts)).2.2 ≠ 100 → ts'.length = (outP (keysT ts)).2.1.length ∧ ts'.length ≤ ts.length) ∧ ((outP (keysT ts)).2.2 = 0 ∨ (outP (keysT ts)).2.2 = 4 ∨ (outP (keysT ts)).2.2 = 100) := by
  obtain ⟨b, code, ts', ns', fl', F', rfl, h1, h2, h3⟩ := h
  unfold outP
  cases hp : pE .or (keysT ts) with
  | none =>
    obtain rfl := h2 hp
    exact ⟨b, ts', ns', fl', F', rfl, h1, (fun e => by cases e), (fun e => absurd rfl e), .inr (.inr rfl)⟩
  | some q =>
    obtain ⟨t, r⟩ := q
    obtain ⟨rfl, hs, rfl, rfl, rfl⟩ := h3 t r hp
    have hl : (keysT ts').length = ts'.length := by simp [keysT]
    simp only
    by_cases hz : t.size ≤ 31
    · have hf := addT_fits t ([], false, 0) (by simpa using hz)
      rw [if_pos hz]
      refine ⟨b, ts', _, _, F', ?_, h1, fun _ => ?_, fun _ => ⟨by simp [hl], hs.len⟩, .inl rfl⟩
      · rw [hf]; rfl
      · rw [hf]; simp
    · have hf := addT_over t ([], false, 0) (by simp) (by simp; omega)
      rw [if_neg hz]
      refine ⟨b, ts', _, _, F', ?_, h1, (fun e => by cases e), fun _ => ⟨by simp [hl], hs.len⟩, .inr (.inl rfl)⟩
      rw [hf]; rfl
end Go.Proofs.YtjhodmpgggaknaaGreatDoor
/- Contract of Parse. -/
namespace Go.Proofs.YtjhodmpgggaknaaGreatDoor
open Go.RowKit Go.Shelf Go.Maps

def tksOf (s : Tx) : List Tk := (scanF (s.length + 1) 0 s).1
def badOf (s : Tx) : Option Nat := (scanF (s.length + 1) 0 s).2
theorem tks_scan (s : Tx) : Scan 0 s (tksOf s) (badOf s) := scanF_ok _ _ _ (Nat.lt_succ_self _)
end Go.Proofs.YtjhodmpgggaknaaGreatDoor
