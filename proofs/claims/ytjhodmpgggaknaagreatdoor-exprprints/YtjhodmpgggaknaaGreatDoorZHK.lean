import Derived.Test.YtjhodmpgggaknaaGreatDoorZGE
import Derived.Test.YtjhodmpgggaknaaGreatDoorZGN
/- The keys of a text; what Parse tells of texts put together. -/
namespace Go.Proofs.YtjhodmpgggaknaaGreatDoor

/-- a text has tokens of these keys. -/
def HasK (s : Tx) (ks : List Key) : Prop := ∀ p, ∃ m, Scan p s m none ∧ m.map Tk.key = ks
theorem HasK.keys {s : Tx} {ks : List Key} (h : HasK s ks) : badOf s = none ∧ keysT (tksOf s) = ks := by
  obtain ⟨m, h1, h2⟩ := h 0
  obtain ⟨e1, e2⟩ := scan_uniq (tks_scan s) h1
  refine ⟨e2, ?_⟩
  rw [e1]
  exact h2
end Go.Proofs.YtjhodmpgggaknaaGreatDoor
