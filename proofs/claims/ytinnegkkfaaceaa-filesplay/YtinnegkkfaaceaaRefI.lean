/- Contract of the document's store: Crash. -/
import Derived.Test.YtinnegkkfaaceaaRefH
import Derived.Deep.RegionLaw
import Derived.Deep.CutRange
namespace Go.Proofs.Ytinnegkkfaaceaa
open Go.RowKit Go.Maps Go.MapKept Go.Shelf

section
variable {B rb : Nat} {R : Rs}
/-- what is laid ahead of a file's turn. -/
theorem rfall {w wr : World} {keep : List Int} {i nn : Nat} {ps : List (Ent × Value)} (h : Fell B rb w wr R keep i nn ps) {p : Ent × Value} (hp : R.ps[i]? = some p) {a : Option Addr} {c lb lc : Nat} (hp2 : p.2 = .slice a p.1.b.length c) (hlv : R.lv = .slice (some ⟨lb, 0, none⟩) R.ps.length lc) (hs : ¬ p.1.b.length ≤ p.1.s) (hbig : p.1.b.length ≤ 1048576) (M : Nat) (hM : M = keptOf (keep.drop nn) (p.1.b.length - p.1.s)) (q : World) (hb0 : Below wr.heap.size wr q) (hs1 : q.heap.size = wr.heap.size + 1) (hblk0 : q.heap[wr.heap.size]? = some (.cells #[str p.1.name, .slice a p.1.b.length c, .int .i64 (p.1.s : Int)] 35)) :
    ∃ a' c' w3, (∀ ty, (Builtin.append_ #[30, 30] ty #[.slice (some ⟨q.heap.size, 0, none⟩) 0 0, .slice a (p.1.s + M) c]).run Try.prog (q.alloc (.cells #[] 5)) = .ok (.slice a' (p.1.s + M) c') w3) ∧
      w3.heap[wr.heap.size]? = some (.cells #[str p.1.name, .slice a p.1.b.length c, .int .i64 (p.1.s : Int)] 35) ∧
      (∃ cs, w3.heap[rb]? = some (.cells #[.slice (some ⟨lb, 0, none⟩) R.ps.length lc, .int .i64 R.left, .int .i64 (R.acts : Int)] 67) ∧ w3.heap[lb]? = some (.cells cs 35) ∧ cs[i * 3 + 1]? = some (.slice a p.1.b.length c) ∧ cs[i * 3 + 2]? = some (.int .i64 (p.1.s : Int)) ∧ lb ≠ rb ∧ lb ≠ wr.heap.size ∧ rb ≠ wr.heap.size) ∧
      Fell B rb w ((w3.setCell ⟨lb, i * 3 + 1, none⟩ (.slice a' (p.1.s + M) c')).setCell ⟨lb, i * 3 + 2, none⟩ (.int .i64 ((p.1.s + M : Nat) : Int))) R keep (i + 1) (nn + 1) (ps.set i (⟨p.1.name, p.1.b.take (p.1.s + M), p.1.s + M⟩, .slice a' (p.1.s + M) c')) := by
  have hi := (List.getElem?_eq_some_iff.1 hp).1
  have hMle : M ≤ p.1.b.length - p.1.s := by rw [hM]; exact keptOf_le _ _
  have hpp : ps[i]? = some p := by rw [h.same i (Nat.le_refl _)]; exact hp
  have hrow := h.step.ref.els p (List.mem_of_getElem? hpp)
  rw [hp2] at hrow
  have hB := IsB.take (isB_row hrow) (p.1.s + M) (by omega)
  have etk : (p.1.b.take (p.1.s + M)).length = p.1.s + M := by simp; omega
  obtain ⟨a', c', w3, hrun, hown, hb3⟩ := copy_run (hB.below hb0) (by rw [etk]; omega)
  rw [etk] at hrun
  rw [etk] at hown
  have hb03 : Below wr.heap.size wr w3 := hb0.trans (hb3.mono hb0.size)
  have S3 := h.step.trans (RStep.below h.step.ref hb03)
  have hlen := h.len
  have hlv' : ({ R with ps := ps } : Rs).lv = .slice (some ⟨lb, 0, none⟩) ({ R with ps := ps } : Rs).ps.length lc := by show R.lv = .slice _ ps.length lc; rw [hlen]; exact hlv
  refine ⟨a', c', w3, hrun, (hb3.block _ (by omega)).trans hblk0, ?_, ?_⟩
  · have hr3 := S3.ref.row
    rw [hlv'] at hr3
    obtain ⟨cs, hcs⟩ := row_block1 hr3 (k := lb) rfl
    obtain ⟨lb2, lc2, e, k0, k1, k2, _, hne⟩ := S3.ref.at hpp
    rw [hlv'] at e
    injection e with e1 _ _
    injection e1 with e1
    injection e1 with e1 _ _
    subst e1
    rw [cell_of hcs] at k1 k2
    rw [hp2] at k1
    refine ⟨cs, ?_, hcs, k1, k2, hne, fun e => ?_, fun e => ?_⟩
    · rw [S3.ref.cell]; show some (Obj.cells #[R.lv, _, _] _) = _; rw [hlv]
    · have := h.step.ref.lt (k := lb) (.inr (.inl (by rw [hlv']; rfl)))
      omega
    · have := h.step.ref.lt (k := rb) (.inl rfl)
      omega
  · refine h.next hp hs _ _ (by rw [hM]) ?_
    refine RStep.turn (R1 := { R with ps := ps }) S3 hpp hlv' ⟨p.1.name, p.1.b.take (p.1.s + M), p.1.s + M⟩ _ rfl ?_ fun k hk => ?_
    · show w3.ownsRow B _ 1 _ (p.1.b.take (p.1.s + M)).length _
      rw [etk]
      exact ownsRow_base hown fun k hk => by have h1 := (hown.lt k hk).1; have := h.step.ref.size; omega
    · right
      have h1 := (hown.lt k hk).1
      have := h.step.kept.size
      omega
set_option maxRecDepth 100000 in
set_option maxHeartbeats 4000000 in
theorem rcrash (w : World) (h : RefAt B w rb R) (ok : Rok R) (v : Value) (keep : List Int) (hI : IsI w v keep) (hfar : keep ≠ [] → ∀ b, v.ownBlock = some b → ¬ rfoot rb R b) : Calls Try.prog 36 #[ptr rb, v] w fun e w' => e = .returned (.tuple #[]) ∧ ∃ R', R'.abs = R.abs.crash keep ∧ RStep B rb w w' R R' := by
  have hps : R.ps.length ≤ 64 := ok.few
  obtain ⟨av, cv, hv⟩ : ∃ a c, v = .slice a keep.length c := by obtain ⟨_, _, a, c, e, _⟩ := hI; exact ⟨a, c, e⟩
  have hkl := hI.1
  unfold maxLen at hkl
  obtain ⟨la, lc, hlv⟩ := h.slice
  have H := hid h
  have hst := hid (Fell.start (keep := keep) h)
  have hok := hid ok
  have KX : Hid (∀ wr ps, RStep B rb w wr R { R with ps := ps } → ∀ j x, keep[j]? = some x → ∃ b off, av = some ⟨b, off, none⟩ ∧ wr.cell? ⟨b, off + j, none⟩ = some (.int .i64 x) ∧ (-9223372036854775808 ≤ x ∧ x ≤ 9223372036854775807)) := by
    intro wr ps S j x hx
    have hI' : IsI wr v keep := hI.kept fun hne b hb hl => S.kept.block b hl (hfar hne b hb)
    rw [hv] at hI'
    obtain ⟨_, hr, a, c, e, _, _, h5⟩ := hI'
    cases e
    have hj := (List.getElem?_eq_some_iff.1 hx).1
    rcases h5 with h5 | ⟨b, off, e, h5⟩
    · rw [h5] at hj; cases hj
    · have := h5 j hj
      refine ⟨b, off, e, ?_, hr x (List.mem_of_getElem? hx)⟩
      rw [this]
      simp [List.getD, hx]
  rw [hv]
  clear hI hfar hv h ok
  unfold ptr
  go_enter Try.func36, Try.ntmps36
  go_wp2_with fail
  go_loopw [4, 5] (fun nv iv wr => ∃ (i nn : Nat) (ps : List (Ent × Value)), i ≤ R.ps.length ∧ nn ≤ i ∧ iv = .int .i64 i ∧ nv = .int .i64 nn ∧ Fell B rb w wr R keep i nn ps) (fun _ iv _ => R.ps.length - (intOf iv).toNat)
  case atStart => exact ⟨0, 0, R.ps, by omega, by omega, rfl, rfl, hst.out⟩
  case round =>
    obtain ⟨i, nn, ps, hi, hnn, rfl, rfl, hfell⟩ := hrel
    have c0 : wr.cell? ⟨rb, 0, none⟩ = some (.slice la R.ps.length lc) := by rw [cell_of hfell.step.ref.cell]; show some R.lv = _; rw [hlv]
    replace hfell := hid hfell
    clear hst
    by_cases hlt : i < R.ps.length
    · have hlt' : (i : Int) < (R.ps.length : Int) := by omega
      obtain ⟨p, hp⟩ : ∃ p, R.ps[i]? = some p := ⟨_, List.getElem?_eq_getElem hlt⟩
      have hpp : ({ R with ps := ps } : Rs).ps[i]? = some p := (hfell.out.same i (Nat.le_refl _)).trans hp
      obtain ⟨lb, lc', e, k0, k1, k2, _, hne⟩ := hfell.out.step.ref.at hpp
      change R.lv = .slice (some ⟨lb, 0, none⟩) ps.length lc' at e
      rw [hlv] at e
      injection e with e1 e2 e3
      subst e1 e3
      obtain ⟨xa, xc, hp2⟩ := row_slice (H.out.els p (List.mem_of_getElem? hp))
      rw [hp2] at k1
      obtain ⟨hsy, hbig, _⟩ := hok.out.file p (List.mem_of_getElem? hp)
      by_cases hsyn : p.1.b.length ≤ p.1.s
      · have hpass := hid (hfell.out.pass hp hsyn (alloc_below wr (.cells #[str p.1.name, .slice xa p.1.b.length xc, .int .i64 (p.1.s : Int)] 35)))
        have heq : ((p.1.s : Int) == (p.1.b.length : Int)) = true := by simp; omega
        clear KX hfell hp hpp e2 hp2 hsyn hlv
        unfold str at k0 hpass
        go_wp2
        exact ⟨⟨i + 1, nn, ps, by omega, by omega, by go_num, rfl, hpass.out⟩, by simp [intOf]; omega⟩
      · have heq : ((p.1.s : Int) == (p.1.b.length : Int)) = false := by simp; omega
        have hlv2 : R.lv = .slice (some ⟨lb, 0, none⟩) R.ps.length lc := hlv
        obtain ⟨wb, hwb⟩ : ∃ wb, wb = wr.alloc (.cells #[str p.1.name, .slice xa p.1.b.length xc, .int .i64 (p.1.s : Int)] 35) := ⟨_, rfl⟩
        have hbb : Below wr.heap.size wr wb := by rw [hwb]; exact alloc_below wr _
        have hsb : wb.heap.size = wr.heap.size + 1 := by rw [hwb]; simp
        have hblk : wb.heap[wr.heap.size]? = some (.cells #[str p.1.name, .slice xa p.1.b.length xc, .int .i64 (p.1.s : Int)] 35) := by rw [hwb]; exact (MapKept.heap_alloc wr _).1
        have hrbs : rb < wr.heap.size := lt_of_block hfell.out.step.ref.cell
        have d0 : wb.cell? ⟨rb, 0, none⟩ = some (.slice (some ⟨lb, 0, none⟩) R.ps.length lc) := (hbb.cell (p := ⟨rb, 0, none⟩) hrbs).trans c0
        have b1 : wb.cell? ⟨wr.heap.size, 1, none⟩ = some (.slice xa p.1.b.length xc) := by rw [cell_of hblk]; rfl
        have b2 : wb.cell? ⟨wr.heap.size, 2, none⟩ = some (.int .i64 (p.1.s : Int)) := by rw [cell_of hblk]; rfl
        have d0' : (wb.alloc (.cells #[] 5)).cell? ⟨rb, 0, none⟩ = some (.slice (some ⟨lb, 0, none⟩) R.ps.length lc) := (World.cell?_alloc_lt _ _ _ (by show rb < _; omega)).trans d0
        have b1' : (wb.alloc (.cells #[] 5)).cell? ⟨wr.heap.size, 1, none⟩ = some (.slice xa p.1.b.length xc) := (World.cell?_alloc_lt _ _ _ (by show wr.heap.size < _; omega)).trans b1
        have b2' : (wb.alloc (.cells #[] 5)).cell? ⟨wr.heap.size, 2, none⟩ = some (.int .i64 (p.1.s : Int)) := (World.cell?_alloc_lt _ _ _ (by show wr.heap.size < _; omega)).trans b2
        have KB : Hid (∀ x, keep[nn]? = some x → ∃ b off, av = some ⟨b, off, none⟩ ∧ (wr.alloc (.cells #[.string ⟨p.1.name.toArray⟩, .slice xa p.1.b.length xc, .int .i64 (p.1.s : Int)] 35)).cell? ⟨b, off + nn, none⟩ = some (.int .i64 x) ∧ (-9223372036854775808 ≤ x ∧ x ≤ 9223372036854775807)) := by
          intro x hx
          obtain ⟨b, off, e1, e2, e3⟩ := KX.out _ _ hfell.out.step nn x hx
          exact ⟨b, off, e1, ((alloc_below wr _).cell (p := ⟨b, off + nn, none⟩) (World.block_lt_of_cell? wr ⟨b, off + nn, none⟩ e2)).trans e2, e3⟩
        have TL := hid (fun (M : Nat) hM => rfall hfell.out hp hp2 hlv2 hsyn hbig M hM wb.drew (undrew' hbb) hsb hblk)
        have hcap : p.1.b.length ≤ xc ∧ xc ≤ 9223372036854775807 := by
          have hrow := H.out.els p (List.mem_of_getElem? hp)
          rw [hp2] at hrow
          rcases row_form hrow with ⟨e1, e2⟩ | ⟨gg, cc, e1, e2, e3⟩
          · injection e1 with e1 e1' e1''
            have : p.1.b.length = 0 := e1'
            omega
          · injection e1 with e1 e1' e1''
            unfold maxLen at e3
            omega
        obtain ⟨hcap1, hcap2⟩ := hcap
        have hko := hid (keptOf_le (keep.drop nn) (p.1.b.length - p.1.s))
        have hksome : Hid (∀ x, keep[nn]? = some x → keptOf (keep.drop nn) (p.1.b.length - p.1.s) = min x.toNat (p.1.b.length - p.1.s)) := by
          intro x hx
          obtain ⟨hlt2, rfl⟩ := List.getElem?_eq_some_iff.1 hx
          rw [List.drop_eq_getElem_cons hlt2]
          rfl
        have hknone : Hid (keep.length ≤ nn → keptOf (keep.drop nn) (p.1.b.length - p.1.s) = 0) := fun hle => by rw [List.drop_of_length_le hle]; rfl
        have hwbe : Hid (wb = wr.alloc (.cells #[.string ⟨p.1.name.toArray⟩, .slice xa p.1.b.length xc, .int .i64 (p.1.s : Int)] 35)) := hwb
        replace hblk := hid hblk
        clear KX hfell hp hpp e2 hp2 hlv hlv2 hwb hbb
        unfold str at k0
        generalize hKO : keptOf (keep.drop nn) (p.1.b.length - p.1.s) = M at *
        replace hKO := hid hKO
        go_upto_region 7 with fail
        go_cut [40] from 8 to 87 (fun s40 wx => wr.alloc (.cells #[.string ⟨p.1.name.toArray⟩, .slice xa p.1.b.length xc, .int .i64 (p.1.s : Int)] 35) = wx ∧ ((s40 = .bool true ∧ nn < keep.length ∧ ∃ x, keep[nn]? = some x ∧ 0 < x) ∨ (s40 = .bool false ∧ M = 0)))
        case first =>
          by_cases hn : nn < keep.length
          · have hn' : (nn : Int) < (keep.length : Int) := by omega
            obtain ⟨x, hx⟩ : ∃ x, keep[nn]? = some x := ⟨_, List.getElem?_eq_getElem hn⟩
            obtain ⟨kb, koff, rfl, hkc, hx1, hx2⟩ := KB.out x hx
            have hm := hid (hksome.out x hx)
            replace hx := hid hx
            by_cases hx0 : 0 < x
            · go_wp2_with fail
              go_meet
              case rel => exact ⟨rfl, .inl ⟨rfl, hn, x, hx.out, hx0⟩⟩
            · have hxz : x.toNat = 0 := by omega
              have hm0 : M = 0 := by rw [hm.out, hxz]; simp
              replace hm0 := hid hm0
              clear hxz
              go_wp2_with fail
              go_meet
              case rel => exact ⟨rfl, .inr ⟨rfl, hm0.out⟩⟩
          · have hn' : ¬ (nn : Int) < (keep.length : Int) := by omega
            have hm := hid (hknone.out (by omega))
            go_wp2_with fail
            go_meet
            case rel => exact ⟨rfl, .inr ⟨rfl, hm.out⟩⟩
        case rest =>
        obtain ⟨hwc, hcut⟩ := hcut
        subst hwc
        go_upto_if 40 with fail
        go_cut [7] from 8 to 87 (fun s7 wx => wr.alloc (.cells #[.string ⟨p.1.name.toArray⟩, .slice xa p.1.b.length xc, .int .i64 (p.1.s : Int)] 35) = wx ∧ ∃ x : Int, s7 = .int .i64 x ∧ 0 ≤ x ∧ x ≤ 9223372036854775807 ∧ M = min x.toNat (p.1.b.length - p.1.s))
        case first =>
          rcases hcut with ⟨rfl, hn, x, hx, hx0⟩ | ⟨rfl, hm0⟩
          · have hn' : (nn : Int) < (keep.length : Int) := by omega
            obtain ⟨kb, koff, rfl, hkc, hx1, hx2⟩ := KB.out x hx
            have hm := hid (hksome.out x hx)
            clear hx
            go_wp2_with fail
            go_meet
            case rel => exact ⟨rfl, x, rfl, by omega, by omega, hm.out⟩
          · replace hm0 := hid hm0
            go_wp2_with fail
            go_meet
            case rel => exact ⟨rfl, 0, rfl, by omega, by omega, (by rw [hm0.out]; simp)⟩
        case rest =>
          obtain ⟨hwc, x, rfl, hx0, hx1, hMx⟩ := hcut
          obtain rfl : wb = wc := hwbe.out.trans hwc
          clear hwc hwbe
          replace hMx := hid hMx
          obtain ⟨a', c', w3, t1, t2, ⟨cs, t3, t4, t5, t6, t7, t8, t9⟩, t10⟩ := TL.out M rfl
          replace t10 := hid (⟨_, t10⟩ : ∃ ps', Fell B rb w ((w3.setCell ⟨lb, i * 3 + 1, none⟩ (.slice a' (p.1.s + M) c')).setCell ⟨lb, i * 3 + 2, none⟩ (.int .i64 ((p.1.s + M : Nat) : Int))) R keep (i + 1) (nn + 1) ps')
          have hML : p.1.s + M ≤ p.1.b.length := by have := hko.out; omega
          clear TL KB hksome hknone hko hKO hok H hblk k0 k1 k2
          go_upto_if 52 with fail
          go_cut [7] from 8 to 87 (fun s7 wx => wb = wx ∧ s7 = .int .i64 (M : Int))
          case first =>
            by_cases hxl : (p.1.b.length : Int) - (p.1.s : Int) < x
            · have hm : (p.1.b.length : Int) - (p.1.s : Int) = (M : Int) := by have := hMx.out; omega
              replace hm := hid hm
              clear hML
              go_wp2_with fail
              go_meet
              case rel => exact ⟨rfl, congrArg (Value.int .i64) hm.out⟩
            · have hm : x = (M : Int) := by have := hMx.out; omega
              replace hm := hid hm
              clear hML
              go_wp2_with fail
              go_meet
              case rel => exact ⟨rfl, congrArg (Value.int .i64) hm.out⟩
          case rest =>
            obtain ⟨hwc, rfl⟩ := hcut
            subst hwc
            have q1 : w3.cell? ⟨wr.heap.size, 1, none⟩ = some (.slice xa p.1.b.length xc) := by rw [cell_of t2]; rfl
            have q2 : w3.cell? ⟨wr.heap.size, 2, none⟩ = some (.int .i64 (p.1.s : Int)) := by rw [cell_of t2]; rfl
            have q3 : w3.cell? ⟨rb, 0, none⟩ = some (.slice (some ⟨lb, 0, none⟩) R.ps.length lc) := by rw [cell_of t3]; rfl
            have q4 : w3.cell? ⟨lb, i * 3 + 1, none⟩ = some (.slice xa p.1.b.length xc) := by rw [cell_of t4, t5]
            have q5 := frozen_of t4 (i * 3 + 1)
            have hset := heap_set_at (o := i * 3 + 1) t4 (.slice a' (p.1.s + M) c')
            have z1 : (w3.setCell ⟨lb, i * 3 + 1, none⟩ (.slice a' (p.1.s + M) c')).cell? ⟨wr.heap.size, 2, none⟩ = some (.int .i64 (p.1.s : Int)) := (World.cell?_of_block (a := ⟨wr.heap.size, 2, none⟩) (heap_set _ _ _ _ _ (fun e => t8 e.symm))).trans q2
            have z2 : (w3.setCell ⟨lb, i * 3 + 1, none⟩ (.slice a' (p.1.s + M) c')).cell? ⟨rb, 0, none⟩ = some (.slice (some ⟨lb, 0, none⟩) R.ps.length lc) := (World.cell?_of_block (a := ⟨rb, 0, none⟩) (heap_set _ _ _ _ _ (fun e => t7 e.symm))).trans q3
            have z3 : (w3.setCell ⟨lb, i * 3 + 1, none⟩ (.slice a' (p.1.s + M) c')).cell? ⟨lb, i * 3 + 2, none⟩ = some (.int .i64 (p.1.s : Int)) := by rw [cell_of hset, Array.getElem?_setIfInBounds_ne (by omega), t6]
            have z4 := frozen_of hset (i * 3 + 2)
            have hwr : IntKind.i64.wrap ((p.1.s : Int) + (M : Int)) = (p.1.s : Int) + (M : Int) := by rw [IntKind.wrap_i64]; omega
            have hsx : (p.1.s : Int) + (M : Int) ≤ (xc : Int) := by omega
            have hs0 : (0 : Int) ≤ (p.1.s : Int) + (M : Int) := by omega
            have htn : ((p.1.s : Int) + (M : Int)).toNat = p.1.s + M := by omega
            have hcast : Hid (((p.1.s + M : Nat) : Int) = (p.1.s : Int) + (M : Int)) := by show _ = _; omega
            clear t2 t3 t4 t5 t6 hset hMx hx0 hx1 hsyn hsy hbig hML
            generalize p.1.b.length = L at *
            generalize p.1.s = s at *
            go_upto_region 12 with fail
            go_cut [] from 8 to 87 (fun wx => w3.setCell ⟨lb, i * 3 + 1, none⟩ (.slice a' (s + M) c') = wx)
            case first =>
              clear z1 z2 z3 z4 t10
              go_region_law (refine step_append rfl (.tmp 66) (.tmp 73) 30 rfl _ _ _ _ (by simp [Act.eval, Act.put]) (by simp [Act.eval, Act.put]) t1 ?_)
              all_goals (try go_wp2_with fail)
              all_goals go_meet
              all_goals rfl
            case rest =>
              subst hcut
              clear t1 q1 q2 q3 q4 q5 d0 d0' b1 b1' b2 b2'
              generalize w3.setCell ⟨lb, i * 3 + 1, none⟩ (.slice a' (s + M) c') = w4 at *
              go_upto_region 13 with fail
              obtain ⟨ps', hf⟩ := t10.out
              rw [hcast.out] at hf
              have hf' : Fell B rb w (w4.setCell ⟨lb, i * 3 + 2, none⟩ (.int .i64 ((s : Int) + (M : Int)))).drew R keep (i + 1) (nn + 1) ps' := ⟨hf.step.trans (RStep.below hf.step.ref (undrew' (Below.refl _ _))), hf.len, hf.same, hf.path⟩
              replace hf' := hid hf'
              clear hf t10 hcast
              go_region
              all_goals go_wp2
              all_goals exact ⟨⟨i + 1, nn + 1, ps', by omega, by omega, by go_num, by go_num, hf'.out⟩, by simp [intOf]; omega⟩
    · have hge : ¬ (i : Int) < (R.ps.length : Int) := by omega
      have hdone := hfell.out.done (by omega)
      have hc := hfell.out.step.ref.cell
      have f1 := frozen_of hc 1
      have c1 : wr.cell? ⟨rb, 1, none⟩ = some (.int .i64 R.left) := by rw [cell_of hc]; rfl
      have st := hfell.out.step.trans (RefAt.numbers hfell.out.step.ref (-1) R.acts (w' := wr.setCell ⟨rb, 1, none⟩ (.int .i64 (-1))) (by rw [heap_set_at hc]; simp) (kept_set (F := fun k => k = rb) wr rb 1 _ rfl))
      have fin : Hid (∃ R', R'.abs = R.abs.crash keep ∧ RStep B rb w (wr.setCell ⟨rb, 1, none⟩ (.int .i64 (-1))) R R') := by
        refine ⟨_, ?_, st⟩
        show (⟨ps.map Prod.fst, R.acts, -1⟩ : St) = ⟨crashL (R.ps.map Prod.fst) keep, R.acts, -1⟩
        rw [hdone]
      clear hdone hc st KX hfell
      go_wp2
      go_end0
      exact ⟨rfl, fin.out⟩
end
end Go.Proofs.Ytinnegkkfaaceaa
