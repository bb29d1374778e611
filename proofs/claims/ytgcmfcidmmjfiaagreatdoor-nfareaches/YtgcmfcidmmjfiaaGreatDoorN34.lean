/-
  A slice of tokens that comes in as an argument: they lie where it says.
  cutEnd: the tokens ahead of an end as the last one.
  A builder of texts of the call's own: a byte, a text is put at its end; how long it is; its text.
-/
import Derived.Test.YtgcmfcidmmjfiaaGreatDoorN33
import Derived.Test.YtgcmfcidmmjfiaaGreatDoorN28
import Derived.ProofKit
import Derived.OpenShut
import Derived.Deep.Slices
import Derived.Deep.RegionHeld3
import Derived.Deep.RegionWith
import Derived.Test.YtgcmfcidmmjfiaaGreatDoorN07
import Derived.Lib.Builder
import Derived.Lib.AppendStr
import Derived.Laws.Externs
import Derived.Shelf.Strings.Builder1
namespace Go.Proofs.YtgcmfcidmmjfiaaGreatDoor
open Go.RowKit Go.Deep

theorem open_tks_cells : Tryz.prog.cellsOf 75 = 4 := by kernel_rfl
theorem open_tks_cells_int : Tryz.prog.cellsOf 3 = 1 := by kernel_rfl
theorem open_tks_cells_string : Tryz.prog.cellsOf 9 = 1 := by kernel_rfl
theorem open_tks_cells_int64 : Tryz.prog.cellsOf 2 = 1 := by kernel_rfl
theorem open_tks_fields : ∃ f0 f1 f2 f3 : Field, Tryz.prog.underlying 75 = some (.struct #[f0, f1, f2, f3]) ∧ f0.type = 3 ∧ f1.type = 9 ∧ f2.type = 2 ∧ f3.type = 3 ∧ f0.offset = 0 ∧ f1.offset = 1 ∧ f2.offset = 2 ∧ f3.offset = 3 :=
  ⟨_, _, _, _, Tryz.underlying75, rfl, rfl, rfl, rfl, rfl, rfl, rfl, rfl⟩
theorem open_tks_list {α : Type} : ∀ (l : List α), l.length = 4 → ∃ x0 x1 x2 x3, l = [x0, x1, x2, x3]
  | [x0, x1, x2, x3], _ => ⟨x0, x1, x2, x3, rfl⟩
set_option maxRecDepth 100000 in
theorem open_tks {H : Type} {enc : TypeId × Value → H} {W : World} {spare : Nat → Bool} {held : Bool} {fuel : Nat} {v : Value} {x : DataW H × List MemPlace}
    (h : DataW.trod enc Tryz.prog W 0 spare held fuel 72 [v] = some x) :
    ∃ (ad : Option Addr) (cap : Nat) (l : List Tk), v = .slice ad l.length cap ∧ l.length ≤ 9223372036854775807 ∧ TksAt W ad l ∧ ∀ y ∈ l, y.ok := by
  obtain ⟨f0, f1, f2, f3, hu, t0, t1, t2, t3, o0, o1, o2, o3⟩ := open_tks_fields
  rcases open_slice Tryz.underlying72 h with ⟨hcs, _⟩ | ⟨a, len, cap, m, n, D, Pl, hcs, hb, hl, hm, hmm, _, hx⟩
  · simp only [List.cons.injEq, and_true] at hcs
    subst hcs
    exact ⟨none, 0, [], rfl, by simp, fun hne => absurd rfl hne, by simp⟩
  · simp only [List.cons.injEq, and_true] at hcs
    subst hcs
    have hlm : len ≤ m := by rw [hmm]; split <;> omega
    have each : ∀ i, i < len → ∃ y : Tk, W.cell? (a.add (i * 4)) = some (.int .i64 y.kd) ∧ W.cell? (a.add (i * 4 + 1)) = some (.string y.s) ∧ W.cell? (a.add (i * 4 + 2)) = some (.int .i64 y.n) ∧ W.cell? (a.add (i * 4 + 3)) = some (.int .i64 y.pl) ∧ y.ok := by
      intro i hi
      obtain ⟨cs', h1, h2⟩ := hx i (by omega)
      rw [open_tks_cells] at h1
      obtain ⟨_, hlen, hcell⟩ := World.cells?_some h1
      obtain ⟨xs, k, hk, hxy, _, hxl, hf⟩ := DataW.trod_struct hu h2
      obtain ⟨y0, y1, y2, y3, rfl⟩ := open_tks_list xs hxl
      obtain ⟨v0, v1, v2, v3, rfl⟩ := open_tks_list cs' hlen
      have g0 := hf 0 f0 rfl
      have g1 := hf 1 f1 rfl
      have g2 := hf 2 f2 rfl
      have g3 := hf 3 f3 rfl
      simp [o0, o1, o2, o3, t0, t1, t2, t3, open_tks_cells_int, open_tks_cells_string, open_tks_cells_int64] at g0 g1 g2 g3
      have e0 := hcell 0 (by omega)
      have e1 := hcell 1 (by omega)
      have e2 := hcell 2 (by omega)
      have e3 := hcell 3 (by omega)
      rw [Go.Deep.add_add] at e0 e1 e2 e3
      obtain ⟨k0, q0, _, wf0⟩ := DataW.trod_int Tryz.underlying3 g0
      obtain ⟨k1, q1, _, wf1⟩ := DataW.trod_string Tryz.underlying9 g1
      obtain ⟨k2, q2, _, wf2⟩ := DataW.trod_int Tryz.underlying2 g2
      obtain ⟨k3, q3, _, wf3⟩ := DataW.trod_int Tryz.underlying3 g3
      simp only [List.cons.injEq, and_true] at q0 q1 q2 q3
      subst q0 q1 q2 q3
      have b0 := bounds_i64 wf0
      unfold maxLen at wf1
      have b2 := bounds_i64 wf2
      have b3 := bounds_i64 wf3
      exact ⟨⟨k0, k1, k2, k3⟩, by simpa using e0, by simpa using e1, by simpa using e2, by simpa using e3, ⟨b0.1, by show k0 ≤ _; omega⟩, by show k1.size ≤ _; omega, ⟨b2.1, by show k2 ≤ _; omega⟩, ⟨b3.1, by show k3 ≤ _; omega⟩⟩
    have hinh : Inhabited Tk := ⟨⟨0, ⟨#[]⟩, 0, 0⟩⟩
    obtain ⟨q, hq⟩ := choose_lt each
    refine ⟨some a, cap, (List.range len).map q, by simp, by simp; unfold maxLen at hm; omega, fun hne => ?_, fun y hy => ?_⟩
    · have h0 : 0 < len := by
        rcases Nat.eq_zero_or_pos len with e | e
        · subst e; simp at hne
        · exact e
      obtain ⟨b, off, spot⟩ := a
      have hc0 := (hq 0 h0).1
      have hspot : spot = none := by simpa [Addr.add] using World.cell?_spot hc0
      subst hspot
      refine ⟨b, off, rfl, ?_, fun i hi => ?_⟩
      · rcases Nat.lt_or_ge b W.heap.size with hlt | hge
        · exact hlt
        · exfalso
          rw [Go.WideShapes.add_plain] at hc0
          simp [World.cell?, Array.getElem?_eq_none hge] at hc0
      · have hi' : i < len := by simpa using hi
        obtain ⟨c0, c1, c2, c3, _⟩ := hq i hi'
        rw [Go.WideShapes.add_plain] at c0 c1 c2 c3
        simp only [List.getElem_map, List.getElem_range]
        exact ⟨c0, by rw [Nat.add_assoc]; exact c1, by rw [Nat.add_assoc]; exact c2, by rw [Nat.add_assoc]; exact c3⟩
    · obtain ⟨i, hi, rfl⟩ := List.mem_map.1 hy
      exact (hq i (List.mem_range.1 hi)).2.2.2.2
end Go.Proofs.YtgcmfcidmmjfiaaGreatDoor
namespace Go.Proofs.YtgcmfcidmmjfiaaGreatDoor
open Go.RowKit

/-- The tokens ahead of an end, and the end. -/
def isEnd (l : List Tk) : Bool := match l.getLast? with | some t => t.kd == 0 | none => false
def cutL (l : List Tk) : List Tk := if isEnd l = true then l.dropLast else l
def endT (l : List Tk) : Tk := if isEnd l = true then l.getLast?.getD ⟨0, ⟨#[]⟩, 0, 0⟩ else ⟨0, ⟨#[]⟩, 0, 0⟩
theorem TksAt.take {w : World} {ad : Option Addr} {l : List Tk} (h : TksAt w ad l) (n : Nat) : TksAt w ad (l.take n) := fun hl => by
  obtain ⟨b, off, e, hlt, hc⟩ := h (by intro e; subst e; simp at hl)
  refine ⟨b, off, e, hlt, fun i hi => ?_⟩
  rw [List.length_take] at hi
  have := hc i (by omega)
  simpa using this
theorem TksAt.cut {w : World} {ad : Option Addr} {l : List Tk} (h : TksAt w ad l) : TksAt w ad (cutL l) := by
  unfold cutL
  split
  · rw [List.dropLast_eq_take]; exact h.take _
  · exact h
theorem cutL_mem {l : List Tk} {t : Tk} (h : t ∈ cutL l) : t ∈ l := by
  unfold cutL at h
  split at h
  · exact List.dropLast_subset _ h
  · exact h
theorem isEnd_at (l : List Tk) (m : Nat) (h : l.length = m + 1) : isEnd l = (l[m].kd == 0) := by
  unfold isEnd
  rw [List.getLast?_eq_getElem?, show l.length - 1 = m by omega, List.getElem?_eq_getElem (by omega)]
theorem endT_at (l : List Tk) (m : Nat) (h : l.length = m + 1) (he : isEnd l = true) : endT l = l[m] := by
  unfold endT
  rw [if_pos he, List.getLast?_eq_getElem?, show l.length - 1 = m by omega, List.getElem?_eq_getElem (by omega)]
  rfl
set_option maxHeartbeats 2000000 in
set_option maxRecDepth 100000 in
theorem cutEnd_any (ad : Option Addr) (cap : Nat) (l : List Tk) (w : World) (hl : l.length ≤ 9223372036854775807) (hcap : l.length ≤ cap) (hA : TksAt w ad l) :
    Calls Tryz.prog 64 #[.slice ad l.length cap] w fun e w' => e = .returned (.tuple #[.slice ad (cutL l).length cap, (endT l).v]) ∧ Below w.heap.size w w' := by
  cases hn : l.length with
  | zero =>
    obtain rfl := List.eq_nil_of_length_eq_zero hn
    have e1 : cutL [] = [] := rfl
    have e2 : endT [] = ⟨0, ⟨#[]⟩, 0, 0⟩ := rfl
    rw [e1, e2]
    clear hA e1 e2 hn
    go_enter Tryz.func64, Tryz.ntmps64
    go_wp2
    exact bodyPost_ret (v := .tuple #[.slice ad 0 cap, .agg #[.int .i64 0, .string ⟨#[]⟩, .int .i64 0, .int .i64 0]]) (by simp [results, Tryz.results64, go_sem]) rfl ⟨rfl, (Below.refl _ _).alloc (Nat.le_refl _) _⟩
  | succ m =>
    obtain ⟨b, off, rfl, hlt, c0, c1, c2, c3⟩ := hA.at m (by omega)
    have h1 := isEnd_at l m hn
    have h2 := endT_at l m hn
    have k1 := Kp.alloc w (.cells #[.int .i64 0, .string ⟨#[]⟩, .int .i64 0, .int .i64 0] 75)
    have d0 := k1.cell c0 (by simp)
    have d1 := k1.cell c1 (by simp)
    have d2 := k1.cell c2 (by simp)
    have d3 := k1.cell c3 (by simp)
    generalize l[m] = T at *
    obtain ⟨k, s, n, p⟩ := T
    dsimp only at *
    clear c0 c1 c2 c3 k1 hA
    by_cases he : k = 0
    · subst he
      rw [show ((0 : Int) == 0) = true from rfl] at h1
      rw [h2 h1, show (cutL l).length = m by unfold cutL; rw [if_pos h1, List.length_dropLast]; omega]
      clear h1 h2
      have HL := hide hn
      have hl2 : m + 1 ≤ 9223372036854775807 := by omega
      have hcap2 : m + 1 ≤ cap := by omega
      clear hn hl hcap
      go_enter Tryz.func64, Tryz.ntmps64
      go_wp2_with fail
      have HB : Hid (Below w.heap.size w (w.alloc (.cells #[.int .i64 0, .string ⟨#[]⟩, .int .i64 0, .int .i64 0] 75))) := hide ((Below.refl _ _).alloc (Nat.le_refl _) _)
      have hbx : CBox w.heap.size #[.int .i64 0, .string ⟨#[]⟩, .int .i64 0, .int .i64 0] 75 (w.alloc (.cells #[.int .i64 0, .string ⟨#[]⟩, .int .i64 0, .int .i64 0] 75)) := CBox.new w _ _
      have hne : b ≠ w.heap.size := by omega
      generalize w.alloc (.cells #[.int .i64 0, .string ⟨#[]⟩, .int .i64 0, .int .i64 0] 75) = W at *
      have x0 := CBox.cell (i := 0) (v := .int .i64 0) hbx rfl
      have x1 := CBox.cell (i := 1) (v := .string ⟨#[]⟩) hbx rfl
      have x2 := CBox.cell (i := 2) (v := .int .i64 0) hbx rfl
      have x3 := CBox.cell (i := 3) (v := .int .i64 0) hbx rfl
      have f0 := CBox.froz hbx 0
      have f1 := CBox.froz hbx 1
      have f2 := CBox.froz hbx 2
      have f3 := CBox.froz hbx 3
      clear hbx
      go_region_with (fail)
      all_goals (go_wp2; exact bodyPost_ret (v := .tuple #[.slice (some ⟨b, off, none⟩) m cap, .agg #[.int .i64 0, .string s, .int .i64 n, .int .i64 p]]) (by simp [results, Tryz.results64, go_sem, x0, x1, x2, x3]) rfl ⟨rfl, ((((unhide HB).drew.setCell (p := ⟨w.heap.size, 0, none⟩) (Nat.le_refl _) _).setCell (p := ⟨w.heap.size, 1, none⟩) (Nat.le_refl _) _).setCell (p := ⟨w.heap.size, 2, none⟩) (Nat.le_refl _) _).setCell (p := ⟨w.heap.size, 3, none⟩) (Nat.le_refl _) _⟩)
    · have g : (k == 0) = false := by simpa using he
      rw [g] at h1
      have e2 : endT l = ⟨0, ⟨#[]⟩, 0, 0⟩ := by unfold endT; rw [h1]; rfl
      have e1 : cutL l = l := by unfold cutL; rw [h1]; rfl
      rw [e1, e2, hn]
      have HL := hide hn
      have hl2 : m + 1 ≤ 9223372036854775807 := by omega
      have g2 : (k != 0) = true := by simpa using he
      clear e1 e2 h1 h2 hn hl hcap
      go_enter Tryz.func64, Tryz.ntmps64
      go_wp2
      exact bodyPost_ret (v := .tuple #[.slice (some ⟨b, off, none⟩) (m + 1) cap, .agg #[.int .i64 0, .string ⟨#[]⟩, .int .i64 0, .int .i64 0]]) (by simp [results, Tryz.results64, go_sem]) rfl ⟨rfl, (Below.refl _ _).alloc (Nat.le_refl _) _⟩
end Go.Proofs.YtgcmfcidmmjfiaaGreatDoor
namespace Go.Proofs.YtgcmfcidmmjfiaaGreatDoor
open Go.RowKit

/-- A builder that holds these bytes lies in a block from B on. -/
def Bld (B b : Nat) (l : List UInt8) (w : World) : Prop := Lib.IsBuilder 109 5 B b (byteC l) w
theorem bInfo : (Tryz.prog.info? 109).map (·.size) = some 2 := by kernel_rfl
theorem bLies : liesAt Tryz.prog Tryz.prog.depth 109 (2 / Tryz.prog.cellsOf 109) 0 109 1 = true := by kernel_rfl
theorem Bld.form {B b : Nat} {l : List UInt8} {w : World} (h : Bld B b l w) : ∃ p v, (p = .pointer none ∨ p = .pointer (some ⟨b, 0, none⟩)) ∧ B ≤ b ∧ w.heap[b]? = some (.cells #[p, v] 109 (0, 0)) ∧ Owns B w v l ∧ v.ownBlock ≠ some b := by
  unfold Owns
  rcases h with ⟨h1, v, h2, h3, h4⟩ | ⟨h1, v, h2, h3, h4⟩
  · rw [byteC_length] at h3
    exact ⟨_, v, Or.inl rfl, h1, h2, h3, h4⟩
  · rw [byteC_length] at h3
    exact ⟨_, v, Or.inr rfl, h1, h2, h3, h4⟩
theorem Bld.of {B b : Nat} {l : List UInt8} {w : World} {v : Value} (h1 : B ≤ b) (h2 : w.heap[b]? = some (.cells #[.pointer (some ⟨b, 0, none⟩), v] 109 (0, 0))) (h3 : Owns B w v l) : Bld B b l w := by
  unfold Owns at h3
  rw [← byteC_length l] at h3
  exact Or.inr ⟨h1, v, h2, h3, Lib.ownBlock_ne h3 h2 (by decide)⟩
theorem Bld.new (w : World) : Bld w.heap.size w.heap.size [] (w.alloc (.cells #[.pointer none, .slice none 0 0] 109)) :=
  Or.inl ⟨Nat.le_refl _, _, heap_alloc_new w _, World.ownsRow_nil _ _ _ _, by simp [Value.ownBlock]⟩
set_option maxHeartbeats 1000000 in
set_option maxRecDepth 100000 in
theorem copyCheck_any (B b : Nat) (l : List UInt8) (w : World) (h : Bld B b l w) :
    Calls Tryz.prog 90 #[.pointer (some ⟨b, 0, none⟩)] w fun e w' => e = .returned (.tuple #[]) ∧ B ≤ b ∧ (∃ v, w'.heap[b]? = some (.cells #[.pointer (some ⟨b, 0, none⟩), v] 109 (0, 0)) ∧ Owns B w' v l) ∧ Below B w w' := by
  obtain ⟨j, hj, hjs⟩ := Option.map_eq_some_iff.1 bInfo
  rcases h with h | h
  · have c0 := h.cell0
    have hsh := h.shape
    have hfz := h.frozen0
    have HH := hide h
    clear h
    go_enter Tryz.func90, Tryz.ntmps90
    go_wp2
    rw [Lib.run_to_unsafe w ⟨b, 0, none⟩ Tryz.underlying106 Tryz.underlying154 hj (by rw [hjs]; decide) hsh (Nat.zero_lt_succ 1)]
    simp only [Result.andThen]
    rw [Oper.upon_value]
    go_wp2
    rw [run_callFunc_extern Tryz.func117 (by kernel_rfl) (by kernel_rfl) (by kernel_rfl) (e := Extern.AbiNoEscape.same) (by kernel_rfl)]
    rw [Lib.run_noEscape]
    simp only [Result.andThen]
    rw [Oper.upon_value]
    go_wp2
    rw [Lib.run_from_unsafe w ⟨b, 0, none⟩ Tryz.underlying154 Tryz.underlying106 hj hsh bLies]
    simp only [Result.andThen]
    rw [Oper.upon_value]
    go_wp2
    have h := unhide HH
    obtain ⟨h1, v, h2, h3, h4⟩ := h.used (.pointer (some ⟨b, 0, none⟩))
    rw [byteC_length] at h3
    go_end0
    exact ⟨rfl, h1, ⟨v, h2, h3⟩, (Below.refl B w).setCell (p := ⟨b, 0, none⟩) h1 _⟩
  · have c0 := h.cell0
    have HH := hide h
    clear h
    go_enter Tryz.func90, Tryz.ntmps90
    go_wp2
    rw [Lib.run_neq_ptr_same w _ Tryz.underlying106 hj]
    go_wp2
    obtain ⟨h1, v, h2, h3, h4⟩ := unhide HH
    rw [byteC_length] at h3
    go_end0
    exact ⟨rfl, h1, ⟨v, h2, h3⟩, Below.refl B w⟩
set_option maxHeartbeats 2000000 in
set_option maxRecDepth 100000 in
theorem writeByte_any (B b : Nat) (l : List UInt8) (c : Nat) (w : World) (h : Bld B b l w) (hc : c < 256) (hl : l.length + 1 ≤ 140737488355328) (hB : B ≤ w.heap.size) :
    Calls Tryz.prog 66 #[.pointer (some ⟨b, 0, none⟩), .int .u8 (c : Int)] w fun e w' => e = .returned .nilIface ∧ Bld B b (l ++ [UInt8.ofNat c]) w' ∧ Below B w w' := by
  obtain ⟨i0, hi, hz0, hz1, hz2⟩ := info_parts info_u8
  go_enter Tryz.func66, Tryz.ntmps66
  go_wp2_with fail
  refine (copyCheck_any B b l w h).mono ?_
  rintro e w1 ⟨rfl, hBb, ⟨v, hbk, hown⟩, hb1⟩
  have c1 : w1.cell? ⟨b, 1, none⟩ = some v := by rw [Lib.cell_of_heap hbk]; rfl
  clear h
  unfold Owns at hown
  go_wp2_with (at_builtin; refine wpList_append_own _ rfl _ _ 107 rfl B 5 i0 (.int .u8 0) 1 1 Tryz.underlying107 hi hz0 hz1 hz2 rfl (by decide) _ _ _ rfl (hown.alloc _) ⟨w1.heap.size, 0, none⟩ 1 1 [.int .u8 (c : Int)] rfl rfl ?c1 ?c2 ?c3 ?c4 ?c5 ?_)
  case c1 =>
    intro j u hj
    match j, hj with
    | 0, hj => simp at hj; subst hj; simp [Addr.add]
  case c2 => intro u hu; simp at hu; subst hu; rfl
  case c3 => unfold maxLen; omega
  case c4 => omega
  case c5 => have := hb1.size; simp; omega
  intro v' w2 hown' hgrow _
  have hlt : b < w1.heap.size := (Array.getElem?_eq_some_iff.1 hbk).1
  have hne := Lib.ownBlock_ne hown hbk (by decide)
  have hb2 : w2.heap[b]? = some (.cells #[.pointer (some ⟨b, 0, none⟩), v] 109 (0, 0)) := by
    rw [hgrow.block b (by simp; omega) (fun e => hne e.symm), Lib.alloc_old w1 _ b hlt]
    exact hbk
  have d1 : w2.cell? ⟨b, 1, none⟩ = some v := by rw [Lib.cell_of_heap hb2]; rfl
  have f1 : w2.frozen? ⟨b, 1, none⟩ = false := Lib.frozen_of_heap hb2 1
  obtain ⟨ao, n', cp, rfl⟩ : ∃ ao n' cp, v' = .slice ao n' cp := by
    rcases hown'.2 with ⟨hv, _⟩ | ⟨g, cap, cur, hv, _⟩
    · exact ⟨_, _, _, hv⟩
    · exact ⟨_, _, _, hv⟩
  have HR : Hid (Bld B b (l ++ [UInt8.ofNat c]) (w2.setCell ⟨b, 1, none⟩ (.slice ao n' cp)) ∧ Below B w (w2.setCell ⟨b, 1, none⟩ (.slice ao n' cp))) := by
    refine hide ⟨?_, ?_⟩
    · have := Lib.BuilderAt.put (T := 109) (e := 5) hBb hb2 (bs' := byteC (l ++ [UInt8.ofNat c])) (by rw [byteC_length, byteC_append, ← byteC_one c hc]; simpa using hown') (by decide)
      exact Or.inr this
    · exact ((hb1.alloc (by have := hb1.size; omega) _).grown hgrow (by have := hb1.size; simp; omega) (fun k hk => (hown.lt k hk).1)).setCell (p := ⟨b, 1, none⟩) hBb _
  clear hown' hgrow hown hbk
  go_wp2
  go_ret
  exact ⟨rfl, unhide HR⟩
set_option maxHeartbeats 2000000 in
set_option maxRecDepth 100000 in
theorem writeString_any (B b : Nat) (l : List UInt8) (s : ByteArray) (w : World) (h : Bld B b l w) (hl : l.length + s.size ≤ 140737488355328) (hB : B ≤ w.heap.size) :
    Calls Tryz.prog 67 #[.pointer (some ⟨b, 0, none⟩), .string s] w fun e w' => e = .returned (.tuple #[.int .i64 s.size, .nilIface]) ∧ Bld B b (l ++ s.data.toList) w' ∧ Below B w w' := by
  obtain ⟨i0, hi, hz0, hz1, hz2⟩ := info_parts info_u8
  go_enter Tryz.func67, Tryz.ntmps67
  go_wp2_with fail
  refine (copyCheck_any B b l w h).mono ?_
  rintro e w1 ⟨rfl, hBb, ⟨v, hbk, hown⟩, hb1⟩
  have c1 : w1.cell? ⟨b, 1, none⟩ = some v := by rw [Lib.cell_of_heap hbk]; rfl
  clear h
  unfold Owns at hown
  go_wp2_with (at_builtin; refine Lib.wpList_append_own_string _ rfl _ _ 107 9 rfl B 5 i0 Tryz.underlying107 Tryz.underlying9 hi hz0 hz1 hz2 _ _ _ rfl hown s rfl ?c3 ?c4 ?c5 ?_)
  case c3 => unfold maxLen; omega
  case c4 => omega
  case c5 => have := hb1.size; omega
  intro v' w2 hown' hgrow _
  have hlt : b < w1.heap.size := (Array.getElem?_eq_some_iff.1 hbk).1
  have hne := Lib.ownBlock_ne hown hbk (by decide)
  have hb2 : w2.heap[b]? = some (.cells #[.pointer (some ⟨b, 0, none⟩), v] 109 (0, 0)) := by
    rw [hgrow.block b hlt (fun e => hne e.symm)]
    exact hbk
  have d1 : w2.cell? ⟨b, 1, none⟩ = some v := by rw [Lib.cell_of_heap hb2]; rfl
  have f1 : w2.frozen? ⟨b, 1, none⟩ = false := Lib.frozen_of_heap hb2 1
  obtain ⟨ao, n', cp, rfl⟩ : ∃ ao n' cp, v' = .slice ao n' cp := by
    rcases hown'.2 with ⟨hv, _⟩ | ⟨g, cap, cur, hv, _⟩
    · exact ⟨_, _, _, hv⟩
    · exact ⟨_, _, _, hv⟩
  have HR : Hid (Bld B b (l ++ s.data.toList) (w2.setCell ⟨b, 1, none⟩ (.slice ao n' cp)) ∧ Below B w (w2.setCell ⟨b, 1, none⟩ (.slice ao n' cp))) := by
    refine hide ⟨?_, ?_⟩
    · have := Lib.BuilderAt.put (T := 109) (e := 5) hBb hb2 (bs' := byteC (l ++ s.data.toList)) (by rw [byteC_length, byteC_append, ← byteC_str s, List.length_append, Array.length_toList]; exact hown') (by decide)
      exact Or.inr this
    · exact (hb1.grown hgrow (by have := hb1.size; omega) (fun k hk => (hown.lt k hk).1)).setCell (p := ⟨b, 1, none⟩) hBb _
  clear hown' hgrow hown hbk
  go_wp2
  go_ret2
  exact ⟨rfl, unhide HR⟩
theorem bLen_any (B b : Nat) (l : List UInt8) (w : World) (h : Bld B b l w) :
    Calls Tryz.prog 68 #[.pointer (some ⟨b, 0, none⟩)] w fun e w' => e = .returned (.int .i64 l.length) ∧ w' = w := by
  have := Tryz.Builder_Len B b (byteC l) w h
  rw [byteC_length] at this
  exact this
theorem bString_any (B b : Nat) (l : List UInt8) (w : World) (h : Bld B b l w) (hB : B ≤ w.heap.size) :
    Calls Tryz.prog 69 #[.pointer (some ⟨b, 0, none⟩)] w fun e w' => e = .returned (.string ⟨l.toArray⟩) ∧ Below B w w' :=
  Tryz.Builder_String_any B b l w h hB
end Go.Proofs.YtgcmfcidmmjfiaaGreatDoor
