/-
  cutEnd: the tokens ahead of an end as the last one.
  A builder of texts of the call's own: a byte, a text is put at its end; how long it is; its text.
  Join: any tokens are joined as the plain function has it.
-/
import Derived.Test.YtjijhefmbmdbeaaGreatDoorD25
import Derived.Deep.RegionHeld3
import Derived.Deep.RegionWith
import Derived.Test.YtjijhefmbmdbeaaGreatDoorD05
import Derived.Lib.Builder
import Derived.Lib.AppendStr
import Derived.Laws.Externs
import Derived.Shelf.Strings.Builder1
namespace Go.Proofs.YtjijhefmbmdbeaaGreatDoor
open Go.RowKit

/-- The tokens ahead of an end, and the end. -/
def isEnd (l : List Tk) : Bool := match l.getLast? with | some t => t.kd == 0 | none => false
def cutL (l : List Tk) : List Tk := if isEnd l = true then l.dropLast else l
def endT (l : List Tk) : Tk := if isEnd l = true then l.getLast?.getD ⟨0, ⟨#[]⟩, 0, 0⟩ else ⟨0, ⟨#[]⟩, 0, 0⟩
theorem TksAt.take {w : World} {ad : Option Addr} {l : List Tk} (h : TksAt w ad l) (n : Nat) : TksAt w ad (l.take n) := fun hl => by
  obtain ⟨b, off, e, hlt, hc⟩ := h (by intro e; subst e; simp at hl)
  refine ⟨b, off, e, hlt, fun i hi => ?_⟩
  rw [List.length_take] at hi
  have := hc i (by omega)
  simpa using this
theorem TksAt.cut {w : World} {ad : Option Addr} {l : List Tk} (h : TksAt w ad l) : TksAt w ad (cutL l) := by
  unfold cutL
  split
  · rw [List.dropLast_eq_take]; exact h.take _
  · exact h
theorem cutL_mem {l : List Tk} {t : Tk} (h : t ∈ cutL l) : t ∈ l := by
  unfold cutL at h
  split at h
  · exact List.dropLast_subset _ h
  · exact h
theorem isEnd_at (l : List Tk) (m : Nat) (h : l.length = m + 1) : isEnd l = (l[m].kd == 0) := by
  unfold isEnd
  rw [List.getLast?_eq_getElem?, show l.length - 1 = m by omega, List.getElem?_eq_getElem (by omega)]
theorem endT_at (l : List Tk) (m : Nat) (h : l.length = m + 1) (he : isEnd l = true) : endT l = l[m] := by
  unfold endT
  rw [if_pos he, List.getLast?_eq_getElem?, show l.length - 1 = m by omega, List.getElem?_eq_getElem (by omega)]
  rfl
set_option maxHeartbeats 2000000 in
set_option maxRecDepth 100000 in
theorem cutEnd_any (ad : Option Addr) (cap : Nat) (l : List Tk) (w : World) (hl : l.length ≤ 9223372036854775807) (hcap : l.length ≤ cap) (hA : TksAt w ad l) :
    Calls Tryz.prog 62 #[.slice ad l.length cap] w fun e w' => e = .returned (.tuple #[.slice ad (cutL l).length cap, (endT l).v]) ∧ Below w.heap.size w w' := by
  cases hn : l.length with
  | zero =>
    obtain rfl := List.eq_nil_of_length_eq_zero hn
    have e1 : cutL [] = [] := rfl
    have e2 : endT [] = ⟨0, ⟨#[]⟩, 0, 0⟩ := rfl
    rw [e1, e2]
    clear hA e1 e2 hn
    go_enter Tryz.func62, Tryz.ntmps62
    go_wp2
    exact bodyPost_ret (v := .tuple #[.slice ad 0 cap, .agg #[.int .i64 0, .string ⟨#[]⟩, .int .i64 0, .int .i64 0]]) (by simp [results, Tryz.results62, go_sem]) rfl ⟨rfl, (Below.refl _ _).alloc (Nat.le_refl _) _⟩
  | succ m =>
    obtain ⟨b, off, rfl, hlt, c0, c1, c2, c3⟩ := hA.at m (by omega)
    have h1 := isEnd_at l m hn
    have h2 := endT_at l m hn
    have k1 := Kp.alloc w (.cells #[.int .i64 0, .string ⟨#[]⟩, .int .i64 0, .int .i64 0] 74)
    have d0 := k1.cell c0 (by simp)
    have d1 := k1.cell c1 (by simp)
    have d2 := k1.cell c2 (by simp)
    have d3 := k1.cell c3 (by simp)
    generalize l[m] = T at *
    obtain ⟨k, s, n, p⟩ := T
    dsimp only at *
    clear c0 c1 c2 c3 k1 hA
    by_cases he : k = 0
    · subst he
      rw [show ((0 : Int) == 0) = true from rfl] at h1
      rw [h2 h1, show (cutL l).length = m by unfold cutL; rw [if_pos h1, List.length_dropLast]; omega]
      clear h1 h2
      have HL := hide hn
      have hl2 : m + 1 ≤ 9223372036854775807 := by omega
      have hcap2 : m + 1 ≤ cap := by omega
      clear hn hl hcap
      go_enter Tryz.func62, Tryz.ntmps62
      go_wp2_with fail
      have HB : Hid (Below w.heap.size w (w.alloc (.cells #[.int .i64 0, .string ⟨#[]⟩, .int .i64 0, .int .i64 0] 74))) := hide ((Below.refl _ _).alloc (Nat.le_refl _) _)
      have hbx : CBox w.heap.size #[.int .i64 0, .string ⟨#[]⟩, .int .i64 0, .int .i64 0] 74 (w.alloc (.cells #[.int .i64 0, .string ⟨#[]⟩, .int .i64 0, .int .i64 0] 74)) := CBox.new w _ _
      have hne : b ≠ w.heap.size := by omega
      generalize w.alloc (.cells #[.int .i64 0, .string ⟨#[]⟩, .int .i64 0, .int .i64 0] 74) = W at *
      have x0 := CBox.cell (i := 0) (v := .int .i64 0) hbx rfl
      have x1 := CBox.cell (i := 1) (v := .string ⟨#[]⟩) hbx rfl
      have x2 := CBox.cell (i := 2) (v := .int .i64 0) hbx rfl
      have x3 := CBox.cell (i := 3) (v := .int .i64 0) hbx rfl
      have f0 := CBox.froz hbx 0
      have f1 := CBox.froz hbx 1
      have f2 := CBox.froz hbx 2
      have f3 := CBox.froz hbx 3
      clear hbx
      go_region_with (fail)
      all_goals (go_wp2; exact bodyPost_ret (v := .tuple #[.slice (some ⟨b, off, none⟩) m cap, .agg #[.int .i64 0, .string s, .int .i64 n, .int .i64 p]]) (by simp [results, Tryz.results62, go_sem, x0, x1, x2, x3]) rfl ⟨rfl, ((((unhide HB).drew.setCell (p := ⟨w.heap.size, 0, none⟩) (Nat.le_refl _) _).setCell (p := ⟨w.heap.size, 1, none⟩) (Nat.le_refl _) _).setCell (p := ⟨w.heap.size, 2, none⟩) (Nat.le_refl _) _).setCell (p := ⟨w.heap.size, 3, none⟩) (Nat.le_refl _) _⟩)
    · have g : (k == 0) = false := by simpa using he
      rw [g] at h1
      have e2 : endT l = ⟨0, ⟨#[]⟩, 0, 0⟩ := by unfold endT; rw [h1]; rfl
      have e1 : cutL l = l := by unfold cutL; rw [h1]; rfl
      rw [e1, e2, hn]
      have HL := hide hn
      have hl2 : m + 1 ≤ 9223372036854775807 := by omega
      have g2 : (k != 0) = true := by simpa using he
      clear e1 e2 h1 h2 hn hl hcap
      go_enter Tryz.func62, Tryz.ntmps62
      go_wp2
      exact bodyPost_ret (v := .tuple #[.slice (some ⟨b, off, none⟩) (m + 1) cap, .agg #[.int .i64 0, .string ⟨#[]⟩, .int .i64 0, .int .i64 0]]) (by simp [results, Tryz.results62, go_sem]) rfl ⟨rfl, (Below.refl _ _).alloc (Nat.le_refl _) _⟩
end Go.Proofs.YtjijhefmbmdbeaaGreatDoor
namespace Go.Proofs.YtjijhefmbmdbeaaGreatDoor
open Go.RowKit

/-- A builder that holds these bytes lies in a block from B on. -/
def Bld (B b : Nat) (l : List UInt8) (w : World) : Prop := Lib.IsBuilder 108 5 B b (byteC l) w
theorem bInfo : (Tryz.prog.info? 108).map (·.size) = some 2 := by kernel_rfl
theorem bLies : liesAt Tryz.prog Tryz.prog.depth 108 (2 / Tryz.prog.cellsOf 108) 0 108 1 = true := by kernel_rfl
theorem Bld.form {B b : Nat} {l : List UInt8} {w : World} (h : Bld B b l w) : ∃ p v, (p = .pointer none ∨ p = .pointer (some ⟨b, 0, none⟩)) ∧ B ≤ b ∧ w.heap[b]? = some (.cells #[p, v] 108 (0, 0)) ∧ Owns B w v l ∧ v.ownBlock ≠ some b := by
  unfold Owns
  rcases h with ⟨h1, v, h2, h3, h4⟩ | ⟨h1, v, h2, h3, h4⟩
  · rw [byteC_length] at h3
    exact ⟨_, v, Or.inl rfl, h1, h2, h3, h4⟩
  · rw [byteC_length] at h3
    exact ⟨_, v, Or.inr rfl, h1, h2, h3, h4⟩
theorem Bld.of {B b : Nat} {l : List UInt8} {w : World} {v : Value} (h1 : B ≤ b) (h2 : w.heap[b]? = some (.cells #[.pointer (some ⟨b, 0, none⟩), v] 108 (0, 0))) (h3 : Owns B w v l) : Bld B b l w := by
  unfold Owns at h3
  rw [← byteC_length l] at h3
  exact Or.inr ⟨h1, v, h2, h3, Lib.ownBlock_ne h3 h2 (by decide)⟩
theorem Bld.new (w : World) : Bld w.heap.size w.heap.size [] (w.alloc (.cells #[.pointer none, .slice none 0 0] 108)) :=
  Or.inl ⟨Nat.le_refl _, _, heap_alloc_new w _, World.ownsRow_nil _ _ _ _, by simp [Value.ownBlock]⟩
set_option maxHeartbeats 1000000 in
set_option maxRecDepth 100000 in
theorem copyCheck_any (B b : Nat) (l : List UInt8) (w : World) (h : Bld B b l w) :
    Calls Tryz.prog 88 #[.pointer (some ⟨b, 0, none⟩)] w fun e w' => e = .returned (.tuple #[]) ∧ B ≤ b ∧ (∃ v, w'.heap[b]? = some (.cells #[.pointer (some ⟨b, 0, none⟩), v] 108 (0, 0)) ∧ Owns B w' v l) ∧ Below B w w' := by
  obtain ⟨j, hj, hjs⟩ := Option.map_eq_some_iff.1 bInfo
  rcases h with h | h
  · have c0 := h.cell0
    have hsh := h.shape
    have hfz := h.frozen0
    have HH := hide h
    clear h
    go_enter Tryz.func88, Tryz.ntmps88
    go_wp2
    rw [Lib.run_to_unsafe w ⟨b, 0, none⟩ Tryz.underlying105 Tryz.underlying153 hj (by rw [hjs]; decide) hsh (Nat.zero_lt_succ 1)]
    simp only [Result.andThen]
    rw [Oper.upon_value]
    go_wp2
    rw [run_callFunc_extern Tryz.func115 (by kernel_rfl) (by kernel_rfl) (by kernel_rfl) (e := Extern.AbiNoEscape.same) (by kernel_rfl)]
    rw [Lib.run_noEscape]
    simp only [Result.andThen]
    rw [Oper.upon_value]
    go_wp2
    rw [Lib.run_from_unsafe w ⟨b, 0, none⟩ Tryz.underlying153 Tryz.underlying105 hj hsh bLies]
    simp only [Result.andThen]
    rw [Oper.upon_value]
    go_wp2
    have h := unhide HH
    obtain ⟨h1, v, h2, h3, h4⟩ := h.used (.pointer (some ⟨b, 0, none⟩))
    rw [byteC_length] at h3
    go_end0
    exact ⟨rfl, h1, ⟨v, h2, h3⟩, (Below.refl B w).setCell (p := ⟨b, 0, none⟩) h1 _⟩
  · have c0 := h.cell0
    have HH := hide h
    clear h
    go_enter Tryz.func88, Tryz.ntmps88
    go_wp2
    rw [Lib.run_neq_ptr_same w _ Tryz.underlying105 hj]
    go_wp2
    obtain ⟨h1, v, h2, h3, h4⟩ := unhide HH
    rw [byteC_length] at h3
    go_end0
    exact ⟨rfl, h1, ⟨v, h2, h3⟩, Below.refl B w⟩
set_option maxHeartbeats 2000000 in
set_option maxRecDepth 100000 in
theorem writeByte_any (B b : Nat) (l : List UInt8) (c : Nat) (w : World) (h : Bld B b l w) (hc : c < 256) (hl : l.length + 1 ≤ 140737488355328) (hB : B ≤ w.heap.size) :
    Calls Tryz.prog 64 #[.pointer (some ⟨b, 0, none⟩), .int .u8 (c : Int)] w fun e w' => e = .returned .nilIface ∧ Bld B b (l ++ [UInt8.ofNat c]) w' ∧ Below B w w' := by
  obtain ⟨i0, hi, hz0, hz1, hz2⟩ := info_parts info_u8
  go_enter Tryz.func64, Tryz.ntmps64
  go_wp2_with fail
  refine (copyCheck_any B b l w h).mono ?_
  rintro e w1 ⟨rfl, hBb, ⟨v, hbk, hown⟩, hb1⟩
  have c1 : w1.cell? ⟨b, 1, none⟩ = some v := by rw [Lib.cell_of_heap hbk]; rfl
  clear h
  unfold Owns at hown
  go_wp2_with (at_builtin; refine wpList_append_own _ rfl _ _ 106 rfl B 5 i0 (.int .u8 0) 1 1 Tryz.underlying106 hi hz0 hz1 hz2 rfl (by decide) _ _ _ rfl (hown.alloc _) ⟨w1.heap.size, 0, none⟩ 1 1 [.int .u8 (c : Int)] rfl rfl ?c1 ?c2 ?c3 ?c4 ?c5 ?_)
  case c1 =>
    intro j u hj
    match j, hj with
    | 0, hj => simp at hj; subst hj; simp [Addr.add]
  case c2 => intro u hu; simp at hu; subst hu; rfl
  case c3 => unfold maxLen; omega
  case c4 => omega
  case c5 => have := hb1.size; simp; omega
  intro v' w2 hown' hgrow _
  have hlt : b < w1.heap.size := (Array.getElem?_eq_some_iff.1 hbk).1
  have hne := Lib.ownBlock_ne hown hbk (by decide)
  have hb2 : w2.heap[b]? = some (.cells #[.pointer (some ⟨b, 0, none⟩), v] 108 (0, 0)) := by
    rw [hgrow.block b (by simp; omega) (fun e => hne e.symm), Lib.alloc_old w1 _ b hlt]
    exact hbk
  have d1 : w2.cell? ⟨b, 1, none⟩ = some v := by rw [Lib.cell_of_heap hb2]; rfl
  have f1 : w2.frozen? ⟨b, 1, none⟩ = false := Lib.frozen_of_heap hb2 1
  obtain ⟨ao, n', cp, rfl⟩ : ∃ ao n' cp, v' = .slice ao n' cp := by
    rcases hown'.2 with ⟨hv, _⟩ | ⟨g, cap, cur, hv, _⟩
    · exact ⟨_, _, _, hv⟩
    · exact ⟨_, _, _, hv⟩
  have HR : Hid (Bld B b (l ++ [UInt8.ofNat c]) (w2.setCell ⟨b, 1, none⟩ (.slice ao n' cp)) ∧ Below B w (w2.setCell ⟨b, 1, none⟩ (.slice ao n' cp))) := by
    refine hide ⟨?_, ?_⟩
    · have := Lib.BuilderAt.put (T := 108) (e := 5) hBb hb2 (bs' := byteC (l ++ [UInt8.ofNat c])) (by rw [byteC_length, byteC_append, ← byteC_one c hc]; simpa using hown') (by decide)
      exact Or.inr this
    · exact ((hb1.alloc (by have := hb1.size; omega) _).grown hgrow (by have := hb1.size; simp; omega) (fun k hk => (hown.lt k hk).1)).setCell (p := ⟨b, 1, none⟩) hBb _
  clear hown' hgrow hown hbk
  go_wp2
  go_ret
  exact ⟨rfl, unhide HR⟩
set_option maxHeartbeats 2000000 in
set_option maxRecDepth 100000 in
theorem writeString_any (B b : Nat) (l : List UInt8) (s : ByteArray) (w : World) (h : Bld B b l w) (hl : l.length + s.size ≤ 140737488355328) (hB : B ≤ w.heap.size) :
    Calls Tryz.prog 65 #[.pointer (some ⟨b, 0, none⟩), .string s] w fun e w' => e = .returned (.tuple #[.int .i64 s.size, .nilIface]) ∧ Bld B b (l ++ s.data.toList) w' ∧ Below B w w' := by
  obtain ⟨i0, hi, hz0, hz1, hz2⟩ := info_parts info_u8
  go_enter Tryz.func65, Tryz.ntmps65
  go_wp2_with fail
  refine (copyCheck_any B b l w h).mono ?_
  rintro e w1 ⟨rfl, hBb, ⟨v, hbk, hown⟩, hb1⟩
  have c1 : w1.cell? ⟨b, 1, none⟩ = some v := by rw [Lib.cell_of_heap hbk]; rfl
  clear h
  unfold Owns at hown
  go_wp2_with (at_builtin; refine Lib.wpList_append_own_string _ rfl _ _ 106 9 rfl B 5 i0 Tryz.underlying106 Tryz.underlying9 hi hz0 hz1 hz2 _ _ _ rfl hown s rfl ?c3 ?c4 ?c5 ?_)
  case c3 => unfold maxLen; omega
  case c4 => omega
  case c5 => have := hb1.size; omega
  intro v' w2 hown' hgrow _
  have hlt : b < w1.heap.size := (Array.getElem?_eq_some_iff.1 hbk).1
  have hne := Lib.ownBlock_ne hown hbk (by decide)
  have hb2 : w2.heap[b]? = some (.cells #[.pointer (some ⟨b, 0, none⟩), v] 108 (0, 0)) := by
    rw [hgrow.block b hlt (fun e => hne e.symm)]
    exact hbk
  have d1 : w2.cell? ⟨b, 1, none⟩ = some v := by rw [Lib.cell_of_heap hb2]; rfl
  have f1 : w2.frozen? ⟨b, 1, none⟩ = false := Lib.frozen_of_heap hb2 1
  obtain ⟨ao, n', cp, rfl⟩ : ∃ ao n' cp, v' = .slice ao n' cp := by
    rcases hown'.2 with ⟨hv, _⟩ | ⟨g, cap, cur, hv, _⟩
    · exact ⟨_, _, _, hv⟩
    · exact ⟨_, _, _, hv⟩
  have HR : Hid (Bld B b (l ++ s.data.toList) (w2.setCell ⟨b, 1, none⟩ (.slice ao n' cp)) ∧ Below B w (w2.setCell ⟨b, 1, none⟩ (.slice ao n' cp))) := by
    refine hide ⟨?_, ?_⟩
    · have := Lib.BuilderAt.put (T := 108) (e := 5) hBb hb2 (bs' := byteC (l ++ s.data.toList)) (by rw [byteC_length, byteC_append, ← byteC_str s, List.length_append, Array.length_toList]; exact hown') (by decide)
      exact Or.inr this
    · exact (hb1.grown hgrow (by have := hb1.size; omega) (fun k hk => (hown.lt k hk).1)).setCell (p := ⟨b, 1, none⟩) hBb _
  clear hown' hgrow hown hbk
  go_wp2
  go_ret2
  exact ⟨rfl, unhide HR⟩
theorem bLen_any (B b : Nat) (l : List UInt8) (w : World) (h : Bld B b l w) :
    Calls Tryz.prog 66 #[.pointer (some ⟨b, 0, none⟩)] w fun e w' => e = .returned (.int .i64 l.length) ∧ w' = w := by
  have := Tryz.Builder_Len B b (byteC l) w h
  rw [byteC_length] at this
  exact this
theorem bString_any (B b : Nat) (l : List UInt8) (w : World) (h : Bld B b l w) (hB : B ≤ w.heap.size) :
    Calls Tryz.prog 67 #[.pointer (some ⟨b, 0, none⟩)] w fun e w' => e = .returned (.string ⟨l.toArray⟩) ∧ Below B w w' :=
  Tryz.Builder_String_any B b l w h hB
end Go.Proofs.YtjijhefmbmdbeaaGreatDoor
namespace Go.Proofs.YtjijhefmbmdbeaaGreatDoor
open Go.RowKit

theorem Bld.below {B b : Nat} {l : List UInt8} {w w' : World} (h : Bld B b l w) (hb : Below w.heap.size w w') : Bld B b l w' := by
  have key : ∀ p, Lib.BuilderAt 108 5 B b p (byteC l) w → Lib.BuilderAt 108 5 B b p (byteC l) w' := fun p h => by
    have hlt := h.lt
    obtain ⟨h1, v, h2, h3, h4⟩ := h
    refine ⟨h1, v, (hb.block b hlt).trans h2, ?_, h4⟩
    refine World.ownsRow.kept (row := none) h3 ⟨hb.os, hb.tape, hb.output, hb.size, fun k hk _ => hb.block k hk⟩ ?_
    cases v.ownBlock
    · exact Or.inl rfl
    · exact Or.inr (by simp)
  rcases h with h | h
  · exact Or.inl (key _ h)
  · exact Or.inr (key _ h)
theorem Bld.alloc {B b : Nat} {l : List UInt8} {w : World} (h : Bld B b l w) (o : Obj) : Bld B b l (w.alloc o) := h.below ((Below.refl _ _).alloc (Nat.le_refl _) o)
theorem tailB_len (l : List Tk) (h : ∀ t ∈ l, wrOk t = true) : (tailB l).length ≤ l.length * 259 := by
  induction l with
  | nil => simp [tailB]
  | cons t r ih =>
    have h1 := (wrOk_iff t).1 (h t (by simp))
    obtain ⟨_, hl, hsp, _, _, _, _, hn0, hn1, _⟩ := tkR_some h1.2
    have h2 := spell_len t h1.1 (by have : (t.out 0).n = t.n := rfl; omega) (by have : (t.out 0).n = t.n := rfl; omega)
    have h3 := ih (fun x hx => h x (by simp [hx]))
    rw [show tailB (t :: r) = 32 :: (spell t ++ tailB r) by unfold tailB; simp]
    simp only [List.length_cons, List.length_append]
    omega
theorem joinB_len (l : List Tk) (h : ∀ t ∈ l, wrOk t = true) : (joinB l).length ≤ l.length * 259 := by
  have := tailB_len l h
  cases l with
  | nil => simp [joinB]
  | cons t r =>
    rw [show tailB (t :: r) = 32 :: joinB (t :: r) by unfold joinB tailB; simp] at this
    simp only [List.length_cons] at this ⊢
    omega
theorem TksAt.below {w w' : World} {ad : Option Addr} {l : List Tk} {B : Nat} (h : TksAt w ad l) (hb : Below B w w') (hB : w.heap.size ≤ B) : TksAt w' ad l := h.kp ⟨hb.os, hb.tape, hb.output, hb.size, fun k hk _ => hb.block k (by omega)⟩
theorem join_next {a : List Tk} {k : Nat} (h : k < a.length) : joinB (a.take (k + 1)) = if k = 0 then spell a[k] else (joinB (a.take k) ++ [32]) ++ spell a[k] := by
  rw [List.take_succ_eq_append_getElem h, joinB_snoc]
  by_cases hk : k = 0
  · rw [if_pos hk, if_pos (by subst hk; rfl)]
  · rw [if_neg hk, if_neg (fun e => by have := congrArg List.length e; rw [List.length_take] at this; simp only [List.length_nil] at this; omega), List.append_assoc]
    rfl
theorem wr_next {a : List Tk} {k : Nat} (h : k < a.length) (h1 : ∀ t ∈ a.take k, wrOk t = true) (h2 : wrOk a[k] = true) : ∀ t ∈ a.take (k + 1), wrOk t = true := by
  rw [List.take_succ_eq_append_getElem h]
  intro t ht
  rcases List.mem_append.1 ht with h3 | h3
  · exact h1 t h3
  · simp at h3; subst h3; exact h2
theorem join_len {a : List Tk} {k : Nat} (h : k ≤ a.length) (ha : a.length ≤ 4096) (h1 : ∀ t ∈ a.take k, wrOk t = true) : (joinB (a.take k)).length ≤ 1060864 := by
  have := joinB_len _ h1
  rw [List.length_take] at this
  omega
/-- What Join tells. -/
def joR (l : List Tk) : List UInt8 × Int :=
  if 4096 < (cutL l).length then ([], 2) else if ¬ (∀ t ∈ cutL l, wrOk t = true) then ([], 100) else if ¬ ((endT l).s.size = 0 ∧ (endT l).n = 0) then ([], 100) else
  if 262144 < (joinB (cutL l)).length then ([], 2) else (joinB (cutL l), 0)
set_option maxHeartbeats 4000000 in
set_option maxRecDepth 100000 in
theorem join_any (ad : Option Addr) (cap : Nat) (l : List Tk) (w : World) (hT : TbW w) (hl : l.length ≤ 9223372036854775807) (hcap : l.length ≤ cap) (hA : TksAt w ad l) (hok : ∀ t ∈ l, t.ok) :
    Calls Tryz.prog 41 #[.slice ad l.length cap] w fun e w' => e = .returned (.tuple #[.string (txt (joR l).1), .int .i64 (joR l).2]) ∧ Below w.heap.size w w' := by
  have CE := cutEnd_any ad cap l w hl hcap hA
  have hAc := hA.cut
  have hokc : ∀ t ∈ cutL l, t.ok := fun t ht => hok t (cutL_mem ht)
  have hlc : (cutL l).length ≤ 9223372036854775807 := by
    unfold cutL
    split
    · rw [List.length_dropLast]; omega
    · exact hl
  have hlow := hT.low
  generalize hR : joR l = R
  unfold joR at hR
  generalize cutL l = a at *
  generalize endT l = E at *
  generalize l.length = nl at *
  clear hA hok hl hcap
  obtain ⟨ek, es, en, ep⟩ := E
  dsimp only [Tk.v] at CE hR
  have HCE := hide CE
  clear CE
  by_cases hbig : 4096 < a.length
  · rw [if_pos hbig] at hR
    subst hR
    clear hAc hokc
    generalize a.length = n at *
    go_enter Tryz.func41, Tryz.ntmps41
    go_wp2_with fail
    refine (unhide HCE).mono ?_
    rintro e w1 ⟨rfl, hb1⟩
    have HB : Hid (Below w.heap.size w (w1.alloc (.cells #[.int .i64 ek, .string es, .int .i64 en, .int .i64 ep] 74))) := hide (hb1.alloc hb1.size _)
    clear hb1
    go_wp2
    go_ret2
    exact ⟨rfl, unhide HB⟩
  · rw [if_neg hbig] at hR
    have HR := hide hR
    clear hR
    have HOK := hide hokc
    clear hokc
    go_enter Tryz.func41, Tryz.ntmps41
    go_wp2_with fail
    refine (unhide HCE).mono ?_
    rintro e w1 ⟨rfl, hb1⟩
    have hA1 : TksAt w1 ad a := hAc.kp (Kp.ofBelow hb1)
    have hl1 := hb1.size
    have HB1 := hide hb1
    clear hb1 HCE hAc
    go_wp2_with fail
    have hA2 : TksAt (w1.alloc (.cells #[.int .i64 ek, .string es, .int .i64 en, .int .i64 ep] 74)) ad a := hA1.kp (Kp.alloc _ _)
    have hE2 : CBox w1.heap.size #[.int .i64 ek, .string es, .int .i64 en, .int .i64 ep] 74 (w1.alloc (.cells #[.int .i64 ek, .string es, .int .i64 en, .int .i64 ep] 74)) := CBox.new _ _ _
    have hb2 : Below w.heap.size w (w1.alloc (.cells #[.int .i64 ek, .string es, .int .i64 en, .int .i64 ep] 74)) := (unhide HB1).alloc hl1 _
    have hT2 := hT.below hb2 (by omega)
    have hBl := Bld.new (w1.alloc (.cells #[.int .i64 ek, .string es, .int .i64 en, .int .i64 ep] 74))
    have hsz : (w1.alloc (.cells #[.int .i64 ek, .string es, .int .i64 en, .int .i64 ep] 74)).heap.size = w1.heap.size + 1 := by simp
    have hbw : Below (w1.alloc (.cells #[.int .i64 ek, .string es, .int .i64 en, .int .i64 ep] 74)).heap.size (w1.alloc (.cells #[.int .i64 ek, .string es, .int .i64 en, .int .i64 ep] 74)) ((w1.alloc (.cells #[.int .i64 ek, .string es, .int .i64 en, .int .i64 ep] 74)).alloc (.cells #[.pointer none, .slice none 0 0] 108)) := (Below.refl _ _).alloc (Nat.le_refl _) _
    have hlw : w.heap.size < w1.heap.size + 1 := by omega
    rw [hsz] at hBl hbw
    clear hA1 HB1
    generalize w1.alloc (.cells #[.int .i64 ek, .string es, .int .i64 en, .int .i64 ep] 74) = W1 at *
    have hbE : w1.heap.size < w1.heap.size + 1 := by omega
    generalize w1.heap.size + 1 = B at *
    generalize w1.heap.size = bE at *
    have HSZ := hide hsz
    clear hsz hl1
    have HB2 := hide hb2
    clear hb2
    go_loopw [21] (fun i wr => ∃ k : Nat, k ≤ a.length ∧ i = .int .i64 k ∧ Bld B B (joinB (a.take k)) wr ∧ Below B W1 wr ∧ Hid (∀ t ∈ a.take k, wrOk t = true)) (fun i _ => a.length - (intOf i).toNat)
    case atStart => exact ⟨0, Nat.zero_le _, rfl, hBl, hbw, hide (by simp)⟩
    case round =>
      obtain ⟨k, hk, rfl, hbl, hbe, HW⟩ := hrel
      have hBr : B ≤ wr.heap.size := by have := hbe.size; have := unhide HSZ; omega
      have hTr : TbW wr := hT2.below hbe (by omega)
      clear hBl hbw
      by_cases hlt : k < a.length
      · obtain ⟨b, off, rfl, hbl2, c0, c1, c2, c3⟩ := (hA2.below hbe (by rw [unhide HSZ]; exact Nat.le_refl _)).at k hlt
        have hokk := unhide HOK a[k] (List.getElem_mem hlt)
        have JN := join_next hlt
        have HJL := hide (join_len hk (by omega) (unhide HW))
        have WN := fun h => wr_next hlt (unhide HW) h
        have WR := tkWrite_any a[k] (wr.alloc (.cells a[k].c 74)) (hTr.alloc _) hokk.2.1 hokk.2.2.1.1 hokk.2.2.1.2
        have hbx : Bld B B (joinB (a.take k)) (wr.alloc (.cells a[k].c 74)) := hbl.alloc _
        have hbex : Below B W1 (wr.alloc (.cells a[k].c 74)) := hbe.alloc hBr _
        have hno : wrOk a[k] = false → ¬ (∀ t ∈ a, wrOk t = true) := fun h hh => by have := hh a[k] (List.getElem_mem hlt); rw [h] at this; cases this
        generalize wrOk a[k] = OK at *
        have hsl : ∀ h : OK = true, True := fun _ => trivial
        generalize hTe : a[k] = T at *
        obtain ⟨tk, ts, tn, tp⟩ := T
        unfold Tk.v at WR
        unfold Tk.c at WR hbx hbex
        dsimp only at *
        have HTE := hide hTe
        have HJN := hide JN
        have HWN := hide WN
        have HWR := hide WR
        have HNO := hide hno
        clear JN WN WR hno hTe hbl hbe hsl
        go_wp2_with fail
        refine (unhide HWR).mono ?_
        rintro e w2 ⟨bb, rfl, hbb, hb2⟩
        have hx2 := hbx.below hb2
        have hbe2 : Below B W1 w2 := hbex.trans (hb2.mono (by simp; omega))
        have hs2 : B ≤ w2.heap.size := by have := hb2.size; simp at this; omega
        clear hbx hbex hb2 HWR c0 c1 c2 c3
        cases OK with
        | false =>
          have hr := unhide HR
          rw [if_pos (unhide HNO rfl)] at hr
          subst hr
          have HB3 : Hid (Below w.heap.size w w2) := hide ((unhide HB2).trans (hbe2.mono (by omega)))
          go_wp2
          go_ret2
          exact ⟨rfl, unhide HB3⟩
        | true =>
          obtain rfl := hbb rfl
          have hall := unhide HWN rfl
          have hlen := join_len (k := k + 1) hlt (by omega) hall
          have hJL := unhide HJL
          have hjn := unhide HJN
          rw [hjn] at hlen
          have HALL := hide hall
          clear hall hbb HWN HJN HJL HNO
          generalize spell ⟨tk, ts, tn, tp⟩ = sp at *
          by_cases hk0 : 0 < k
          · rw [if_neg (by omega)] at hlen hjn
            have WB : Calls Tryz.prog 64 #[.pointer (some ⟨B, 0, none⟩), .int .u8 32] w2 fun e w' => e = .returned .nilIface ∧ Bld B B (joinB (a.take k) ++ [32]) w' ∧ Below B w2 w' := writeByte_any B B _ 32 w2 hx2 (by omega) (by omega) hs2
            have hsp : (txt sp).size ≤ 1060864 := by rw [txt_size]; simp only [List.length_append, List.length_singleton] at hlen; omega
            have hjl1 : (joinB (a.take k) ++ [32]).length ≤ 1060865 := by simp only [List.length_append, List.length_singleton]; omega
            have HJ : Hid (joinB (a.take k) ++ [32] ++ (txt sp).data.toList = joinB (a.take (k + 1))) := hide (by rw [hjn, txt_list])
            have HWB := hide WB
            clear WB hjn hlen
            go_wp2_with fail
            refine (unhide HWB).mono ?_
            rintro e w3 ⟨rfl, hx3, hb3⟩
            have hs3 : B ≤ w3.heap.size := Nat.le_trans hs2 hb3.size
            have WS := writeString_any B B (joinB (a.take k) ++ [32]) (txt sp) w3 hx3 (by omega) hs3
            have HWS := hide WS
            have hbe3 : Below B W1 w3 := hbe2.trans hb3
            clear WS hx3 hb3 hbe2 hx2 HWB
            go_wp2_with fail
            refine (unhide HWS).mono ?_
            rintro e w4 ⟨rfl, hx4, hb4⟩
            rw [unhide HJ] at hx4
            have hbe4 : Below B W1 w4 := hbe3.trans hb4
            clear hb4 hbe3 HWS HJ
            go_wp2
            go_roundw
            case rel => exact ⟨k + 1, by omega, by go_num, hx4, hbe4, HALL⟩
            case measure => simp [intOf]; omega
          · rw [if_pos (by omega)] at hlen hjn
            have hsp : (txt sp).size ≤ 1060864 := by rw [txt_size]; exact hlen
            have WS := writeString_any B B (joinB (a.take k)) (txt sp) w2 hx2 (by omega) hs2
            have HWS := hide WS
            have HJ : Hid (joinB (a.take k) ++ (txt sp).data.toList = joinB (a.take (k + 1))) := hide (by rw [hjn, txt_list, show k = 0 by omega]; rfl)
            clear WS hjn hlen hJL
            go_wp2_with fail
            refine (unhide HWS).mono ?_
            rintro e w3 ⟨rfl, hx3, hb3⟩
            rw [unhide HJ] at hx3
            have hbe3 : Below B W1 w3 := hbe2.trans hb3
            clear hb3 hx2 hbe2 HWS HJ
            go_wp2
            go_roundw
            case rel => exact ⟨k + 1, by omega, by go_num, hx3, hbe3, HALL⟩
            case measure => simp [intOf]; omega
      · have hka : k = a.length := by omega
        have hhw := unhide HW
        rw [hka, List.take_length] at hbl hhw
        have hr := unhide HR
        rw [if_neg (not_not_intro hhw)] at hr
        have hJL := joinB_len a hhw
        have q : CBox bE #[.int .i64 ek, .string es, .int .i64 en, .int .i64 ep] 74 wr := by unfold CBox; rw [hbe.block bE (by omega)]; exact hE2
        have q1 := CBox.cell (i := 1) (v := .string es) q rfl
        have q2 := CBox.cell (i := 2) (v := .int .i64 en) q rfl
        have HBW : Hid (Below w.heap.size w wr) := hide ((unhide HB2).trans (hbe.mono (by omega)))
        clear HR HW hka hhw q hbe hE2 hA2
        by_cases hes : es.size = 0
        · have g1 : es.toList.isEmpty = true := by rw [ByteArray.toList_eq, List.isEmpty_iff]; exact List.eq_nil_of_length_eq_zero (by rw [size_list]; exact hes)
          by_cases hen : en = 0
          · rw [if_neg (not_not_intro ⟨hes, hen⟩)] at hr
            have HES := hide hes
            subst hen
            clear hes
            have BL := bLen_any B B _ wr hbl
            have BS := bString_any B B _ wr hbl hBr
            generalize joinB a = J at *
            have HBL := hide BL
            have HBS := hide BS
            clear BL BS hbl
            by_cases hJ : 262144 < J.length
            · rw [if_pos hJ] at hr
              subst hr
              go_wp2_with fail
              refine (unhide HBL).mono ?_
              rintro e w3 ⟨rfl, rfl⟩
              go_wp2
              go_ret2
              exact ⟨rfl, unhide HBW⟩
            · rw [if_neg hJ] at hr
              subst hr
              go_wp2_with fail
              refine (unhide HBL).mono ?_
              rintro e w3 ⟨rfl, rfl⟩
              go_wp2_with fail
              refine (unhide HBS).mono ?_
              rintro e w3 ⟨rfl, hb3⟩
              have HB3 : Hid (Below w.heap.size w w3) := hide ((unhide HBW).trans (hb3.mono (by omega)))
              clear hb3
              go_wp2
              go_ret2
              exact ⟨rfl, unhide HB3⟩
          · rw [if_pos (fun h => hen h.2)] at hr
            subst hr
            have g2 : (en != 0) = true := by simpa using hen
            have HES := hide hes
            clear hes hbl hen
            go_wp2
            go_ret2
            exact ⟨rfl, unhide HBW⟩
        · rw [if_pos (fun h => hes h.1)] at hr
          subst hr
          have g1 : es.toList.isEmpty = false := by
            rw [ByteArray.toList_eq, List.isEmpty_eq_false_iff]
            intro e
            have := size_list es
            rw [e] at this
            simp at this
            omega
          clear hes hbl
          go_wp2
          go_ret2
          exact ⟨rfl, unhide HBW⟩
end Go.Proofs.YtjijhefmbmdbeaaGreatDoor
