/-
  How a leaf is written.
  slices.Backward over parts: an iterator that tells them from the last on; statements whose order is drawn, within a round of a loop over an iterator.
  A slice of parts that comes in as an argument: they lie where it says.
  slices.Backward over parts: an iterator that tells them from the last on.
-/
import Derived.Test.YtogklmljllocbabGreatDoorF16
import Derived.Test.YtogklmljllocbabGreatDoorF12
import Derived.Test.YtogklmljllocbabGreatDoorF15
import Derived.RangeFuncNested
import Derived.RangeFuncBound
import Derived.RangeFuncCalls
import Derived.RangeFuncLeaves
import Derived.RangeFuncBox
import Derived.Shelf.Abstract
import Derived.Shelf.RegionOpen
import Derived.OwnWalkIn
import Derived.TacticsInMore
import Derived.LoopNIn
import Derived.LoopIn
import Derived.Test.YtogklmljllocbabGreatDoorF07
import Derived.ProofKit
import Derived.OpenShut
import Derived.Deep.Slices
namespace Go.Proofs.YtogklmljllocbabGreatDoor
open Go.RowKit

theorem fld_cell {w : World} (hT : TbE w) (k : Nat) (hk : k < 6) : w.cell? ⟨2, k, none⟩ = some (.string (txt (fldN (k : Int)))) := by
  obtain ⟨h0, h1, h2, h3, h4, h5⟩ := hT.fds
  match k, hk with
  | 0, _ => exact h0
  | 1, _ => exact h1
  | 2, _ => exact h2
  | 3, _ => exact h3
  | 4, _ => exact h4
  | 5, _ => exact h5
theorem fldN_len (k : Nat) : (fldN (k : Int)).length ≤ 4 := by
  match k with
  | 0 => decide
  | 1 => decide
  | 2 => decide
  | 3 => decide
  | 4 => decide
  | 5 => decide
  | k + 6 => unfold fldN fldW; rw [Int.toNat_natCast, List.getD_eq_getElem?_getD, List.getElem?_eq_none (by simp)]; decide
theorem emptyB_eq {s : ByteArray} (h : emptyB s = true) : s = ⟨#[]⟩ := by
  unfold emptyB at h
  apply ByteArray.ext
  apply Array.ext'
  have h1 : s.size = 0 := by simpa using h
  have h2 : s.data.toList.length = 0 := by rw [Array.length_toList]; exact h1
  show s.data.toList = []
  exact List.length_eq_zero_iff.1 h2
theorem emptyB_ne {s : ByteArray} (h : emptyB s = false) : s.toList.isEmpty = false := by
  unfold emptyB at h
  have h1 : s.size ≠ 0 := by simpa using h
  rw [toList_data]
  cases he : s.data.toList with
  | nil =>
    have : s.data.toList.length = s.size := Array.length_toList
    rw [he] at this
    exact absurd this.symm h1
  | cons a r => rfl
/-- A leaf that may be. -/
theorem lfK_cases {p : Pt} (h : lfK p ≠ 0) : (p.kd = 1 ∧ 0 ≤ p.n) ∨ (p.kd = 2 ∧ p.s.size ≤ 256) ∨ (p.kd = 3 ∧ (emptyB p.st = true ∨ p.st.size ≤ 32) ∧ 0 ≤ p.fl ∧ p.fl < 6) := by
  unfold lfK at h
  split at h
  · rename_i h1; exact Or.inl ⟨h1.1, h1.2.2.2.2⟩
  · split at h
    · rename_i _ h1
      have := h1.2.2.2.2
      unfold isTx at this
      simp only [Bool.and_eq_true, decide_eq_true_eq] at this
      exact Or.inr (Or.inl ⟨h1.1, this.1⟩)
    · split at h
      · rename_i _ _ h1
        refine Or.inr (Or.inr ⟨h1.1, ?_, ?_⟩)
        · rcases h1.2.2.2 with h2 | h2
          · exact Or.inl h2
          · unfold isSg at h2
            simp only [Bool.and_eq_true, decide_eq_true_eq] at h2
            exact Or.inr h2.1.1.1.2
        · unfold fldK at h
          split at h
          · omega
          · split at h
            · omega
            · exact absurd rfl h
      · exact absurd rfl h
set_option maxHeartbeats 2000000 in
set_option maxRecDepth 100000 in
theorem writtenLeaf_any (p : Pt) (w : World) (hT : TbE w) (hk : lfK p ≠ 0) (hn : p.n ≤ 9223372036854775807) : Calls Tryz.prog 151 #[p.v] w fun e w' => e = .returned (.string (txt (lfB p))) ∧ Below w.heap.size w w' := by
  have hc := lfK_cases hk
  clear hk
  unfold lfB Pt.v
  obtain ⟨kd, n, s, st, fl⟩ := p
  dsimp only at *
  rcases hc with ⟨rfl, h0⟩ | ⟨rfl, hs⟩ | ⟨rfl, hst, hf0, hf6⟩
  · rw [if_pos rfl]
    have FM := hide (format_any n (by omega) hn _ (hT.tok.alloc (.cells #[.int .i64 1, .int .i64 n, .string s, .string st, .int .i64 fl] 89)))
    clear hT
    go_enter Tryz.func151, Tryz.ntmps151
    go_wp2_with fail
    refine (unhide FM).mono ?_
    rintro e w1 ⟨rfl, hb⟩
    have HB : Hid (Below w.heap.size w w1) := hide (((Below.refl _ _).alloc (Nat.le_refl _) _).trans (hb.mono (by simp)))
    clear hb FM
    go_wp2
    exact bodyPost_ret (results_tmp rfl _ _ _) rfl ⟨rfl, unhide HB⟩
  · rw [if_neg (by decide), if_pos rfl, ← quo_size]
    have D1 : ∀ W, (Op.stringOp .add { data := #[39] } s).run Tryz.prog W = .ok (.string (⟨#[39]⟩ ++ s)) W := fun W => run_string_add_sum W _ _ (by have : (⟨#[39]⟩ : ByteArray).size = 1 := rfl; omega)
    have D2 : ∀ W, (Op.stringOp .add (⟨#[39]⟩ ++ s) { data := #[39] }).run Tryz.prog W = .ok (.string (⟨#[39]⟩ ++ s ++ ⟨#[39]⟩)) W := fun W => run_string_add_sum W _ _ (by rw [ByteArray.size_append]; have : (⟨#[39]⟩ : ByteArray).size = 1 := rfl; omega)
    generalize (⟨#[39]⟩ ++ s ++ ⟨#[39]⟩ : ByteArray) = Z at *
    generalize (⟨#[39]⟩ ++ s : ByteArray) = Y at *
    clear hT
    go_enter Tryz.func151, Tryz.ntmps151
    go_wp2
    exact bodyPost_ret (results_tmp rfl _ _ _) rfl ⟨rfl, (Below.refl _ _).alloc (Nat.le_refl _) _⟩
  · rw [if_neg (by decide), if_neg (by decide)]
    obtain ⟨k, rfl⟩ : ∃ k : Nat, fl = k := ⟨fl.toNat, by omega⟩
    have hk6 : k < 6 := by omega
    have c := fld_cell (hT.alloc (.cells #[.int .i64 3, .int .i64 n, .string s, .string st, .int .i64 (k : Int)] 89)) k hk6
    have c' := fld_cell (hT.alloc (.cells #[.int .i64 3, .int .i64 n, .string s, .string st, .int .i64 (k : Int)] 89)).drew k hk6
    have hl := fldN_len k
    have hlow : ¬ 2 = w.heap.size := by have := hT.low; omega
    clear hT hf0 hf6
    cases he : emptyB st with
    | true =>
      obtain rfl := emptyB_eq he
      rw [if_pos rfl]
      clear c' hl
      generalize txt (fldN (k : Int)) = f at *
      go_enter Tryz.func151, Tryz.ntmps151
      go_wp2
      exact bodyPost_ret (results_tmp rfl _ _ _) rfl ⟨rfl, (Below.refl _ _).alloc (Nat.le_refl _) _⟩
    | false =>
      have hne := emptyB_ne he
      have hst2 : st.size ≤ 32 := by rcases hst with h | h; rw [h] at he; cases he; exact h
      rw [if_neg (by simp)]
      have e1 : txt (st.data.toList ++ ([32, 46, 32] ++ fldN (k : Int))) = st ++ ⟨#[32, 46, 32]⟩ ++ txt (fldN (k : Int)) := by
        apply ByteArray.ext
        apply Array.ext'
        simp [txt]
      rw [e1]
      have z3 : (⟨#[32, 46, 32]⟩ : ByteArray).size = 3 := rfl
      have D1 : ∀ W, (Op.stringOp .add st { data := #[32, 46, 32] }).run Tryz.prog W = .ok (.string (st ++ ⟨#[32, 46, 32]⟩)) W := fun W => run_string_add_sum W _ _ (by omega)
      have D2 : ∀ W, (Op.stringOp .add (st ++ ⟨#[32, 46, 32]⟩) (txt (fldN (k : Int)))).run Tryz.prog W = .ok (.string (st ++ ⟨#[32, 46, 32]⟩ ++ txt (fldN (k : Int)))) W := fun W => run_string_add_sum W _ _ (by rw [ByteArray.size_append, txt_size]; omega)
      generalize (st ++ ⟨#[32, 46, 32]⟩ ++ txt (fldN (k : Int)) : ByteArray) = Z at *
      generalize (st ++ ⟨#[32, 46, 32]⟩ : ByteArray) = Y at *
      generalize txt (fldN (k : Int)) = f at *
      clear he hst hst2 z3 hl e1
      go_enter Tryz.func151, Tryz.ntmps151
      go_wp2
      go_region
      all_goals (go_wp2; exact bodyPost_ret (results_tmp rfl _ _ _) rfl ⟨rfl, ((Below.refl _ _).alloc (Nat.le_refl _) _).trans ⟨rfl, rfl, rfl, Nat.le_refl _, fun _ _ => rfl⟩⟩)
end Go.Proofs.YtogklmljllocbabGreatDoor
namespace Go.Proofs.YtogklmljllocbabGreatDoor
open Go.RowKit Go.Shelf
attribute [local go_sem] Oper.semAt_some

section
variable {P : Program} {ops : Array Oper} {Q : Exit → Act → World → Prop} {md : Region.Mode} {l n : Nat}
theorem rowsIn_of {row : String} {args : Array Value} {w : World} {R : Value → World → Prop} (h : Rows P row args w R) : RowsIn (Fence.wide.inRound l) n P row args w R := fun c cs _ =>
  let ⟨v, w', r, s⟩ := h c cs
  ⟨v, w', r, stepsIn_wide.2 s⟩
theorem operIn_of {o : Oper} {a : Act} {w : World} {K : Act → World → Prop} (hd : ∀ c, o.op ≠ .defer c) (h : o.wp P a w K Q) : o.wpIn (Fence.wide.inRound l) n P a w K Q := by
  refine ⟨fun _ _ => trivial, ?_⟩
  show o.uponIn _ _ _ _ _ _ ((o.semAt (some l) a.eval).run P w)
  rw [Oper.semAt_some l a.eval o hd]
  unfold Oper.wp at h
  generalize (execOp a.eval o).run P w = r at *
  cases r with
  | ok x w' =>
    cases x <;> first | exact h | exact h.elim | exact ⟨(fun e => by cases e), CallsIn.inRound l (callsIn_wide.2 h)⟩ | exact ⟨(fun e => by cases e), rowsIn_of h⟩
  | halt x w' => cases x <;> first | exact h | exact h.elim
theorem opIn_of {i : Nat} {K : Act → World → Prop} {a : Act} {w : World} (hd : ∀ (j : Nat) (o : Oper) c, ops[j]? = some o → o.op ≠ .defer c) (hl : ¬ LetsOut Q) (h : wpOp P ops Q i K a w) : wpOpIn (Fence.wide.inRound l) n P ops Q i K a w := by
  unfold wpOp at h
  unfold wpOpIn
  cases ho : ops[i]? with
  | none => rw [ho] at h; exact h
  | some o =>
    rw [ho] at h
    dsimp only at h ⊢
    split
    · rename_i hw
      rw [if_pos hw] at h
      rcases h with h | h
      · exact operIn_of (hd i o · ho) h
      · exact absurd h.2 hl
    · rename_i hw
      rw [if_neg hw] at h
      exact ⟨fun _ _ => trivial, h⟩
theorem anyIn_of (hd : ∀ (j : Nat) (o : Oper) c, ops[j]? = some o → o.op ≠ .defer c) (hl : ¬ LetsOut Q) : ∀ (fuel : Nat) (listed : Array Bool) (a : Act) (w : World), wpAny P md ops Q fuel listed a w → wpAnyIn (Fence.wide.inRound l) n P md ops Q fuel listed a w
  | 0, _, _, _, h => h
  | fuel + 1, _, _, _, h => ⟨h.1, fun i hi => wpOpIn_mono (fun a' w' h' => anyIn_of hd hl fuel _ a' w' h') (opIn_of hd hl (h.2 i hi))⟩
def noDefer (ops : Array Oper) : Bool := ops.all fun o => match o.op with | .defer _ => false | _ => true
theorem noDefer_spec (h : noDefer ops = true) : ∀ (j : Nat) (o : Oper) c, ops[j]? = some o → o.op ≠ .defer c := fun j o c ho e => by
  unfold noDefer at h
  rw [Array.all_eq_true] at h
  obtain ⟨hj, rfl⟩ := Array.getElem?_eq_some_iff.1 ho
  have := h j hj
  rw [e] at this
  cases this
/-- A statement whose order is drawn and that ends in a store, within a round. -/
theorem wpIn_region_late (S : World → Prop) (late : Nat) {id : Nat} {a : Act} {w : World} (hm : P.follows .mixedOrders = true) (hd : noDefer ops = true) (hl : ¬ LetsOut Q)
    (h : wpAnyL P .any ops Q S late ops.size (Array.replicate ops.size false) a w.drew) : (Code.region id ops true).wpIn (Fence.wide.inRound l) n P Q a w :=
  wpIn_region_any hm (anyIn_of (noDefer_spec hd) hl _ _ _ _ (wpAny_of_late _ _ _ _ h))
end
end Go.Proofs.YtogklmljllocbabGreatDoor
namespace Go.Proofs.YtogklmljllocbabGreatDoor
open Go.RowKit Go.Deep

def Pt.ok (a : Pt) : Prop := (-9223372036854775808 ≤ a.kd ∧ a.kd ≤ 9223372036854775807) ∧ (-9223372036854775808 ≤ a.n ∧ a.n ≤ 9223372036854775807) ∧ a.s.size ≤ 9223372036854775807 ∧ a.st.size ≤ 9223372036854775807 ∧ (-9223372036854775808 ≤ a.fl ∧ a.fl ≤ 9223372036854775807)
def PtsAt (w : World) (ad : Option Addr) (l : List Pt) : Prop :=
  l ≠ [] → ∃ b off, ad = some ⟨b, off, none⟩ ∧ b < w.heap.size ∧ ∀ i (h : i < l.length), w.cell? ⟨b, off + i * 5, none⟩ = some (.int .i64 l[i].kd) ∧ w.cell? ⟨b, off + i * 5 + 1, none⟩ = some (.int .i64 l[i].n) ∧ w.cell? ⟨b, off + i * 5 + 2, none⟩ = some (.string l[i].s) ∧ w.cell? ⟨b, off + i * 5 + 3, none⟩ = some (.string l[i].st) ∧ w.cell? ⟨b, off + i * 5 + 4, none⟩ = some (.int .i64 l[i].fl)
theorem PtsAt.kp {w w' : World} {ad : Option Addr} {l : List Pt} (h : PtsAt w ad l) (hk : Kp [] w w') : PtsAt w' ad l := fun hl => by
  obtain ⟨b, off, e, hlt, hc⟩ := h hl
  refine ⟨b, off, e, Nat.lt_of_lt_of_le hlt hk.size, fun i hi => ?_⟩
  obtain ⟨c0, c1, c2, c3, c4⟩ := hc i hi
  exact ⟨hk.cell c0 (by simp), hk.cell c1 (by simp), hk.cell c2 (by simp), hk.cell c3 (by simp), hk.cell c4 (by simp)⟩
theorem PtsAt.at {w : World} {ad : Option Addr} {l : List Pt} (h : PtsAt w ad l) (i : Nat) (hi : i < l.length) : ∃ b off, ad = some ⟨b, off, none⟩ ∧ b < w.heap.size ∧ w.cell? ⟨b, off + i * 5, none⟩ = some (.int .i64 l[i].kd) ∧ w.cell? ⟨b, off + i * 5 + 1, none⟩ = some (.int .i64 l[i].n) ∧ w.cell? ⟨b, off + i * 5 + 2, none⟩ = some (.string l[i].s) ∧ w.cell? ⟨b, off + i * 5 + 3, none⟩ = some (.string l[i].st) ∧ w.cell? ⟨b, off + i * 5 + 4, none⟩ = some (.int .i64 l[i].fl) := by
  obtain ⟨b, off, e, hlt, hc⟩ := h (by intro e; subst e; simp at hi)
  exact ⟨b, off, e, hlt, hc i hi⟩
theorem open_pts_cells : Tryz.prog.cellsOf 89 = 5 := by kernel_rfl
theorem open_pts_cells_int : Tryz.prog.cellsOf 3 = 1 := by kernel_rfl
theorem open_pts_cells_int64 : Tryz.prog.cellsOf 2 = 1 := by kernel_rfl
theorem open_pts_cells_string : Tryz.prog.cellsOf 9 = 1 := by kernel_rfl
theorem open_pts_fields : ∃ f0 f1 f2 f3 f4 : Field, Tryz.prog.underlying 89 = some (.struct #[f0, f1, f2, f3, f4]) ∧ f0.type = 3 ∧ f1.type = 2 ∧ f2.type = 9 ∧ f3.type = 9 ∧ f4.type = 3 ∧ f0.offset = 0 ∧ f1.offset = 1 ∧ f2.offset = 2 ∧ f3.offset = 3 ∧ f4.offset = 4 :=
  ⟨_, _, _, _, _, Tryz.underlying89, rfl, rfl, rfl, rfl, rfl, rfl, rfl, rfl, rfl, rfl⟩
theorem open_pts_list {α : Type} : ∀ (l : List α), l.length = 5 → ∃ x0 x1 x2 x3 x4, l = [x0, x1, x2, x3, x4]
  | [x0, x1, x2, x3, x4], _ => ⟨x0, x1, x2, x3, x4, rfl⟩
set_option maxRecDepth 100000 in
theorem open_pts {H : Type} {enc : TypeId × Value → H} {W : World} {spare : Nat → Bool} {held : Bool} {fuel : Nat} {v : Value} {x : DataW H × List MemPlace}
    (h : DataW.trod enc Tryz.prog W 0 spare held fuel 31 [v] = some x) :
    ∃ (ad : Option Addr) (cap : Nat) (l : List Pt), v = .slice ad l.length cap ∧ l.length ≤ 9223372036854775807 ∧ PtsAt W ad l ∧ ∀ y ∈ l, y.ok := by
  obtain ⟨f0, f1, f2, f3, f4, hu, t0, t1, t2, t3, t4, o0, o1, o2, o3, o4⟩ := open_pts_fields
  rcases open_slice Tryz.underlying31 h with ⟨hcs, _⟩ | ⟨a, len, cap, m, n, D, Pl, hcs, hb, hl, hm, hmm, _, hx⟩
  · simp only [List.cons.injEq, and_true] at hcs
    subst hcs
    exact ⟨none, 0, [], rfl, by simp, fun hne => absurd rfl hne, by simp⟩
  · simp only [List.cons.injEq, and_true] at hcs
    subst hcs
    have hlm : len ≤ m := by rw [hmm]; split <;> omega
    have each : ∀ i, i < len → ∃ y : Pt, W.cell? (a.add (i * 5)) = some (.int .i64 y.kd) ∧ W.cell? (a.add (i * 5 + 1)) = some (.int .i64 y.n) ∧ W.cell? (a.add (i * 5 + 2)) = some (.string y.s) ∧ W.cell? (a.add (i * 5 + 3)) = some (.string y.st) ∧ W.cell? (a.add (i * 5 + 4)) = some (.int .i64 y.fl) ∧ y.ok := by
      intro i hi
      obtain ⟨cs', h1, h2⟩ := hx i (by omega)
      rw [open_pts_cells] at h1
      obtain ⟨_, hlen, hcell⟩ := World.cells?_some h1
      obtain ⟨xs, k, hk, hxy, _, hxl, hf⟩ := DataW.trod_struct hu h2
      obtain ⟨y0, y1, y2, y3, y4, rfl⟩ := open_pts_list xs hxl
      obtain ⟨v0, v1, v2, v3, v4, rfl⟩ := open_pts_list cs' hlen
      have g0 := hf 0 f0 rfl
      have g1 := hf 1 f1 rfl
      have g2 := hf 2 f2 rfl
      have g3 := hf 3 f3 rfl
      have g4 := hf 4 f4 rfl
      simp [o0, o1, o2, o3, o4, t0, t1, t2, t3, t4, open_pts_cells_int, open_pts_cells_int64, open_pts_cells_string] at g0 g1 g2 g3 g4
      have e0 := hcell 0 (by omega)
      have e1 := hcell 1 (by omega)
      have e2 := hcell 2 (by omega)
      have e3 := hcell 3 (by omega)
      have e4 := hcell 4 (by omega)
      rw [Go.Deep.add_add] at e0 e1 e2 e3 e4
      obtain ⟨k0, q0, _, wf0⟩ := DataW.trod_int Tryz.underlying3 g0
      obtain ⟨k1, q1, _, wf1⟩ := DataW.trod_int Tryz.underlying2 g1
      obtain ⟨k2, q2, _, wf2⟩ := DataW.trod_string Tryz.underlying9 g2
      obtain ⟨k3, q3, _, wf3⟩ := DataW.trod_string Tryz.underlying9 g3
      obtain ⟨k4, q4, _, wf4⟩ := DataW.trod_int Tryz.underlying3 g4
      simp only [List.cons.injEq, and_true] at q0 q1 q2 q3 q4
      subst q0 q1 q2 q3 q4
      have b0 := bounds_i64 wf0
      have b1 := bounds_i64 wf1
      unfold maxLen at wf2
      unfold maxLen at wf3
      have b4 := bounds_i64 wf4
      exact ⟨⟨k0, k1, k2, k3, k4⟩, by simpa using e0, by simpa using e1, by simpa using e2, by simpa using e3, by simpa using e4, ⟨b0.1, by show k0 ≤ _; omega⟩, ⟨b1.1, by show k1 ≤ _; omega⟩, by show k2.size ≤ _; omega, by show k3.size ≤ _; omega, ⟨b4.1, by show k4 ≤ _; omega⟩⟩
    have hinh : Inhabited Pt := ⟨⟨0, 0, ⟨#[]⟩, ⟨#[]⟩, 0⟩⟩
    obtain ⟨q, hq⟩ := choose_lt each
    refine ⟨some a, cap, (List.range len).map q, by simp, by simp; unfold maxLen at hm; omega, fun hne => ?_, fun y hy => ?_⟩
    · have h0 : 0 < len := by
        rcases Nat.eq_zero_or_pos len with e | e
        · subst e; simp at hne
        · exact e
      obtain ⟨b, off, spot⟩ := a
      have hc0 := (hq 0 h0).1
      have hspot : spot = none := by simpa [Addr.add] using World.cell?_spot hc0
      subst hspot
      refine ⟨b, off, rfl, ?_, fun i hi => ?_⟩
      · rcases Nat.lt_or_ge b W.heap.size with hlt | hge
        · exact hlt
        · exfalso
          rw [Go.WideShapes.add_plain] at hc0
          simp [World.cell?, Array.getElem?_eq_none hge] at hc0
      · have hi' : i < len := by simpa using hi
        obtain ⟨c0, c1, c2, c3, c4, _⟩ := hq i hi'
        rw [Go.WideShapes.add_plain] at c0 c1 c2 c3 c4
        simp only [List.getElem_map, List.getElem_range]
        exact ⟨c0, by rw [Nat.add_assoc]; exact c1, by rw [Nat.add_assoc]; exact c2, by rw [Nat.add_assoc]; exact c3, by rw [Nat.add_assoc]; exact c4⟩
    · obtain ⟨i, hi, rfl⟩ := List.mem_map.1 hy
      exact (hq i (List.mem_range.1 hi)).2.2.2.2.2
end Go.Proofs.YtogklmljllocbabGreatDoor
namespace Go.Proofs.YtogklmljllocbabGreatDoor
open Go.RowKit Go.Shelf
attribute [local go_sem] Oper.semAt_some

/-- The places of the last k, from the back on. -/
def bkL (xs : List Pt) : Nat → List (Fin xs.length)
  | 0 => []
  | k + 1 => bkL xs k ++ (if h : k < xs.length then [⟨xs.length - 1 - k, by omega⟩] else [])
theorem bkL_len (xs : List Pt) (k : Nat) (h : k ≤ xs.length) : (bkL xs k).length = k := by
  induction k with
  | zero => rfl
  | succ k ih => rw [bkL, List.length_append, ih (by omega), dif_pos (by omega)]; rfl
theorem bkL_next (xs : List Pt) (k : Nat) (h : k < xs.length) : bkL xs (k + 1) = bkL xs k ++ [⟨xs.length - 1 - k, by omega⟩] := by rw [bkL, dif_pos h]
theorem bkL_map (xs : List Pt) (k : Nat) (h : k ≤ xs.length) : ((bkL xs k).map fun i => xs[i]).reverse = xs.drop (xs.length - k) := by
  induction k with
  | zero => rw [Nat.sub_zero, List.drop_length]; rfl
  | succ k ih =>
    rw [bkL_next xs k (by omega), List.map_append, List.reverse_append, ih (by omega)]
    have e : xs.length - (k + 1) = xs.length - 1 - k := by omega
    rw [e, List.drop_eq_getElem_cons (i := xs.length - 1 - k) (by omega), show xs.length - 1 - k + 1 = xs.length - k by omega]
    rfl
/-- Parts lie in a block below n₀. -/
def PtsLow (n₀ : Nat) (W : World) (ad : Option Addr) (xs : List Pt) : Prop := ∀ j (h : j < xs.length), ∃ b off, ad = some ⟨b, off, none⟩ ∧ b < n₀ ∧ W.cell? ⟨b, off + j * 5, none⟩ = some (.int .i64 xs[j].kd) ∧ W.cell? ⟨b, off + j * 5 + 1, none⟩ = some (.int .i64 xs[j].n) ∧ W.cell? ⟨b, off + j * 5 + 2, none⟩ = some (.string xs[j].s) ∧ W.cell? ⟨b, off + j * 5 + 3, none⟩ = some (.string xs[j].st) ∧ W.cell? ⟨b, off + j * 5 + 4, none⟩ = some (.int .i64 xs[j].fl)
theorem PtsLow.below {n₀ : Nat} {A B : World} {ad : Option Addr} {xs : List Pt} (h : PtsLow n₀ A ad xs) (hb : Below n₀ A B) : PtsLow n₀ B ad xs := fun j hj => by
  obtain ⟨b, off, e, hlt, c0, c1, c2, c3, c4⟩ := h j hj
  exact ⟨b, off, e, hlt, (hb.cell (p := ⟨b, _, none⟩) hlt).trans c0, (hb.cell (p := ⟨b, _, none⟩) hlt).trans c1, (hb.cell (p := ⟨b, _, none⟩) hlt).trans c2, (hb.cell (p := ⟨b, _, none⟩) hlt).trans c3, (hb.cell (p := ⟨b, _, none⟩) hlt).trans c4⟩
theorem PtsLow.of {w : World} {ad : Option Addr} {xs : List Pt} (h : PtsAt w ad xs) : PtsLow w.heap.size w ad xs := fun j hj => by
  obtain ⟨b, off, e, hlt, c⟩ := h.at j hj
  exact ⟨b, off, e, hlt, c⟩
/-- What a round keeps: what lay below n₀, and the box of the slice. -/
def KpB (n₀ Bs : Nat) (A B : World) : Prop := Below n₀ A B ∧ B.heap[Bs]? = A.heap[Bs]?
theorem KpB.trans {n₀ Bs : Nat} {A B C : World} (h : KpB n₀ Bs A B) (k : KpB n₀ Bs B C) : KpB n₀ Bs A C := ⟨h.1.trans k.1, k.2.trans h.2⟩
theorem KpB.put {n₀ Bs : Nat} {w : World} (hn : n₀ ≤ w.heap.size) (hB : Bs < w.heap.size) (W : World) (l : Nat) (o o' : Obj) (hl : w.heap.size ≤ l) (h : W.heap[l]? = some o) (h1 : o.isCells = false) (h2 : o.isWalk = false) : KpB n₀ Bs W (W.putObj l o') :=
  ⟨belowK_b hn W l o o' hl h h1 h2, World.putObj_heap_other (by omega)⟩
set_option maxRecDepth 100000 in
set_option maxHeartbeats 2000000 in
theorem back1_in (n : Nat) (l Bs n₀ cap : Nat) (ad : Option Addr) (xs : List Pt) (hsz : xs.length ≤ 1000000) (J Jx : List (Fin xs.length) → World → Prop)
    (hY : ∀ pre x W, J pre W → pre.length < xs.length → YieldAt Fence.wide (n - 1) Tryz.prog l #[.int .i64 (x.val : Int), (xs[x]).v] W fun e W' =>
      (e = .returned (.bool true) ∧ J (pre ++ [x]) W' ∧ KpB n₀ Bs W W') ∨ (e = .returned (.bool false) ∧ Jx (pre ++ [x]) W'))
    (W : World) (hBs : W.cell? ⟨Bs, 0, none⟩ = some (.slice ad xs.length cap)) (hc : PtsLow n₀ W ad xs) (h0 : J [] W) :
    CallsIn Fence.wide n Tryz.prog 165 #[.func (.yield l) #[] #[], .pointer (some ⟨Bs, 0, none⟩)] W fun e W' => (∃ v, e = .returned v) ∧
      ((∃ ys, ys = bkL xs xs.length ∧ J ys W') ∨ (∃ pre, (∃ k, k ≤ xs.length ∧ pre = bkL xs k) ∧ Jx pre W')) := by
  refine callsIn_of_wp Tryz.func165 rfl trivial ?_ rfl
  simp only [Tryz.ntmps165, List.size_toArray, List.length_cons, List.length_nil, Nat.reduceAdd, Nat.reduceSub, Array.replicate_succ, Array.replicate_zero, List.push_toArray, List.append_toArray, List.nil_append, List.cons_append]
  gi_wp2
  gi_loopw [3] (fun i wr => ∃ k : Nat, k ≤ xs.length ∧ i = .int .i64 ((xs.length : Int) - 1 - k) ∧ J (bkL xs k) wr ∧ Hid (KpB n₀ Bs W wr)) (fun i _ => (intOf i + 1).toNat)
  case atStart => exact ⟨0, Nat.zero_le _, by go_num, h0, hide ⟨Below.refl _ _, rfl⟩⟩
  case round =>
    obtain ⟨k, hk, rfl, hJs, HB⟩ := hrel
    have hBs' : wr.cell? ⟨Bs, 0, none⟩ = some (.slice ad xs.length cap) := (World.cell?_of_block (unhide HB).2).trans hBs
    by_cases hlt : k < xs.length
    · obtain ⟨b, off, rfl, hbn, c0, c1, c2, c3, c4⟩ := (hc.below (unhide HB).1) (xs.length - 1 - k) (by omega)
      obtain ⟨m, hm⟩ : ∃ m : Nat, xs.length - 1 - k = m := ⟨_, rfl⟩
      have d0 : wr.cell? ⟨b, off + m * 5, none⟩ = some (.int .i64 (xs[m]'(by omega)).kd) := by subst hm; exact c0
      have d1 : wr.cell? ⟨b, off + m * 5 + 1, none⟩ = some (.int .i64 (xs[m]'(by omega)).n) := by subst hm; exact c1
      have d2 : wr.cell? ⟨b, off + m * 5 + 2, none⟩ = some (.string (xs[m]'(by omega)).s) := by subst hm; exact c2
      have d3 : wr.cell? ⟨b, off + m * 5 + 3, none⟩ = some (.string (xs[m]'(by omega)).st) := by subst hm; exact c3
      have d4 : wr.cell? ⟨b, off + m * 5 + 4, none⟩ = some (.int .i64 (xs[m]'(by omega)).fl) := by subst hm; exact c4
      obtain ⟨fn, tmps, assign, body, hy, hR⟩ := hY _ ⟨xs.length - 1 - k, by omega⟩ wr hJs (by rw [bkL_len xs k hk]; exact hlt)
      have HR := hide hR
      have hm2 : m < xs.length := by omega
      have e1 : (xs.length : Int) - 1 - (k : Int) = (m : Int) := by omega
      have hy2 : Sem.run Tryz.prog (Instr.yield l #[.int .i64 (m : Int), .agg #[.int .i64 (xs[m]'hm2).kd, .int .i64 (xs[m]'hm2).n, .string (xs[m]'hm2).s, .string (xs[m]'hm2).st, .int .i64 (xs[m]'hm2).fl]]) wr = .ok (.round l fn tmps assign body) wr := by
        subst hm
        exact hy
      have HJ := hide hJs
      rw [e1]
      generalize xs[m]'hm2 = q at *
      obtain ⟨qk, qn, qs, qt, qf⟩ := q
      dsimp only at *
      clear hy hR hBs hc h0 c0 c1 c2 c3 c4 hJs
      gi_wp2
      refine ⟨(fun h => by cases h), ?_⟩
      refine (unhide HR).mono ?_
      rintro e W3 (⟨rfl, hJ3, hk3⟩ | ⟨rfl, hJx3⟩)
      all_goals clear HR
      · gi_wp2
        go_roundw
        case rel => exact ⟨k + 1, by omega, by go_num, by rw [bkL_next xs k hlt]; exact hJ3, hide ((unhide HB).trans hk3)⟩
        case measure => simp [intOf]
      · gi_wp2
        refine bodyPost_ret (results_none rfl _ _ _) rfl ?_
        exact ⟨⟨_, rfl⟩, .inr ⟨_, ⟨k + 1, by omega, (bkL_next xs k hlt).symm⟩, hJx3⟩⟩
    · obtain rfl : k = xs.length := by omega
      have e1 : (xs.length : Int) - 1 - (xs.length : Int) = -1 := by omega
      rw [e1]
      gi_wp2
      go_end0
      exact ⟨⟨_, rfl⟩, .inl ⟨_, rfl, hJs⟩⟩
theorem back_in (n : Nat) (ad : Option Addr) (len cap : Nat) (w : World) : CallsIn Fence.wide n Tryz.prog 88 #[.slice ad len cap] w fun e w' => e = .returned (.func (.func 165) #[] #[.pointer (some ⟨w.heap.size, 0, none⟩)]) ∧ w' = w.alloc (.cells #[.slice ad len cap] 31) := by
  refine callsIn_of_wp Tryz.func88 rfl trivial ?_ rfl
  simp only [Tryz.ntmps88, List.size_toArray, List.length_cons, List.length_nil, Nat.reduceAdd, Nat.reduceSub, Array.replicate_succ, Array.replicate_zero, List.push_toArray, List.append_toArray, List.nil_append, List.cons_append]
  gi_wp2
  go_ret
  exact ⟨rfl, rfl⟩
/-- What slices.Backward hands back tells the parts from the last on, to any loop that keeps them. -/
theorem back_stops (n : Nat) (Bs n₀ cap : Nat) (ad : Option Addr) (xs : List Pt) (hsz : xs.length ≤ 1000000) (w : World) (hn₀ : n₀ ≤ w.heap.size) (hBs : w.cell? ⟨Bs, 0, none⟩ = some (.slice ad xs.length cap)) (hc : PtsLow n₀ w ad xs) :
    SeqStopsK Fence.wide n Tryz.prog 165 #[.pointer (some ⟨Bs, 0, none⟩)] (fun x : Fin xs.length => #[.int .i64 (x.val : Int), (xs[x]).v]) (KpB n₀ Bs) (fun ys => ys = bkL xs xs.length) (fun pre => ∃ k, k ≤ xs.length ∧ pre = bkL xs k) xs.length w := fun l J Jx W hW _ _ hY h0 =>
  back1_in n l Bs n₀ cap ad xs hsz J Jx hY W ((hW.cell (p := ⟨Bs, 0, none⟩) (World.block_lt_of_cell? _ _ hBs)).trans hBs) (hc.below (hW.mono hn₀)) h0
end Go.Proofs.YtogklmljllocbabGreatDoor
