/-
  A table of strings that a row lists: the variable's cells are these strings. Of no program.
  What the row's list of package variables gives, with the words of fields: they hold what their own texts lay.
  The document's answers: the words of fields, which words name no stage, the signs, the kind of an operation.
  The document's answers: the kind of an operation, its sign.
  Names of chapter 2, plainly. Of no program.
  Which parts may be, as the document asks it, plainly. Of no program.
-/
import Derived.Lib.LaidTab
import Derived.Test.YthipclehhcfahaaGreatDoorRows
import Derived.Test.YthipclehhcfahaaGreatDoorHC07
import Derived.Stop.LaidErr
import Derived.Test.YthipclehhcfahaaGreatDoorHC03
import Derived.Test.YthipclehhcfahaaGreatDoorHC01
import Derived.Test.YthipclehhcfahaaGreatDoorHC04
import Derived.Test.YthipclehhcfahaaGreatDoorHC05
namespace Go.Proofs.YthipclehhcfahaaGreatDoor
open Go

def strData {H : Type} (zs : List (List UInt8)) : DataW H := .agg (zs.map fun z => .lit (.string z))
theorem cells_of_strs {H : Type} {enc : TypeId × Value → H} {P : Program} {w : World} {base : Nat} {sp : Nat → Bool} {held : Bool} {fuel : Nat} {t e : TypeId} {n : Nat} {cs : List Value} {zs : List (List UInt8)} {p : List MemPlace}
    (ht : P.underlying t = some (.array n e)) (he : P.underlying e = some .string) (hce : P.cellsOf e = 1) (hct : P.cellsOf t = n)
    (h : DataW.trod enc P w base sp held fuel t cs = some (strData zs, p)) : cs = zs.map fun z => Value.string ⟨z.toArray⟩ := by
  cases fuel with
  | zero => simp [DataW.trod] at h
  | succ fuel =>
    simp only [DataW.trod, ht, hce, hct, Nat.mul_one] at h
    split at h
    · rename_i hl
      obtain ⟨xs, hm, hx⟩ := Option.map_eq_some_iff.1 h
      have hxs : xs.map (·.1) = zs.map fun z => (DataW.lit (.string z) : DataW H) := by
        have := congrArg Prod.fst hx
        simpa [strData] using this
      have hxl : xs.length = n := by simpa using Lib.mapM_length hm
      have hzl : zs.length = n := by
        have := congrArg List.length hxs
        simp at this
        omega
      apply List.ext_getElem?
      intro i
      by_cases hi : i < n
      · obtain ⟨b, hb, hf⟩ := Lib.mapM_at hm i i (by simp [hi])
        obtain ⟨s, hc, rfl, _⟩ := DataW.trod_string he hf
        have h1 : cs[i]? = some (.string s) := by
          have := congrArg (·[0]?) hc
          simpa [List.getElem?_take, List.getElem?_drop] using this
        have h2 : (xs.map (·.1))[i]? = some (DataW.lit (.string s.data.toList) : DataW H) := by simp [hb]
        rw [hxs] at h2
        simp only [List.getElem?_map, Option.map_eq_some_iff, DataW.lit.injEq, Lit.string.injEq] at h2
        obtain ⟨z', hz', rfl⟩ := h2
        simp [h1, hz']
      · rw [List.getElem?_eq_none (by omega), List.getElem?_eq_none (by simp; omega)]
    · cases h
/-- The table of strings stands first on the list. -/
theorem strs_of_head {P : Program} {W : World} {name : String} {zs : List (List UInt8)} {rest : List (String × DataW Unit)} {g : Nat} {t e : TypeId} {n : Nat}
    (hg : P.globalNamed name = some g) (hty : (P.globals[g]?).map (·.type) = some t) (ht : P.underlying t = some (.array n e)) (he : P.underlying e = some .string) (hce : P.cellsOf e = 1) (hct : P.cellsOf t = n)
    (h : laidMet P ((name, strData zs) :: rest) W) (i : Nat) : W.cell? ⟨g, i, none⟩ = (zs.map fun z => Value.string ⟨z.toArray⟩)[i]? := by
  obtain ⟨ps, ⟨g', t', cs, fuel, p, q, hg', ht', hvar, hd, _, _⟩, _⟩ := h
  obtain rfl := Option.some.inj (hg.symm.trans hg')
  obtain rfl := Option.some.inj (hty.symm.trans ht')
  rw [World.var?_cell hg hvar i, ← cells_of_strs ht he hce hct hd]
  simp
end Go.Proofs.YthipclehhcfahaaGreatDoor
namespace Go.Proofs.YthipclehhcfahaaGreatDoor
open Go.RowKit

theorem gSets : Tryz.prog.globalNamed "weaver/token.sets" = some 1 := by kernel_rfl
theorem gSetsT : (Tryz.prog.globals[1]?).map (·.type) = some 159 := by kernel_rfl
theorem gRng : Tryz.prog.globalNamed "strconv.ErrRange" = some 4 := by kernel_rfl
theorem gRngT : (Tryz.prog.globals[4]?).map (·.type) = some 161 := by kernel_rfl
theorem gPowT : (Tryz.prog.globals[2]?).map (·.type) = some 179 := by kernel_rfl
theorem gDb : Tryz.prog.globalNamed "math/bits.deBruijn64tab" = some 7 := by kernel_rfl
theorem gDbT : (Tryz.prog.globals[7]?).map (·.type) = some 197 := by kernel_rfl
theorem gFds : Tryz.prog.globalNamed "weaver/expr.fields" = some 0 := by kernel_rfl
theorem gFdsT : (Tryz.prog.globals[0]?).map (·.type) = some 140 := by kernel_rfl
theorem cells6 : Tryz.prog.cellsOf 140 = 6 := by kernel_rfl
theorem cellsU8 : Tryz.prog.cellsOf 5 = 1 := by kernel_rfl
theorem cellsU64 : Tryz.prog.cellsOf 166 = 1 := by kernel_rfl
theorem cells128 : Tryz.prog.cellsOf 159 = 128 := by kernel_rfl
theorem cells20 : Tryz.prog.cellsOf 179 = 20 := by kernel_rfl
theorem cells64 : Tryz.prog.cellsOf 197 = 64 := by kernel_rfl
theorem cellsErr : Tryz.prog.cellsOf 200 = 1 := by kernel_rfl
theorem cellsStr : Tryz.prog.cellsOf 9 = 1 := by kernel_rfl
theorem errStar : "*" ++ "errors.errorString" = "*errors.errorString" := by decide
theorem errRow (u : TypeId) (h : Tryz.prog.typeName? 3 u = some "*errors.errorString") : u = 198 :=
  typeName_ptr_named (nm := "errors.errorString") (by rw [errStar]; kernel_rfl) (by kernel_rfl) (by decide) u (by rw [errStar]; exact h)
/-- The row's list. -/
def laidL : List (String × DataW Unit) := [("math/bits.deBruijn32tab", Rows.laid_math_bits_deBruijn32tab), ("math/bits.deBruijn64tab", Rows.laid_math_bits_deBruijn64tab), ("internal/strconv.uint64pow10", Rows.laid_internal_strconv_uint64pow10), ("strconv.ErrRange", Rows.laid_strconv_ErrRange), ("strconv.ErrSyntax", Rows.laid_strconv_ErrSyntax), ("weaver/token.sets", Rows.laid_weaver_token_sets), ("weaver/expr.fields", Rows.laid_weaver_expr_fields)]
def setsI : List Int := [0, 0, 0, 0, 0, 0, 0, 0, 0, 0, 3, 0, 0, 0, 0, 0, 0, 0, 0, 0, 0, 0, 0, 0, 0, 0, 0, 0, 0, 0, 0, 0, 1, 128, 0, 0, 0, 0, 0, 16, 32, 32, 32, 32, 0, 32, 32, 0, 8, 8, 8, 8, 8, 8, 8, 8, 8, 8, 32, 32, 64, 64, 0, 0, 0, 0, 0, 0, 0, 0, 0, 0, 0, 0, 0, 0, 0, 0, 0, 0, 0, 0, 0, 0, 0, 0, 0, 0, 0, 0, 0, 0, 0, 0, 0, 0, 0, 4, 4, 4, 4, 4, 4, 4, 4, 4, 4, 4, 4, 4, 4, 4, 4, 4, 4, 4, 4, 4, 4, 4, 4, 4, 4, 0, 0, 0, 0, 0]
def dbI : List Int := [0, 1, 56, 2, 57, 49, 28, 3, 61, 58, 42, 50, 38, 29, 17, 4, 62, 47, 59, 36, 45, 43, 51, 22, 53, 39, 33, 30, 24, 18, 12, 5, 63, 55, 48, 27, 60, 41, 37, 16, 46, 35, 44, 21, 52, 32, 23, 11, 54, 26, 40, 15, 34, 20, 31, 10, 25, 14, 19, 9, 13, 8, 7, 6]
theorem setsI_get : ∀ i : Fin 128, setsI.getD i.val 0 = ((cls i.val : Nat) : Int) := by decide +kernel
theorem tbE {W : World} (h0 : laidMetH Tryz.prog laidL W) : TbE W := by
  have h : laidMet Tryz.prog laidL W := h0
  have t1 := h.tail
  have hdb : Lib.TabIs Tryz.prog W "math/bits.deBruijn64tab" .u8 dbI := Lib.tabIs_of_head gDb gDbT Tryz.underlying197 Tryz.underlying5 cellsU8 cells64 t1
  have hlow : 8 ≤ W.heap.size := World.block_lt_of_cell? _ _ (hdb.cell gDb 0 (by decide))
  have t2 := t1.tail
  have t3 := t2.tail
  have t5 := t3.tail.tail
  have t6 := t5.tail
  have hpow : Lib.TabIs Tryz.prog W "internal/strconv.uint64pow10" .u64 Lib.pow10Tab := Lib.tabIs_of_head gPow gPowT Tryz.underlying179 Tryz.underlying166 cellsU64 cells20 t2
  have hset : Lib.TabIs Tryz.prog W "weaver/token.sets" .u8 setsI := Lib.tabIs_of_head gSets gSetsT Tryz.underlying159 Tryz.underlying5 cellsU8 cells128 t5
  obtain ⟨a, s, hv, _⟩ := laid_sentinel t3 gRng gRngT Tryz.underlying161 errRow Tryz.underlying198 Tryz.underlying200 rfl rfl Tryz.underlying9 cellsErr cellsStr
  have fd := fun i => strs_of_head (zs := fldW) gFds gFdsT Tryz.underlying140 Tryz.underlying9 cellsStr cells6 t6 i
  refine ⟨⟨hlow, fun i hi => ?_, hpow, ⟨_, _, by simpa using World.var?_cell gRng hv 0⟩⟩, fd 0, fd 1, fd 2, fd 3, fd 4, fd 5⟩
  rw [hset.cell gSets i (by simpa [setsI] using hi), setsI_get ⟨i, hi⟩]
/-! The settled world: the variables hold what their initialisers lay. -/
def cellsPut (cs : Array Value) : Obj → Obj
  | .cells _ t f => .cells cs t f
  | o => o
def db32V : Array Value := #[.int .u8 0, .int .u8 1, .int .u8 28, .int .u8 2, .int .u8 29, .int .u8 14, .int .u8 24, .int .u8 3, .int .u8 30, .int .u8 22, .int .u8 20, .int .u8 15, .int .u8 25, .int .u8 17, .int .u8 4, .int .u8 8, .int .u8 31, .int .u8 27, .int .u8 13, .int .u8 23, .int .u8 21, .int .u8 19, .int .u8 16, .int .u8 7, .int .u8 26, .int .u8 12, .int .u8 18, .int .u8 6, .int .u8 11, .int .u8 5, .int .u8 10, .int .u8 9]
def db64V : Array Value := (dbI.map fun z => Value.int .u8 z).toArray
def setsV : Array Value := (setsI.map fun z => Value.int .u8 z).toArray
def powV : Array Value := (Lib.pow10Tab.map fun z => Value.int .u64 z).toArray
def fdsV : Array Value := (fldW.map fun z => Value.string ⟨z.toArray⟩).toArray
def errBlks : Array Obj := #[.cells #[.string ⟨#[118, 97, 108, 117, 101, 32, 111, 117, 116, 32, 111, 102, 32, 114, 97, 110, 103, 101]⟩] 200, .cells #[.string ⟨#[105, 110, 118, 97, 108, 105, 100, 32, 115, 121, 110, 116, 97, 120]⟩] 200]
def putL (h : Array Obj) : Array Obj :=
  ((((((h.modify 1 (cellsPut setsV)).modify 3 (cellsPut #[.iface 198 (.pointer (some ⟨14, 0, none⟩))])).modify 4 (cellsPut #[.iface 198 (.pointer (some ⟨13, 0, none⟩))])).modify 2 (cellsPut powV)).modify 6 (cellsPut db32V)).modify 7 (cellsPut db64V)).modify 0 (cellsPut fdsV)
theorem held_size (os : Os) : (World.holding Tryz.prog os ⟨#[], #[], []⟩).heap.size = 13 := by kernel_rfl
end Go.Proofs.YthipclehhcfahaaGreatDoor
namespace Go.Proofs.YthipclehhcfahaaGreatDoor
open Go.RowKit

def fldV : Array Value := #[.string ⟨#[110, 48]⟩, .string ⟨#[110, 49]⟩, .string ⟨#[110, 50]⟩, .string ⟨#[110, 51]⟩, .string ⟨#[116, 121, 112, 101]⟩, .string ⟨#[116, 101, 120, 116]⟩]
theorem fldV_at (k : Nat) (h : k < 6) : fldV[k]? = some (.string (txt (fldW.getD k []))) := by
  rcases (show k = 0 ∨ k = 1 ∨ k = 2 ∨ k = 3 ∨ k = 4 ∨ k = 5 by omega) with rfl | rfl | rfl | rfl | rfl | rfl <;> rfl
theorem fldOf_at (k : Nat) (h : k < 6) : fldOf (fldW.getD k []) = (k : Int) := by
  rcases (show k = 0 ∨ k = 1 ∨ k = 2 ∨ k = 3 ∨ k = 4 ∨ k = 5 by omega) with rfl | rfl | rfl | rfl | rfl | rfl <;> decide
theorem rFields_any (w : World) : Calls Tryz.prog 51 #[] w fun e w' => e = .returned (.slice (some ⟨w.heap.size, 0, none⟩) 6 6) ∧ CBox w.heap.size fldV 9 w' ∧ Kp [] w w' := by
  go_enter Tryz.func51, Tryz.ntmps51
  go_wp2
  go_ret
  exact ⟨rfl, CBox.new w _ _, Kp.alloc _ _⟩
set_option maxHeartbeats 1000000 in
set_option maxRecDepth 100000 in
theorem rField_any (s : ByteArray) (w : World) : Calls Tryz.prog 94 #[.string s] w fun e w' => e = .returned (.int .i64 (fldOf s.data.toList)) ∧ Kp [] w w' := by
  have tl := toList_data s
  generalize hl : s.data.toList = l at tl ⊢
  clear hl
  obtain ⟨F, hF⟩ : ∃ F, fldOf l = F := ⟨_, rfl⟩
  rw [hF]
  have HF := hide hF
  have HTL := hide tl
  clear hF tl
  go_enter Tryz.func94, Tryz.ntmps94
  go_wp2_with fail
  refine (rFields_any w).mono ?_
  rintro e w1 ⟨rfl, hbx, hk⟩
  have HBX := hide hbx
  have HK := hide hk
  have hlt := (Array.getElem?_eq_some_iff.1 hbx).1
  clear hbx hk
  go_wp2_with fail
  go_loop [4] (fun i => ∃ k : Nat, k ≤ 6 ∧ Hid (noFd l k) ∧ i = .int .i64 (k : Int)) (fun i => 6 - (intOf i).toNat)
  case atStart => exact ⟨0, by omega, hide (fun j hj => by omega), rfl⟩
  case round =>
    obtain ⟨k, hk, HN, rfl⟩ := hrel
    by_cases hlt6 : k < 6
    · have c := (unhide HBX).cell (fldV_at k hlt6)
      have hli : (k : Int) < 6 := by omega
      by_cases e : l = fldW.getD k []
      · have g2 : ((txt (fldW.getD k [])).toList == s.toList) = true := by rw [toList_data, txt_list, unhide HTL, e]; exact beq_self_eq_true _
        obtain rfl : F = (k : Int) := by rw [← unhide HF, e]; exact fldOf_at k hlt6
        clear e HF HN
        generalize txt (fldW.getD k []) = FS at *
        go_wp2
        go_ret
        exact ⟨rfl, unhide HK⟩
      · have g2 : ((txt (fldW.getD k [])).toList == s.toList) = false := by rw [toList_data, txt_list, unhide HTL]; exact beq_eq_false_iff_ne.2 (fun h => e h.symm)
        have HN2 : Hid (noFd l (k + 1)) := hide (noFd_next (unhide HN) e)
        clear e
        generalize txt (fldW.getD k []) = FS at *
        go_wp2
        go_round
        case rel => exact ⟨k + 1, by omega, HN2, by go_num⟩
        case measure => simp [intOf]; omega
    · obtain rfl : k = 6 := by omega
      obtain rfl : F = -1 := by rw [← unhide HF]; exact fldOf_no (unhide HN)
      go_wp2
      go_ret
      exact ⟨rfl, unhide HK⟩
/-- Does a word name no stage? -/
theorem rKeyword_any (s : ByteArray) (w : World) : Calls Tryz.prog 75 #[.string s] w fun e w' => e = .returned (.bool (!freeW s.data.toList)) ∧ Kp [] w w' := by
  have FA := hide (rField_any s w)
  have tl := toList_data s
  obtain ⟨R, hR⟩ : ∃ R, (!freeW s.data.toList) = R := ⟨_, rfl⟩
  rw [hR]
  unfold freeW at hR
  generalize s.data.toList = l at *
  have q1 : (s.toList == [111, 114]) = decide (l = [111, 114]) := by rw [tl, Bool.eq_iff_iff, beq_iff_eq, decide_eq_true_eq]
  have q2 : (s.toList == [97, 110, 100]) = decide (l = [97, 110, 100]) := by rw [tl, Bool.eq_iff_iff, beq_iff_eq, decide_eq_true_eq]
  have q3 : (s.toList == [110, 111, 116]) = decide (l = [110, 111, 116]) := by rw [tl, Bool.eq_iff_iff, beq_iff_eq, decide_eq_true_eq]
  generalize decide (l = [111, 114]) = b1 at *
  generalize decide (l = [97, 110, 100]) = b2 at *
  generalize decide (l = [110, 111, 116]) = b3 at *
  generalize fldOf l = F at *
  have HR := hide hR
  clear hR tl
  by_cases hf : 0 ≤ F
  · have g : (0 ≤ F) = True := eq_true hf
    have e : R = true := by rw [← unhide HR, decide_eq_false (by omega)]; simp
    subst e
    go_enter Tryz.func75, Tryz.ntmps75
    go_wp2_with fail
    refine (unhide FA).mono ?_
    rintro e w1 ⟨rfl, hk⟩
    clear FA HR
    go_wp2
    go_ret
    exact ⟨rfl, hk⟩
  · have g : (0 ≤ F) = False := eq_false hf
    have e : R = (b1 || b2 || b3) := by rw [← unhide HR, decide_eq_true (by omega)]; simp
    subst e
    clear HR
    cases b1 <;> cases b2 <;> cases b3
    all_goals
      go_enter Tryz.func75, Tryz.ntmps75
      go_wp2_with fail
      refine (unhide FA).mono ?_
      rintro e w1 ⟨rfl, hk⟩
      clear FA
      go_wp2
      go_ret
      exact ⟨rfl, hk⟩
end Go.Proofs.YthipclehhcfahaaGreatDoor
namespace Go.Proofs.YthipclehhcfahaaGreatDoor
open Go.RowKit

set_option maxHeartbeats 2000000 in
set_option maxRecDepth 100000 in
theorem rOf_any (op a b : Int) (w : World) : Calls Tryz.prog 46 #[.int .i64 op, .int .i64 a, .int .i64 b] w fun e w' => e = .returned (.int .i64 (opK op a b)) ∧ w' = w := by
  by_cases hop : 4 ≤ op ∧ op ≤ 13
  · rcases (show op = 4 ∨ op = 5 ∨ op = 6 ∨ op = 7 ∨ op = 8 ∨ op = 9 ∨ op = 10 ∨ op = 11 ∨ op = 12 ∨ op = 13 by omega) with rfl | rfl | rfl | rfl | rfl | rfl | rfl | rfl | rfl | rfl
    all_goals
      clear hop
      by_cases a1 : a = 1
      · subst a1
        by_cases b1 : b = 1
        · subst b1
          go_enter Tryz.func46, Tryz.ntmps46
          go_wp2
          go_ret
          exact ⟨rfl, rfl⟩
        · have g : (b == 1) = false := beq_eq_false_iff_ne.2 b1
          have g2 : ((1 : Int) == b) = false := beq_eq_false_iff_ne.2 (fun h => b1 h.symm)
          go_enter Tryz.func46, Tryz.ntmps46
          go_wp2
          go_ret
          exact ⟨ret_int (by unfold opK; simp [b1]; try omega), rfl⟩
      · have ga : (a == 1) = false := beq_eq_false_iff_ne.2 a1
        by_cases a2 : a = 2
        · subst a2
          by_cases b1 : b = 2
          · subst b1
            go_enter Tryz.func46, Tryz.ntmps46
            go_wp2
            go_ret
            exact ⟨rfl, rfl⟩
          · have g : (b == 2) = false := beq_eq_false_iff_ne.2 b1
            have g2 : ((2 : Int) == b) = false := beq_eq_false_iff_ne.2 (fun h => b1 h.symm)
            go_enter Tryz.func46, Tryz.ntmps46
            go_wp2
            go_ret
            exact ⟨ret_int (by unfold opK; simp; try omega), rfl⟩
        · have ga2 : (a == 2) = false := beq_eq_false_iff_ne.2 a2
          by_cases a3 : a = 3
          · subst a3
            by_cases b1 : b = 3
            · subst b1
              go_enter Tryz.func46, Tryz.ntmps46
              go_wp2
              go_ret
              exact ⟨rfl, rfl⟩
            · have g : (b == 3) = false := beq_eq_false_iff_ne.2 b1
              have g2 : ((3 : Int) == b) = false := beq_eq_false_iff_ne.2 (fun h => b1 h.symm)
              go_enter Tryz.func46, Tryz.ntmps46
              go_wp2
              go_ret
              exact ⟨ret_int (by unfold opK; simp [b1]; try omega), rfl⟩
          · have ga3 : (a == 3) = false := beq_eq_false_iff_ne.2 a3
            by_cases b1 : a = b
            · subst b1
              go_enter Tryz.func46, Tryz.ntmps46
              go_wp2
              go_ret
              exact ⟨ret_int (by unfold opK; simp [a1, a2, a3]; try omega), rfl⟩
            · have g : (a == b) = false := beq_eq_false_iff_ne.2 b1
              go_enter Tryz.func46, Tryz.ntmps46
              go_wp2
              go_ret
              exact ⟨ret_int (by unfold opK; simp [a1, a2, a3]; try omega), rfl⟩
  · have g4 : (op == 4) = false := beq_eq_false_iff_ne.2 (by omega)
    have g5 : (op == 5) = false := beq_eq_false_iff_ne.2 (by omega)
    have g6 : (op == 6) = false := beq_eq_false_iff_ne.2 (by omega)
    have g7 : (op == 7) = false := beq_eq_false_iff_ne.2 (by omega)
    have g8 : (op == 8) = false := beq_eq_false_iff_ne.2 (by omega)
    have g9 : (op == 9) = false := beq_eq_false_iff_ne.2 (by omega)
    have g10 : (op == 10) = false := beq_eq_false_iff_ne.2 (by omega)
    have g11 : (op == 11) = false := beq_eq_false_iff_ne.2 (by omega)
    have g12 : (op == 12) = false := beq_eq_false_iff_ne.2 (by omega)
    have g13 : (op == 13) = false := beq_eq_false_iff_ne.2 (by omega)
    have e : opK op a b = 0 := by
      unfold opK
      rw [if_neg (by omega), if_neg (by omega), if_neg (by omega), if_neg (by omega), if_neg (by omega)]
    rw [e]
    clear hop e
    go_enter Tryz.func46, Tryz.ntmps46
    go_wp2
    go_ret
    exact ⟨rfl, rfl⟩
set_option maxHeartbeats 2000000 in
set_option maxRecDepth 100000 in
theorem rSignO_any (op : Int) (h4 : 4 ≤ op) (h12 : op ≤ 12) (w : World) : Calls Tryz.prog 52 #[.int .i64 op] w fun e w' => e = .returned (.string (txt (sgO op))) ∧ Kp [] w w' := by
  rcases (show op = 4 ∨ op = 5 ∨ op = 6 ∨ op = 7 ∨ op = 8 ∨ op = 9 ∨ op = 10 ∨ op = 11 ∨ op = 12 by omega) with rfl | rfl | rfl | rfl | rfl | rfl | rfl | rfl | rfl
  all_goals
    go_enter Tryz.func52, Tryz.ntmps52
    go_wp2
    go_ret
    exact ⟨rfl, Kp.alloc _ _⟩
end Go.Proofs.YthipclehhcfahaaGreatDoor
namespace Go.Proofs.YthipclehhcfahaaGreatDoor

def nb (c : UInt8) : Bool := (decide ((97 : Int) ≤ (c.toNat : Int)) && decide ((c.toNat : Int) ≤ 122)) || (decide ((48 : Int) ≤ (c.toNat : Int)) && decide ((c.toNat : Int) ≤ 57))
/-- Is a text a name? -/
def nameB (s : ByteArray) : Bool := decide (1 ≤ s.size) && decide (s.size ≤ 32) && s.data.toList.all nb
end Go.Proofs.YthipclehhcfahaaGreatDoor
namespace Go.Proofs.YthipclehhcfahaaGreatDoor

/-- May a part be? -/
def mayP (p : Pt) : Bool := if p.kd = 1 ∨ p.kd = 2 ∨ p.kd = 3 then decide (lfK p ≠ 0) else decide (4 ≤ p.kd ∧ p.kd ≤ 13) && bareP p
theorem spn_iff {p : UInt8 → Bool} {l : List UInt8} : spn p l = l.length ↔ l.all p = true := by
  constructor
  · intro h
    rw [List.all_eq_true]
    intro x hx
    exact spn_mem (p := p) (l := l) x (by rw [h, List.take_length]; exact hx)
  · intro h
    exact spn_all (List.all_eq_true.1 h)
theorem isTx_wr (s : ByteArray) : wrOk ⟨3, s, 0, 0⟩ = isTx s := by
  cases ht : isTx s with
  | true => exact wr_text s ht
  | false =>
    cases hw : wrOk ⟨3, s, 0, 0⟩ with
    | false => rfl
    | true =>
      exfalso
      have h := (wrOk_iff _).1 hw
      have hl : s.data.toList.length = s.size := rfl
      rw [spell_t, tkR, if_neg (by decide), if_neg (by decide), if_pos (by decide), tkT] at h
      obtain ⟨h1, h2⟩ := h
      have h1 : s.size ≤ 256 := h1
      have hsp : spn isIn s.data.toList ≠ s.size := by
        intro e
        unfold isTx at ht
        rw [decide_eq_true h1, decide_eq_true e] at ht
        cases ht
      have hlt : spn isIn s.data.toList < s.data.toList.length := by
        have := spn_le isIn s.data.toList
        omega
      rw [spn_lt hlt] at h2
      split at h2
      · cases h2
      · split at h2
        · simp only [Option.some.injEq, Prod.mk.injEq] at h2
          have := h2.2
          simp at this
          omega
        · cases h2
theorem nb_aln (c : UInt8) : nb c = isAln c := by
  unfold nb isAln isLet isDig
  rw [Bool.eq_iff_iff]
  simp
  omega
/-- A stage's name, as the document asks it. -/
theorem sg_ask (s : ByteArray) (h0 : 0 < s.size) : isSg s = (nameB s && (decide (97 ≤ s[0].toNat) && freeW s.data.toList)) := by
  have hl : s.data.toList.length = s.size := rfl
  have hh : s.data.toList.head? = some s[0] := by
    cases hs : s.data.toList with
    | nil => rw [hs] at hl; simp at hl; omega
    | cons b r =>
      have : s[0] = s.data.toList[0]'(by rw [hl]; exact h0) := rfl
      rw [this]
      simp [hs]
  have hm : s[0] ∈ s.data.toList := List.mem_of_mem_head? hh
  have ha : (s.data.toList.all nb) = decide (spn isAln s.data.toList = s.size) := by
    rw [Bool.eq_iff_iff, decide_eq_true_eq, ← hl, spn_iff, show nb = isAln from funext nb_aln]
  unfold isSg nameB
  rw [hh, ha]
  dsimp only
  cases hsp : decide (spn isAln s.data.toList = s.size) with
  | false => simp
  | true =>
    have hall := (spn_iff (p := isAln) (l := s.data.toList)).1 (by rw [hl]; exact of_decide_eq_true hsp)
    have h97 : isLet s[0] = decide (97 ≤ s[0].toNat) := by
      have := List.all_eq_true.1 hall s[0] hm
      unfold isAln isLet isDig at this
      unfold isLet
      rw [Bool.eq_iff_iff]
      simp at this ⊢
      omega
    rw [h97, decide_eq_true (show 1 ≤ s.size from h0), decide_eq_true h0]
    cases decide (s.size ≤ 32) <;> cases decide (97 ≤ s[0].toNat) <;> simp
/-- The number's part. -/
theorem may_num (p : Pt) (h : p.kd = 1) : mayP p = (decide (0 ≤ p.n) && (emptyB p.s && (emptyB p.st && decide (p.fl = 0)))) := by
  unfold mayP lfK
  rw [if_pos (Or.inl h), Bool.eq_iff_iff]
  obtain ⟨k, n, s, st, fl⟩ := p
  dsimp only at h ⊢
  subst h
  by_cases h1 : emptyB s = true <;> by_cases h2 : emptyB st = true <;> by_cases h3 : fl = 0 <;> by_cases h4 : 0 ≤ n <;> simp [h1, h2, h3, h4]
theorem may_text (p : Pt) (h : p.kd = 2) : mayP p = (isTx p.s && (decide (p.n = 0) && (emptyB p.st && decide (p.fl = 0)))) := by
  unfold mayP lfK
  rw [if_pos (Or.inr (Or.inl h)), Bool.eq_iff_iff]
  obtain ⟨k, n, s, st, fl⟩ := p
  dsimp only at h ⊢
  subst h
  by_cases h1 : isTx s = true <;> by_cases h2 : emptyB st = true <;> by_cases h3 : fl = 0 <;> by_cases h4 : n = 0 <;> simp [h1, h2, h3, h4]
theorem may_field (p : Pt) (h : p.kd = 3) : mayP p = ((emptyB p.st || isSg p.st) && (decide (0 ≤ p.fl) && (decide (p.fl ≤ 5) && (decide (p.n = 0) && emptyB p.s)))) := by
  unfold mayP lfK fldK
  rw [if_pos (Or.inr (Or.inr h)), Bool.eq_iff_iff]
  obtain ⟨k, n, s, st, fl⟩ := p
  dsimp only at h ⊢
  subst h
  by_cases h1 : emptyB st = true <;> by_cases h2 : isSg st = true <;> by_cases h3 : n = 0 <;> by_cases h4 : emptyB s = true
  all_goals simp [h1, h2, h3, h4]
  all_goals
    by_cases h5 : fl = 4 ∨ fl = 5
    · simp [h5]; omega
    · by_cases h6 : 0 ≤ fl ∧ fl < 4
      · simp [h5, h6]; omega
      · simp [h5, h6]; omega
theorem may_op (p : Pt) (h : p.kd ≠ 1 ∧ p.kd ≠ 2 ∧ p.kd ≠ 3) : mayP p = (decide (1 ≤ p.kd) && (decide (p.kd ≤ 13) && bareP p)) := by
  unfold mayP
  rw [if_neg (by omega), Bool.eq_iff_iff]
  simp
  constructor
  · rintro ⟨⟨a, b⟩, c⟩; exact ⟨by omega, b, c⟩
  · rintro ⟨a, b, c⟩; exact ⟨⟨by omega, b⟩, c⟩
end Go.Proofs.YthipclehhcfahaaGreatDoor
