/-
  Write: an expression's text.
  Write itself.
  The reader: how it lies; the word at hand.
-/
import Derived.Test.YthipclehhcfahaaGreatDoorGt17
import Derived.Test.YthipclehhcfahaaGreatDoorGt20
import Derived.Test.YthipclehhcfahaaGreatDoorGt21
namespace Go.Proofs.YthipclehhcfahaaGreatDoor
open Go.RowKit Go.Shelf

theorem Ex.fine_leaves (t : Ex) (h : t.fine) : ∀ q ∈ t.flat, sds q.kd = 0 → lfK q ≠ 0 := by
  induction t with
  | lf p =>
    intro q hq _
    simp only [Ex.flat, List.mem_singleton] at hq
    subst hq
    exact h
  | un p a ih =>
    intro q hq h0
    simp only [Ex.flat, List.mem_cons] at hq
    rcases hq with rfl | hq
    · rw [h.1] at h0; exact absurd h0 (by decide)
    · exact ih h.2.2 q hq h0
  | bi p a b iha ihb =>
    intro q hq h0
    simp only [Ex.flat, List.mem_cons, List.mem_append] at hq
    rcases hq with rfl | hq | hq
    · have h4 := h.1; have h12 := h.2.1; unfold sds at h0; rw [if_pos ⟨h4, h12⟩] at h0; cases h0
    · exact iha h.2.2.2.1 q hq h0
    · exact ihb h.2.2.2.2 q hq h0
theorem sgO_len (k : Int) : (sgO k).length ≤ 3 := by
  unfold sgO
  repeat' split
  all_goals simp
theorem fldN_len' (f : Int) : (fldN f).length ≤ 4 := by
  have := fldN_len f.toNat
  unfold fldN at *
  rwa [Int.toNat_natCast] at this
theorem lfB_len {p : Pt} (h : lfK p ≠ 0) (hn : p.nk) : (lfB p).length ≤ 290 := by
  unfold lfB
  have hf := fldN_len' p.fl
  have e : ∀ s : ByteArray, s.data.toList.length = s.size := fun s => Array.length_toList
  rcases lfK_cases h with ⟨h1, h2⟩ | ⟨h1, h2⟩ | ⟨h1, h2, _⟩
  · rw [if_pos h1]
    have := Lib.itoa_length_le p.n (by omega) hn
    omega
  · rw [if_neg (by omega), if_pos h1, List.length_cons, List.length_append, e]
    simp
    omega
  · rw [if_neg (by omega), if_neg (by omega)]
    split
    · omega
    · rename_i hne
      rw [List.length_append, List.length_append, e]
      rcases h2 with h2 | h2
      · exact absurd h2 hne
      · simp
        omega
theorem sdB_len (a : List UInt8 × Bool) : (sdB a).length ≤ a.1.length + 4 := by
  unfold sdB
  split
  · simp
  · omega
theorem Ex.wr_len (t : Ex) (hw : t.wf) (hl : ∀ q ∈ t.flat, sds q.kd = 0 → lfK q ≠ 0) (hn : ∀ q ∈ t.flat, q.nk) : (t.val wrv).1.length ≤ 300 * t.flat.length := by
  induction t with
  | lf p =>
    have := lfB_len (hl p (by simp [Ex.flat]) hw) (hn p (by simp [Ex.flat]))
    simp only [Ex.val, wrv, Ex.flat, List.length_singleton]
    omega
  | un p a ih =>
    have h1 := ih hw.2 (fun q hq => hl q (by simp [Ex.flat, hq])) (fun q hq => hn q (by simp [Ex.flat, hq]))
    have h2 := sdB_len (a.val wrv)
    have h3 := sgO_len p.kd
    simp only [Ex.val, wrv, Ex.flat, List.length_cons, List.length_append, List.length_nil]
    omega
  | bi p a b iha ihb =>
    have h1 := iha hw.2.1 (fun q hq => hl q (by simp [Ex.flat, hq])) (fun q hq => hn q (by simp [Ex.flat, hq]))
    have h1' := ihb hw.2.2 (fun q hq => hl q (by simp [Ex.flat, hq])) (fun q hq => hn q (by simp [Ex.flat, hq]))
    have h2 := sdB_len (a.val wrv)
    have h2' := sdB_len (b.val wrv)
    have h3 := sgO_len p.kd
    simp only [Ex.val, wrv, Ex.flat, List.length_cons, List.length_append, List.length_nil]
    omega
set_option maxHeartbeats 2000000 in
set_option maxRecDepth 100000 in
theorem writtenOf_leaf (p : Pt) {O I : Int} {S0 A B : ByteArray} {a b : Bool} {F : Value} (hone : F.oneCell' = true) (w : World) (hT : TbE w) (hk : lfK p ≠ 0) (hn : p.nk) :
    Calls Tryz.prog 29 #[p.v, .agg #[.string S0, .int .i64 0, .int .u64 O, .int .i64 I, F], .agg #[.string A, .bool a, .string B, .bool b]] w fun e w' => e = .returned (.agg #[.string (txt (lfB p)), .bool false]) ∧ Below w.heap.size w w' := by
  have LF := hide (fun W (hW : TbE W) => writtenLeaf_any p W hW hk hn)
  have HT := hide hT
  have sF : ∀ W a m, (store a F m).run Tryz.prog W = stored Tryz.prog W a F m := fun W a m => run_store Tryz.prog W a F m hone
  clear hk hn hT
  unfold Pt.v at *
  generalize txt (lfB p) = L at *
  have HX := hide (wr_box (w := w) (kd := p.kd) (n := p.n) (fl := p.fl) (s := p.s) (st := p.st) (S0 := S0) (N := 0) (O := O) (I := I) (F := F) (A := A) (a := a) (B := B) (b := b))
  have HW := hide (wr_all (w := w) (kd := p.kd) (n := p.n) (fl := p.fl) (s := p.s) (st := p.st) (S0 := S0) (N := 0) (O := O) (I := I) (F := F) (A := A) (a := a) (B := B) (b := b))
  go_enter Tryz.func29, Tryz.ntmps29
  go_wp2_with fail
  refine (unhide LF _ ((((unhide HT).alloc _).alloc _).alloc _ |>.alloc _)).mono ?_
  rintro e w1 ⟨rfl, hb⟩
  have k1 := Kp.ofBelow hb
  have hbx := (unhide HX).kp k1 (by simp)
  have x0 := hbx.cell (i := 0) (v := .string { data := #[] }) rfl
  have x1 := hbx.cell (i := 1) (v := .bool false) rfl
  have xf := hbx.froz
  have HF := hide ((hbx.set 0 (.string L)).set 1 (.bool false))
  have HBL := hide (wr_below (unhide HW) k1 (.string L) (.bool false))
  clear hb k1 hbx LF HT HX HW
  go_wp2
  exact bodyPost_ret (results_cell_row Tryz.results29 _ _ (w.heap.size + 1 + 1 + 1) 70 _ (0, 0) _ rfl (unhide HF) Tryz.underlying70 rfl info_written) rfl ⟨rfl, unhide HBL⟩
theorem writtenOf_each {xs : List Pt} (hlen : xs.length ≤ 200) {w : World} (hT : TbE w) (hl : ∀ q ∈ xs, sds q.kd = 0 → lfK q ≠ 0) (hn : ∀ q ∈ xs, q.nk) (p : Pt) (ts : List Ex) (W : World) (hp : p ∈ xs) (ht : ∀ t ∈ ts, t.wf ∧ ∀ q ∈ t.flat, q ∈ xs) (hz : (ts.flatMap Ex.flat).length + 1 ≤ xs.length) (hs : ts.length = sds p.kd) (hb : Below w.heap.size w W) :
    Calls Tryz.prog 29 #[p.v, .agg (rowC p.kd), .agg (sdCW (ts.map (Ex.val wrv)))] W fun e w' => e = .returned (.agg (wrE (wrv p (ts.map (Ex.val wrv)))).toArray) ∧ Below W.heap.size W w' := by
  have hW := hT.below hb hT.low
  have h2 := sds_le p.kd
  have hone := fnO_one p.kd
  have hsg := sgO_len p.kd
  match ts, hs with
  | [], hs =>
    unfold rowC
    rw [← hs]
    exact writtenOf_leaf p hone W hW (hl p hp hs.symm) (hn p hp)
  | [a], hs =>
    have ha := a.wr_len (ht a (by simp)).1 (fun q hq => hl q ((ht a (by simp)).2 q hq)) (fun q hq => hn q ((ht a (by simp)).2 q hq))
    have hfa : a.flat.length ≤ 200 := by simp at hz; omega
    have h3 := sdB_len (a.val wrv)
    unfold rowC
    rw [← hs]
    exact writtenOf_one (S0 := txt (sgO p.kd)) (B := ⟨#[]⟩) (B' := txt (sdB ([], false))) (X1 := txt (sgO p.kd ++ [32])) (X2 := txt (sgO p.kd ++ ([32] ++ sdB (a.val wrv)))) hone W (fun W => side_any (a.val wrv) W (by omega)) (fun W => side_any ([], false) W (by simp))
      (fun W => str_add (sgO p.kd) [32] (by simp; omega) W)
      (fun W => by have := str_add (sgO p.kd ++ [32]) (sdB (a.val wrv)) (by simp; omega) W; rw [List.append_assoc] at this; exact this)
  | [a, b], hs =>
    have ha := a.wr_len (ht a (by simp)).1 (fun q hq => hl q ((ht a (by simp)).2 q hq)) (fun q hq => hn q ((ht a (by simp)).2 q hq))
    have hb' := b.wr_len (ht b (by simp)).1 (fun q hq => hl q ((ht b (by simp)).2 q hq)) (fun q hq => hn q ((ht b (by simp)).2 q hq))
    have hfa : a.flat.length ≤ 200 := by simp at hz; omega
    have hfb : b.flat.length ≤ 200 := by simp at hz; omega
    have h3 := sdB_len (a.val wrv)
    have h4 := sdB_len (b.val wrv)
    unfold rowC
    rw [← hs]
    exact writtenOf_two (S0 := txt (sgO p.kd)) (X1 := txt (sdB (a.val wrv) ++ [32])) (X2 := txt (sdB (a.val wrv) ++ ([32] ++ sgO p.kd))) (X3 := txt (sdB (a.val wrv) ++ ([32] ++ (sgO p.kd ++ [32])))) (X4 := txt (sdB (a.val wrv) ++ ([32] ++ (sgO p.kd ++ ([32] ++ sdB (b.val wrv)))))) hone W (fun W => side_any (a.val wrv) W (by omega)) (fun W => side_any (b.val wrv) W (by omega))
      (fun W => str_add (sdB (a.val wrv)) [32] (by simp; omega) W)
      (fun W => by have := str_add (sdB (a.val wrv) ++ [32]) (sgO p.kd) (by simp; omega) W; rw [List.append_assoc] at this; exact this)
      (fun W => by have := str_add (sdB (a.val wrv) ++ ([32] ++ sgO p.kd)) [32] (by simp; omega) W; rw [List.append_assoc, List.append_assoc] at this; exact this)
      (fun W => by have := str_add (sdB (a.val wrv) ++ ([32] ++ (sgO p.kd ++ [32]))) (sdB (b.val wrv)) (by simp; omega) W; rw [List.append_assoc, List.append_assoc, List.append_assoc] at this; exact this)
  | a :: b :: c :: r, hs => simp at hs; omega
theorem fold_texts (ad : Option Addr) (cap : Nat) (xs : List Pt) (hsz : xs.length ≤ 200) (w : World) (hc : PtsAt w ad xs) (hT : TbE w) (hl : ∀ q ∈ xs, sds q.kd = 0 → lfK q ≠ 0) (hn : ∀ q ∈ xs, q.nk) :
    Calls Tryz.prog 28 #[.slice ad xs.length cap, .func (.func 29) #[] #[]] w fun e w' => e = .returned (foRW (fdX wrv xs)) ∧ Below w.heap.size w w' :=
  callsIn_wide.1 (foldW_in 29 ad cap xs hsz w (PtsLow.of hc) (enters_of Tryz.func29 (by kernel_rfl) rfl) (writtenOf_each hsz hT hl hn))
end Go.Proofs.YthipclehhcfahaaGreatDoor
namespace Go.Proofs.YthipclehhcfahaaGreatDoor
open Go.RowKit Go.Shelf

/-- What Write tells. -/
def wrS (x : List Pt) : ByteArray := if ckK x = 0 then ⟨#[]⟩ else match fdX wrv x with
  | some a => txt a.1
  | none => ⟨#[]⟩
theorem ckK_leaves {x : List Pt} (h : ckK x ≠ 0) : ∃ t : Ex, t.wf ∧ t.fine ∧ x = t.flat ∧ t.dn ≤ 32 ∧ x.length ≤ 200 ∧ t.kd = ckK x := by
  obtain ⟨t, h1, h2, h3, h4, h5⟩ := ckK_some h
  refine ⟨t, h1, t.fine_of h1 (by rw [h3]; exact h), h2, ?_, h5, h3⟩
  have := t.dp_dn
  omega
set_option maxRecDepth 100000 in
set_option maxHeartbeats 1000000 in
theorem write_any (ad : Option Addr) (cap : Nat) (xs : List Pt) (w : World) (hc : PtsAt w ad xs) (hT : TbE w) (hok : ∀ p ∈ xs, p.ok) :
    Calls Tryz.prog 11 #[.slice ad xs.length cap] w fun e w' => e = .returned (.tuple #[.string (wrS xs), .int .i64 (if ckK xs = 0 then 110 else 0)]) ∧ Below w.heap.size w w' := by
  have CK := hide (check_any ad cap xs w hc hT (fun p hp => (hok p hp).2.2.2.1))
  by_cases h0 : ckK xs = 0
  · have hw : wrS xs = ⟨#[]⟩ := by unfold wrS; rw [if_pos h0]
    rw [h0, if_pos rfl] at CK
    rw [hw, if_pos h0]
    clear hc hT hok h0 hw
    go_enter Tryz.func11, Tryz.ntmps11
    go_wp2_with fail
    refine (unhide CK).mono ?_
    rintro e w1 ⟨rfl, hb⟩
    clear CK
    go_wp2
    exact bodyPost_ret (results_tmp2 rfl _ _ _) rfl ⟨rfl, hb⟩
  · obtain ⟨t, h1, h2, h3, h4, h5, h6⟩ := ckK_leaves h0
    have hfd : fdX wrv xs = some (t.val wrv) := by rw [h3]; exact fdX_flat wrv t h1
    have hlv := t.fine_leaves h2
    rw [← h3] at hlv
    have hnk : ∀ q ∈ xs, q.nk := fun q hq => (hok q hq).2.1.2
    have hlen := t.wr_len h1 (by rw [← h3]; exact hlv) (by rw [← h3]; exact hnk)
    rw [← h3] at hlen
    have FT := hide (fun W (hb : Below w.heap.size w W) => fold_texts ad cap xs h5 W (hc.kp (Kp.ofBelow hb)) (hT.below hb hT.low) hlv hnk)
    have hw : wrS xs = txt (t.val wrv).1 := by unfold wrS; rw [if_neg h0, hfd]
    rw [hw, if_neg h0]
    have CL := hide (fun W => clone_any (txt (t.val wrv).1) W (by rw [txt_size]; omega))
    rw [if_neg h0] at CK
    rw [hfd] at FT
    unfold foRW wrE at FT
    dsimp only at FT
    generalize ckK xs = ck at *
    generalize txt (t.val wrv).1 = L at *
    generalize (t.val wrv).2 = B at *
    clear hc hT hok hw hlv hnk h1 h2 h3 h4 h6 hlen hfd
    go_enter Tryz.func11, Tryz.ntmps11
    go_wp2_with fail
    refine (unhide CK).mono ?_
    rintro e w1 ⟨rfl, hb⟩
    have FT2 := hide (unhide FT w1 hb)
    have HB := hide hb
    clear CK FT hb
    go_wp2_with fail
    refine (unhide FT2).mono ?_
    rintro e w2 ⟨rfl, hb2⟩
    have HB2 := hide ((unhide HB).trans (hb2.mono (unhide HB).size))
    clear FT2 hb2 HB
    go_wp2_with fail
    refine (unhide CL _).mono ?_
    rintro e w3 ⟨rfl, hb3⟩
    have HB3 := hide (((unhide HB2).alloc (unhide HB2).size _).trans (hb3.mono (by have := (unhide HB2).size; simp; omega)))
    clear HB2 hb3 CL
    go_wp2
    exact bodyPost_ret (results_tmp2 rfl _ _ _) rfl ⟨rfl, unhide HB3⟩
end Go.Proofs.YthipclehhcfahaaGreatDoor
namespace Go.Proofs.YthipclehhcfahaaGreatDoor
open Go.RowKit Go.Shelf

attribute [local irreducible] opsV
/-- The reader's cells. -/
def rdC (lv tk : Value) (k d : Nat) (pv : Value) : Array Value := #[lv] ++ opsV ++ #[tk, .int .i64 (k : Int), .int .i64 (d : Int), pv]
theorem rdC_hi (lv tk : Value) (k d : Nat) (pv : Value) (j : Nat) : (rdC lv tk k d pv)[71 + j]? = (#[tk, .int .i64 (k : Int), .int .i64 (d : Int), pv] : Array Value)[j]? := by
  unfold rdC
  rw [Array.getElem?_append_right (by rw [Array.size_append, opsV_size]; simp), Array.size_append, opsV_size]
  congr 1
  simp
theorem rdC_0 (lv tk : Value) (k d : Nat) (pv : Value) : (rdC lv tk k d pv)[0]? = some lv := by
  unfold rdC
  rw [Array.getElem?_append_left (by rw [Array.size_append, opsV_size]; simp), Array.getElem?_append_left (by simp)]
  rfl
theorem rdC_op (lv tk : Value) (k d : Nat) (pv : Value) (j : Nat) (h : j < 70) : (rdC lv tk k d pv)[1 + j]? = opsV[j]? := by
  unfold rdC
  rw [Array.getElem?_append_left (by rw [Array.size_append, opsV_size]; simp; omega), Array.getElem?_append_right (by simp)]
  congr 1
  simp
theorem rdC_71 (lv tk : Value) (k d : Nat) (pv : Value) : (rdC lv tk k d pv)[71]? = some tk := rdC_hi lv tk k d pv 0
theorem rdC_72 (lv tk : Value) (k d : Nat) (pv : Value) : (rdC lv tk k d pv)[72]? = some (.int .i64 (k : Int)) := rdC_hi lv tk k d pv 1
theorem rdC_73 (lv tk : Value) (k d : Nat) (pv : Value) : (rdC lv tk k d pv)[73]? = some (.int .i64 (d : Int)) := rdC_hi lv tk k d pv 2
theorem rdC_74 (lv tk : Value) (k d : Nat) (pv : Value) : (rdC lv tk k d pv)[74]? = some pv := rdC_hi lv tk k d pv 3
theorem opsV_len : opsV.toList.length = 70 := by rw [Array.length_toList]; exact opsV_size
theorem rdC_set (lv tk : Value) (k d : Nat) (pv v : Value) (j : Nat) : (rdC lv tk k d pv).setIfInBounds (71 + j) v = #[lv] ++ opsV ++ (#[tk, .int .i64 (k : Int), .int .i64 (d : Int), pv] : Array Value).setIfInBounds j v := by
  apply Array.ext'
  unfold rdC
  rw [Array.toList_setIfInBounds, Array.toList_append, Array.toList_append, Array.toList_append, Array.toList_append, Array.toList_setIfInBounds, List.set_append_right _ _ (by rw [List.length_append, opsV_len]; simp), List.length_append, opsV_len]
  congr 2
  simp
theorem rdC_k (lv tk : Value) (k k' d : Nat) (pv : Value) : (rdC lv tk k d pv).setIfInBounds 72 (.int .i64 (k' : Int)) = rdC lv tk k' d pv := rdC_set lv tk k d pv _ 1
theorem rdC_d (lv tk : Value) (k d d' : Nat) (pv : Value) : (rdC lv tk k d pv).setIfInBounds 73 (.int .i64 (d' : Int)) = rdC lv tk k d' pv := rdC_set lv tk k d pv _ 2
theorem rdC_p (lv tk : Value) (k d : Nat) (pv pv' : Value) : (rdC lv tk k d pv).setIfInBounds 74 pv' = rdC lv tk k d pv' := rdC_set lv tk k d pv _ 3
/-- The tokens lie below that block. -/
def TksLow (B : Nat) (W : World) (tk : Value) (l : List Tk) : Prop := ∃ b off cap, tk = .slice (some ⟨b, off, none⟩) l.length cap ∧ b < B ∧ ∀ i (h : i < l.length), W.cell? ⟨b, off + i * 4, none⟩ = some (.int .i64 l[i].kd) ∧ W.cell? ⟨b, off + i * 4 + 1, none⟩ = some (.string l[i].s) ∧ W.cell? ⟨b, off + i * 4 + 2, none⟩ = some (.int .i64 l[i].n) ∧ W.cell? ⟨b, off + i * 4 + 3, none⟩ = some (.int .i64 l[i].pl)
theorem TksLow.below {B : Nat} {W W' : World} {tk : Value} {l : List Tk} (h : TksLow B W tk l) (hb : Below B W W') : TksLow B W' tk l := by
  obtain ⟨b, off, cap, e, hlt, hc⟩ := h
  refine ⟨b, off, cap, e, hlt, fun i hi => ?_⟩
  obtain ⟨c0, c1, c2, c3⟩ := hc i hi
  exact ⟨(hb.cell (p := ⟨b, _, none⟩) hlt).trans c0, (hb.cell (p := ⟨b, _, none⟩) hlt).trans c1, (hb.cell (p := ⟨b, _, none⟩) hlt).trans c2, (hb.cell (p := ⟨b, _, none⟩) hlt).trans c3⟩
/-- Which function reads a level. -/
def lvF (n : Nat) : Nat := if n = 2 then 87 else if n = 3 then 88 else if n = 6 then 89 else 86
/-- A level's operations lie there. -/
def OpsLow (B : Nat) (W : World) (ov : Value) (os : List Int) : Prop := (os = [] ∧ ov = .slice none 0 0) ∨ ∃ b, ov = .slice (some ⟨b, 0, none⟩) os.length os.length ∧ b < B ∧ ∀ i (h : i < os.length), W.cell? ⟨b, i, none⟩ = some (.int .i64 os[i])
theorem OpsLow.below {B : Nat} {W W' : World} {ov : Value} {os : List Int} (h : OpsLow B W ov os) (hb : Below B W W') : OpsLow B W' ov os := by
  rcases h with h | ⟨b, e, hlt, hc⟩
  · exact Or.inl h
  · exact Or.inr ⟨b, e, hlt, fun i hi => (hb.cell (p := ⟨b, _, none⟩) hlt).trans (hc i hi)⟩
def LvsLow (B : Nat) (W : World) (lv : Value) : Prop := ∃ b, lv = .slice (some ⟨b, 0, none⟩) 7 7 ∧ b < B ∧ ∀ n, n < 7 → W.cell? ⟨b, n * 2, none⟩ = some (.func (.func (lvF n)) #[] #[]) ∧ ∃ ov, W.cell? ⟨b, n * 2 + 1, none⟩ = some ov ∧ OpsLow B W ov (lvO n)
theorem LvsLow.below {B : Nat} {W W' : World} {lv : Value} (h : LvsLow B W lv) (hb : Below B W W') : LvsLow B W' lv := by
  obtain ⟨b, e, hlt, hc⟩ := h
  refine ⟨b, e, hlt, fun n hn => ?_⟩
  obtain ⟨c0, ov, c1, c2⟩ := hc n hn
  exact ⟨(hb.cell (p := ⟨b, _, none⟩) hlt).trans c0, ov, (hb.cell (p := ⟨b, _, none⟩) hlt).trans c1, c2.below hb⟩
/-- What lies below the reader. -/
structure Env (gr : Nat) (lv tk : Value) (l : List Tk) (W : World) : Prop where
  tks : TksLow gr W tk l
  lvs : LvsLow gr W lv
  tab : TbE W
  low : 8 ≤ gr
  len : l.length ≤ 100000
  ok : ∀ t ∈ l, t.s.size ≤ 140737488351232
theorem Env.below {gr : Nat} {lv tk : Value} {l : List Tk} {W W' : World} (h : Env gr lv tk l W) (hb : Below gr W W') : Env gr lv tk l W' := ⟨h.tks.below hb, h.lvs.below hb, h.tab.below hb h.low, h.low, h.len, h.ok⟩
def ptE (p : Pt) : List Value := [.int .i64 p.kd, .int .i64 p.n, .string p.s, .string p.st, .int .i64 p.fl]
theorem ptE_len (p : Pt) : (ptE p).length = 5 := rfl
/-- The reader lies there: it stands at a token, so many deep, and has read these parts. -/
structure Rd (gr : Nat) (lv tk : Value) (l : List Tk) (k d : Nat) (ps : List Pt) (W : World) : Prop where
  env : Env gr lv tk l W
  box : ∃ pv, CBox gr (rdC lv tk k d pv) 133 W ∧ W.ownsRow (gr + 1) 53 5 pv ps.length (ps.flatMap ptE)
theorem Rd.below {gr : Nat} {lv tk : Value} {l : List Tk} {k d : Nat} {ps : List Pt} {W W' : World} (h : Rd gr lv tk l k d ps W) (hb : Below W.heap.size W W') : Rd gr lv tk l k d ps W' := by
  obtain ⟨pv, h1, h2⟩ := h.box
  have hlt := (Array.getElem?_eq_some_iff.1 h1).1
  have hk := Kp.ofBelow hb
  exact ⟨h.env.below (hb.mono (by omega)), pv, h1.kp hk (by simp), row_kp h2 hk (by simp)⟩
def wdS (t : Tk) : ByteArray := if t.kd = 1 ∨ t.kd = 4 then t.s else ⟨#[]⟩
theorem wdS_list (t : Tk) : (wdS t).data.toList = wdT t := by unfold wdS wdT; split <;> rfl
theorem drop_at {l : List Tk} {k : Nat} {t : Tk} {r : List Tk} (h : l.drop k = t :: r) : ∃ hk : k < l.length, l[k] = t ∧ l.drop (k + 1) = r := by
  have hk : k < l.length := by
    rcases Nat.lt_or_ge k l.length with h1 | h1
    · exact h1
    · rw [List.drop_eq_nil_of_le h1] at h; cases h
  rw [List.drop_eq_getElem_cons hk] at h
  cases h
  exact ⟨hk, rfl, rfl⟩
set_option maxHeartbeats 2000000 in
set_option maxRecDepth 100000 in
theorem word_any {gr : Nat} {lv tk : Value} {l : List Tk} {k d : Nat} {ps : List Pt} {W : World} (h : Rd gr lv tk l k d ps W) {t : Tk} {r : List Tk} (ht : l.drop k = t :: r) :
    Calls Tryz.prog 118 #[.pointer (some ⟨gr, 0, none⟩)] W fun e w' => e = .returned (.string (wdS t)) ∧ Below W.heap.size W w' := by
  obtain ⟨hk, ha, _⟩ := drop_at ht
  obtain ⟨pv, hb, _⟩ := h.box
  obtain ⟨b, off, cap, htk, hlt, hc⟩ := h.env.tks
  obtain ⟨c0, c1, c2, c3⟩ := hc k hk
  rw [ha] at c0 c1 c2 c3
  have hlen := h.env.len
  have hgl := (Array.getElem?_eq_some_iff.1 hb).1
  have e1 := hb.cell (rdC_71 lv tk k d pv)
  have e2 := hb.cell (rdC_72 lv tk k d pv)
  rw [htk] at e1
  clear h hb hc ha htk ht
  have al : ∀ {q : Addr} {v : Value}, W.cell? q = some v → q.block < W.heap.size → (W.alloc (.cells #[.int .i64 0, .string { data := #[] }, .int .i64 0, .int .i64 0] 92)).cell? q = some v := fun h _ => (Kp.alloc W _).cell h (by simp)
  have d0 := al c0 (by show b < _; omega)
  have d1 := al c1 (by show b < _; omega)
  have d2 := al c2 (by show b < _; omega)
  have d3 := al c3 (by show b < _; omega)
  have g1 := al e1 hgl
  have g2 := al e2 hgl
  clear al
  unfold wdS
  obtain ⟨kd, s, n, pl⟩ := t
  dsimp only at *
  go_enter Tryz.func118, Tryz.ntmps118
  go_wp2
  go_region
  clear c0 c1 c2 c3 d0 d1 d2 d3 e1 e2 g1 g2
  have hb : ∀ o, Below W.heap.size W (W.alloc o).drew := fun o => ((Below.refl _ _).alloc (Nat.le_refl _) _).trans ⟨rfl, rfl, rfl, Nat.le_refl _, fun _ _ => rfl⟩
  by_cases h1 : kd = 1
  · subst h1
    go_wp2
    exact bodyPost_ret (results_tmp rfl _ _ _) rfl ⟨rfl, hb _⟩
  · by_cases h4 : kd = 4
    · subst h4
      go_wp2
      exact bodyPost_ret (results_tmp rfl _ _ _) rfl ⟨rfl, hb _⟩
    · have g1 : (kd == 1) = false := beq_eq_false_iff_ne.2 h1
      have g4 : (kd == 4) = false := beq_eq_false_iff_ne.2 h4
      go_wp2
      exact bodyPost_ret (results_tmp rfl _ _ _) rfl ⟨by first | rfl | (rw [if_neg (by omega)]; rfl), hb _⟩
/-- One token on. -/
theorem Rd.next {gr : Nat} {lv tk : Value} {l : List Tk} {k d : Nat} {ps : List Pt} {W : World} (h : Rd gr lv tk l k d ps W) : Rd gr lv tk l (k + 1) d ps (W.setCell ⟨gr, 72, none⟩ (.int .i64 ((k : Int) + 1))) := by
  obtain ⟨pv, h1, h2⟩ := h.box
  have hlt := (Array.getElem?_eq_some_iff.1 h1).1
  have e : ((k : Int) + 1) = ((k + 1 : Nat) : Int) := by omega
  rw [e]
  have c := h1.set 72 (.int .i64 ((k + 1 : Nat) : Int))
  rw [rdC_k] at c
  exact ⟨h.env.below ((Kp.set W gr 72 _).below (by omega) (by simp)), pv, c, row_kp h2 (Kp.set _ _ _ _) (fun g hg => by have := (h2.lt g hg).1; simp; omega)⟩
theorem Rd.cells {gr : Nat} {lv tk : Value} {l : List Tk} {k d : Nat} {ps : List Pt} {W : World} (h : Rd gr lv tk l k d ps W) : W.cell? ⟨gr, 72, none⟩ = some (.int .i64 (k : Int)) ∧ W.cell? ⟨gr, 73, none⟩ = some (.int .i64 (d : Int)) ∧ (∀ i, W.frozen? ⟨gr, i, none⟩ = false) ∧ gr < W.heap.size := by
  obtain ⟨pv, h1, h2⟩ := h.box
  exact ⟨h1.cell (rdC_72 lv tk k d pv), h1.cell (rdC_73 lv tk k d pv), h1.froz, (Array.getElem?_eq_some_iff.1 h1).1⟩
set_option maxHeartbeats 2000000 in
set_option maxRecDepth 100000 in
theorem skip_any {gr : Nat} {lv tk : Value} {l : List Tk} {k d : Nat} {ps : List Pt} {W : World} (h : Rd gr lv tk l k d ps W) {t : Tk} {r : List Tk} (ht : l.drop k = t :: r) (sg : ByteArray) :
    Calls Tryz.prog 108 #[.pointer (some ⟨gr, 0, none⟩), .string sg] W fun e w' => e = .returned (.bool (decide (wdT t = sg.data.toList))) ∧ Rd gr lv tk l (if wdT t = sg.data.toList then k + 1 else k) d ps w' ∧ Below gr W w' := by
  have WD := hide (word_any h ht)
  have hk : k ≤ 100000 := by obtain ⟨hk, _⟩ := drop_at ht; have := h.env.len; omega
  have HR := hide h
  rw [← wdS_list]
  clear h ht
  generalize wdS t = S at *
  by_cases he : S.data.toList = sg.data.toList
  · have heq : (S.toList == sg.toList) = true := by rw [toList_data, toList_data, he]; exact beq_self_eq_true _
    rw [if_pos he, decide_eq_true he]
    clear he
    go_enter Tryz.func108, Tryz.ntmps108
    go_wp2_with fail
    refine (unhide WD).mono ?_
    rintro e w1 ⟨rfl, hb⟩
    have HR1 := hide ((unhide HR).below hb)
    obtain ⟨c72, _, f72, _⟩ := (unhide HR1).cells
    have HB := hide (hb.mono (show gr ≤ W.heap.size by have := (unhide HR).cells; omega))
    clear hb HR WD
    go_wp2
    refine bodyPost_ret (results_tmp rfl _ _ _) rfl ⟨rfl, (unhide HR1).next, (unhide HB).setCell (p := ⟨gr, 72, none⟩) (Nat.le_refl _) _⟩
  · have heq : (S.toList == sg.toList) = false := by rw [toList_data, toList_data]; exact beq_eq_false_iff_ne.2 he
    rw [if_neg he, decide_eq_false he]
    clear he
    go_enter Tryz.func108, Tryz.ntmps108
    go_wp2_with fail
    refine (unhide WD).mono ?_
    rintro e w1 ⟨rfl, hb⟩
    have HR1 := hide ((unhide HR).below hb)
    have HB := hide (hb.mono (show gr ≤ W.heap.size by have := (unhide HR).cells; omega))
    clear hb HR WD
    go_wp2
    exact bodyPost_ret (results_tmp rfl _ _ _) rfl ⟨rfl, unhide HR1, unhide HB⟩
end Go.Proofs.YthipclehhcfahaaGreatDoor
