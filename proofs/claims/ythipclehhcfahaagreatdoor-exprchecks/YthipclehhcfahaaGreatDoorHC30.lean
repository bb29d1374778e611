/-
  Write: an expression's text.
  Write itself.
  The document's Check is the plain function's.
-/
import Derived.Test.YthipclehhcfahaaGreatDoorHC28
import Derived.Test.YthipclehhcfahaaGreatDoorHC26
import Derived.Test.YthipclehhcfahaaGreatDoorHC29
namespace Go.Proofs.YthipclehhcfahaaGreatDoor
open Go.RowKit Go.Shelf

theorem Ex.fine_leaves (t : Ex) (h : t.fine) : ∀ q ∈ t.flat, sds q.kd = 0 → lfK q ≠ 0 := by
  induction t with
  | lf p =>
    intro q hq _
    simp only [Ex.flat, List.mem_singleton] at hq
    subst hq
    exact h
  | un p a ih =>
    intro q hq h0
    simp only [Ex.flat, List.mem_cons] at hq
    rcases hq with rfl | hq
    · rw [h.1] at h0; exact absurd h0 (by decide)
    · exact ih h.2.2 q hq h0
  | bi p a b iha ihb =>
    intro q hq h0
    simp only [Ex.flat, List.mem_cons, List.mem_append] at hq
    rcases hq with rfl | hq | hq
    · have h4 := h.1; have h12 := h.2.1; unfold sds at h0; rw [if_pos ⟨h4, h12⟩] at h0; cases h0
    · exact iha h.2.2.2.1 q hq h0
    · exact ihb h.2.2.2.2 q hq h0
theorem sgO_len (k : Int) : (sgO k).length ≤ 3 := by
  unfold sgO
  repeat' split
  all_goals simp
theorem fldN_len' (f : Int) : (fldN f).length ≤ 4 := by
  have := fldN_len f.toNat
  unfold fldN at *
  rwa [Int.toNat_natCast] at this
theorem lfB_len {p : Pt} (h : lfK p ≠ 0) (hn : p.nk) : (lfB p).length ≤ 290 := by
  unfold lfB
  have hf := fldN_len' p.fl
  have e : ∀ s : ByteArray, s.data.toList.length = s.size := fun s => Array.length_toList
  rcases lfK_cases h with ⟨h1, h2⟩ | ⟨h1, h2⟩ | ⟨h1, h2, _⟩
  · rw [if_pos h1]
    have := Lib.itoa_length_le p.n (by omega) hn
    omega
  · rw [if_neg (by omega), if_pos h1, List.length_cons, List.length_append, e]
    simp
    omega
  · rw [if_neg (by omega), if_neg (by omega)]
    split
    · omega
    · rename_i hne
      rw [List.length_append, List.length_append, e]
      rcases h2 with h2 | h2
      · exact absurd h2 hne
      · simp
        omega
theorem sdB_len (a : List UInt8 × Bool) : (sdB a).length ≤ a.1.length + 4 := by
  unfold sdB
  split
  · simp
  · omega
theorem Ex.wr_len (t : Ex) (hw : t.wf) (hl : ∀ q ∈ t.flat, sds q.kd = 0 → lfK q ≠ 0) (hn : ∀ q ∈ t.flat, q.nk) : (t.val wrv).1.length ≤ 300 * t.flat.length := by
  induction t with
  | lf p =>
    have := lfB_len (hl p (by simp [Ex.flat]) hw) (hn p (by simp [Ex.flat]))
    simp only [Ex.val, wrv, Ex.flat, List.length_singleton]
    omega
  | un p a ih =>
    have h1 := ih hw.2 (fun q hq => hl q (by simp [Ex.flat, hq])) (fun q hq => hn q (by simp [Ex.flat, hq]))
    have h2 := sdB_len (a.val wrv)
    have h3 := sgO_len p.kd
    simp only [Ex.val, wrv, Ex.flat, List.length_cons, List.length_append, List.length_nil]
    omega
  | bi p a b iha ihb =>
    have h1 := iha hw.2.1 (fun q hq => hl q (by simp [Ex.flat, hq])) (fun q hq => hn q (by simp [Ex.flat, hq]))
    have h1' := ihb hw.2.2 (fun q hq => hl q (by simp [Ex.flat, hq])) (fun q hq => hn q (by simp [Ex.flat, hq]))
    have h2 := sdB_len (a.val wrv)
    have h2' := sdB_len (b.val wrv)
    have h3 := sgO_len p.kd
    simp only [Ex.val, wrv, Ex.flat, List.length_cons, List.length_append, List.length_nil]
    omega
set_option maxHeartbeats 2000000 in
set_option maxRecDepth 100000 in
theorem writtenOf_leaf (p : Pt) {O I : Int} {S0 A B : ByteArray} {a b : Bool} {F : Value} (hone : F.oneCell' = true) (w : World) (hT : TbE w) (hk : lfK p ≠ 0) (hn : p.nk) :
    Calls Tryz.prog 29 #[p.v, .agg #[.string S0, .int .i64 0, .int .u64 O, .int .i64 I, F], .agg #[.string A, .bool a, .string B, .bool b]] w fun e w' => e = .returned (.agg #[.string (txt (lfB p)), .bool false]) ∧ Below w.heap.size w w' := by
  have LF := hide (fun W (hW : TbE W) => writtenLeaf_any p W hW hk hn)
  have HT := hide hT
  have sF : ∀ W a m, (store a F m).run Tryz.prog W = stored Tryz.prog W a F m := fun W a m => run_store Tryz.prog W a F m hone
  clear hk hn hT
  unfold Pt.v at *
  generalize txt (lfB p) = L at *
  have HX := hide (wr_box (w := w) (kd := p.kd) (n := p.n) (fl := p.fl) (s := p.s) (st := p.st) (S0 := S0) (N := 0) (O := O) (I := I) (F := F) (A := A) (a := a) (B := B) (b := b))
  have HW := hide (wr_all (w := w) (kd := p.kd) (n := p.n) (fl := p.fl) (s := p.s) (st := p.st) (S0 := S0) (N := 0) (O := O) (I := I) (F := F) (A := A) (a := a) (B := B) (b := b))
  go_enter Tryz.func29, Tryz.ntmps29
  go_wp2_with fail
  refine (unhide LF _ ((((unhide HT).alloc _).alloc _).alloc _ |>.alloc _)).mono ?_
  rintro e w1 ⟨rfl, hb⟩
  have k1 := Kp.ofBelow hb
  have hbx := (unhide HX).kp k1 (by simp)
  have x0 := hbx.cell (i := 0) (v := .string { data := #[] }) rfl
  have x1 := hbx.cell (i := 1) (v := .bool false) rfl
  have xf := hbx.froz
  have HF := hide ((hbx.set 0 (.string L)).set 1 (.bool false))
  have HBL := hide (wr_below (unhide HW) k1 (.string L) (.bool false))
  clear hb k1 hbx LF HT HX HW
  go_wp2
  exact bodyPost_ret (results_cell_row Tryz.results29 _ _ (w.heap.size + 1 + 1 + 1) 70 _ (0, 0) _ rfl (unhide HF) Tryz.underlying70 rfl info_written) rfl ⟨rfl, unhide HBL⟩
theorem writtenOf_each {xs : List Pt} (hlen : xs.length ≤ 200) {w : World} (hT : TbE w) (hl : ∀ q ∈ xs, sds q.kd = 0 → lfK q ≠ 0) (hn : ∀ q ∈ xs, q.nk) (p : Pt) (ts : List Ex) (W : World) (hp : p ∈ xs) (ht : ∀ t ∈ ts, t.wf ∧ ∀ q ∈ t.flat, q ∈ xs) (hz : (ts.flatMap Ex.flat).length + 1 ≤ xs.length) (hs : ts.length = sds p.kd) (hb : Below w.heap.size w W) :
    Calls Tryz.prog 29 #[p.v, .agg (rowC p.kd), .agg (sdCW (ts.map (Ex.val wrv)))] W fun e w' => e = .returned (.agg (wrE (wrv p (ts.map (Ex.val wrv)))).toArray) ∧ Below W.heap.size W w' := by
  have hW := hT.below hb hT.low
  have h2 := sds_le p.kd
  have hone := fnO_one p.kd
  have hsg := sgO_len p.kd
  match ts, hs with
  | [], hs =>
    unfold rowC
    rw [← hs]
    exact writtenOf_leaf p hone W hW (hl p hp hs.symm) (hn p hp)
  | [a], hs =>
    have ha := a.wr_len (ht a (by simp)).1 (fun q hq => hl q ((ht a (by simp)).2 q hq)) (fun q hq => hn q ((ht a (by simp)).2 q hq))
    have hfa : a.flat.length ≤ 200 := by simp at hz; omega
    have h3 := sdB_len (a.val wrv)
    unfold rowC
    rw [← hs]
    exact writtenOf_one (S0 := txt (sgO p.kd)) (B := ⟨#[]⟩) (B' := txt (sdB ([], false))) (X1 := txt (sgO p.kd ++ [32])) (X2 := txt (sgO p.kd ++ ([32] ++ sdB (a.val wrv)))) hone W (fun W => side_any (a.val wrv) W (by omega)) (fun W => side_any ([], false) W (by simp))
      (fun W => str_add (sgO p.kd) [32] (by simp; omega) W)
      (fun W => by have := str_add (sgO p.kd ++ [32]) (sdB (a.val wrv)) (by simp; omega) W; rw [List.append_assoc] at this; exact this)
  | [a, b], hs =>
    have ha := a.wr_len (ht a (by simp)).1 (fun q hq => hl q ((ht a (by simp)).2 q hq)) (fun q hq => hn q ((ht a (by simp)).2 q hq))
    have hb' := b.wr_len (ht b (by simp)).1 (fun q hq => hl q ((ht b (by simp)).2 q hq)) (fun q hq => hn q ((ht b (by simp)).2 q hq))
    have hfa : a.flat.length ≤ 200 := by simp at hz; omega
    have hfb : b.flat.length ≤ 200 := by simp at hz; omega
    have h3 := sdB_len (a.val wrv)
    have h4 := sdB_len (b.val wrv)
    unfold rowC
    rw [← hs]
    exact writtenOf_two (S0 := txt (sgO p.kd)) (X1 := txt (sdB (a.val wrv) ++ [32])) (X2 := txt (sdB (a.val wrv) ++ ([32] ++ sgO p.kd))) (X3 := txt (sdB (a.val wrv) ++ ([32] ++ (sgO p.kd ++ [32])))) (X4 := txt (sdB (a.val wrv) ++ ([32] ++ (sgO p.kd ++ ([32] ++ sdB (b.val wrv)))))) hone W (fun W => side_any (a.val wrv) W (by omega)) (fun W => side_any (b.val wrv) W (by omega))
      (fun W => str_add (sdB (a.val wrv)) [32] (by simp; omega) W)
      (fun W => by have := str_add (sdB (a.val wrv) ++ [32]) (sgO p.kd) (by simp; omega) W; rw [List.append_assoc] at this; exact this)
      (fun W => by have := str_add (sdB (a.val wrv) ++ ([32] ++ sgO p.kd)) [32] (by simp; omega) W; rw [List.append_assoc, List.append_assoc] at this; exact this)
      (fun W => by have := str_add (sdB (a.val wrv) ++ ([32] ++ (sgO p.kd ++ [32]))) (sdB (b.val wrv)) (by simp; omega) W; rw [List.append_assoc, List.append_assoc, List.append_assoc] at this; exact this)
  | a :: b :: c :: r, hs => simp at hs; omega
theorem fold_texts (ad : Option Addr) (cap : Nat) (xs : List Pt) (hsz : xs.length ≤ 200) (w : World) (hc : PtsAt w ad xs) (hT : TbE w) (hl : ∀ q ∈ xs, sds q.kd = 0 → lfK q ≠ 0) (hn : ∀ q ∈ xs, q.nk) :
    Calls Tryz.prog 28 #[.slice ad xs.length cap, .func (.func 29) #[] #[]] w fun e w' => e = .returned (foRW (fdX wrv xs)) ∧ Below w.heap.size w w' :=
  callsIn_wide.1 (foldW_in 29 ad cap xs hsz w (PtsLow.of hc) (enters_of Tryz.func29 (by kernel_rfl) rfl) (writtenOf_each hsz hT hl hn))
end Go.Proofs.YthipclehhcfahaaGreatDoor
namespace Go.Proofs.YthipclehhcfahaaGreatDoor
open Go.RowKit Go.Shelf

/-- What Write tells. -/
def wrS (x : List Pt) : ByteArray := if ckK x = 0 then ⟨#[]⟩ else match fdX wrv x with
  | some a => txt a.1
  | none => ⟨#[]⟩
theorem ckK_leaves {x : List Pt} (h : ckK x ≠ 0) : ∃ t : Ex, t.wf ∧ t.fine ∧ x = t.flat ∧ t.dn ≤ 32 ∧ x.length ≤ 200 ∧ t.kd = ckK x := by
  obtain ⟨t, h1, h2, h3, h4, h5⟩ := ckK_some h
  refine ⟨t, h1, t.fine_of h1 (by rw [h3]; exact h), h2, ?_, h5, h3⟩
  have := t.dp_dn
  omega
set_option maxRecDepth 100000 in
set_option maxHeartbeats 1000000 in
theorem write_any (ad : Option Addr) (cap : Nat) (xs : List Pt) (w : World) (hc : PtsAt w ad xs) (hT : TbE w) (hok : ∀ p ∈ xs, p.ok) :
    Calls Tryz.prog 11 #[.slice ad xs.length cap] w fun e w' => e = .returned (.tuple #[.string (wrS xs), .int .i64 (if ckK xs = 0 then 110 else 0)]) ∧ Below w.heap.size w w' := by
  have CK := hide (check_any ad cap xs w hc hT (fun p hp => (hok p hp).2.2.2.1))
  by_cases h0 : ckK xs = 0
  · have hw : wrS xs = ⟨#[]⟩ := by unfold wrS; rw [if_pos h0]
    rw [h0, if_pos rfl] at CK
    rw [hw, if_pos h0]
    clear hc hT hok h0 hw
    go_enter Tryz.func11, Tryz.ntmps11
    go_wp2_with fail
    refine (unhide CK).mono ?_
    rintro e w1 ⟨rfl, hb⟩
    clear CK
    go_wp2
    exact bodyPost_ret (results_tmp2 rfl _ _ _) rfl ⟨rfl, hb⟩
  · obtain ⟨t, h1, h2, h3, h4, h5, h6⟩ := ckK_leaves h0
    have hfd : fdX wrv xs = some (t.val wrv) := by rw [h3]; exact fdX_flat wrv t h1
    have hlv := t.fine_leaves h2
    rw [← h3] at hlv
    have hnk : ∀ q ∈ xs, q.nk := fun q hq => (hok q hq).2.1.2
    have hlen := t.wr_len h1 (by rw [← h3]; exact hlv) (by rw [← h3]; exact hnk)
    rw [← h3] at hlen
    have FT := hide (fun W (hb : Below w.heap.size w W) => fold_texts ad cap xs h5 W (hc.kp (Kp.ofBelow hb)) (hT.below hb hT.low) hlv hnk)
    have hw : wrS xs = txt (t.val wrv).1 := by unfold wrS; rw [if_neg h0, hfd]
    rw [hw, if_neg h0]
    have CL := hide (fun W => clone_any (txt (t.val wrv).1) W (by rw [txt_size]; omega))
    rw [if_neg h0] at CK
    rw [hfd] at FT
    unfold foRW wrE at FT
    dsimp only at FT
    generalize ckK xs = ck at *
    generalize txt (t.val wrv).1 = L at *
    generalize (t.val wrv).2 = B at *
    clear hc hT hok hw hlv hnk h1 h2 h3 h4 h6 hlen hfd
    go_enter Tryz.func11, Tryz.ntmps11
    go_wp2_with fail
    refine (unhide CK).mono ?_
    rintro e w1 ⟨rfl, hb⟩
    have FT2 := hide (unhide FT w1 hb)
    have HB := hide hb
    clear CK FT hb
    go_wp2_with fail
    refine (unhide FT2).mono ?_
    rintro e w2 ⟨rfl, hb2⟩
    have HB2 := hide ((unhide HB).trans (hb2.mono (unhide HB).size))
    clear FT2 hb2 HB
    go_wp2_with fail
    refine (unhide CL _).mono ?_
    rintro e w3 ⟨rfl, hb3⟩
    have HB3 := hide (((unhide HB2).alloc (unhide HB2).size _).trans (hb3.mono (by have := (unhide HB2).size; simp; omega)))
    clear HB2 hb3 CL
    go_wp2
    exact bodyPost_ret (results_tmp2 rfl _ _ _) rfl ⟨rfl, unhide HB3⟩
end Go.Proofs.YthipclehhcfahaaGreatDoor
namespace Go.Proofs.YthipclehhcfahaaGreatDoor
open Go.RowKit Go.Shelf

theorem at_mid (pre : List Pt) (p : Pt) (r : List Pt) : (pre ++ p :: r)[pre.length]? = some p := by simp
theorem may_bare {p : Pt} (h : 4 ≤ p.kd ∧ p.kd ≤ 13) (hb : bareP p = true) : mayP p = true := by
  rw [may_op p ⟨by omega, by omega, by omega⟩, hb, decide_eq_true (show 1 ≤ p.kd by omega), decide_eq_true h.2]
  rfl
theorem lfK_kd {p : Pt} (h : lfK p ≠ 0) : (p.kd = 1 ∨ p.kd = 2 ∨ p.kd = 3) ∧ lfK p = (if p.kd = 1 then 1 else if p.kd = 2 then 2 else if p.fl < 4 then 1 else 2) := by
  have h' := h
  unfold lfK at h ⊢
  split at h
  · rename_i e
    rw [if_pos e]
    exact ⟨Or.inl e.1, by rw [if_pos e.1]⟩
  · rename_i e1
    rw [if_neg e1]
    split at h
    · rename_i e
      rw [if_pos e]
      exact ⟨Or.inr (Or.inl e.1), by rw [if_neg (by omega), if_pos e.1]⟩
    · rename_i e2
      rw [if_neg e2]
      split at h
      · rename_i e
        rw [if_pos e]
        refine ⟨Or.inr (Or.inr e.1), ?_⟩
        rw [if_neg (by omega), if_neg (by omega)]
        have := fldK_ne h
        unfold fldK
        split
        · rw [if_neg (by omega)]
        · rw [if_pos (by omega), if_pos (by omega)]
      · exact absurd rfl h
theorem may_leaf {p : Pt} (h : lfK p ≠ 0) : mayP p = true := by
  unfold mayP
  rw [if_pos (lfK_kd h).1, decide_eq_true h]
/-- A tree that may be is told as it is. -/
theorem rkd_tree (t : Ex) : t.wf → t.kd ≠ 0 → ∀ (n : Nat), t.dn ≤ n → ∀ (pre rest : List Pt), rkd (pre ++ (t.flat ++ rest)) n pre.length = (t.kd, pre.length + t.flat.length) := by
  induction t with
  | lf p =>
    intro hw hk n hn pre rest
    have hl : lfK p ≠ 0 := hk
    obtain ⟨m, rfl⟩ : ∃ m, n = m + 1 := ⟨n - 1, by simp only [Ex.dn] at hn; omega⟩
    obtain ⟨h1, h2⟩ := lfK_kd hl
    rw [Ex.flat, List.singleton_append, rkd, at_mid]
    dsimp only
    rw [if_neg (by rw [may_leaf hl]; simp)]
    have e : (Ex.lf p).kd = lfK p := rfl
    rw [e, h2]
    rcases h1 with h | h | h
    · simp [h]
    · simp [h]
    · simp [h]
      split <;> rfl
  | un p a ih =>
    intro hw hk n hn pre rest
    obtain ⟨m, rfl⟩ : ∃ m, n = m + 1 := ⟨n - 1, by simp only [Ex.dn] at hn; omega⟩
    have h13 := sds_one hw.1
    have e : (Ex.un p a).kd = if bareP p then opK p.kd a.kd 0 else 0 := rfl
    have hb : bareP p = true := by
      cases hb : bareP p with
      | true => rfl
      | false => rw [e, hb] at hk; exact absurd rfl hk
    rw [e, hb, if_pos rfl] at hk ⊢
    have ha : a.kd ≠ 0 := fun h => hk (by rw [h]; exact opK_zero _ _)
    have := ih hw.2 ha m (by simp only [Ex.dn] at hn; omega) (pre ++ [p]) rest
    rw [List.append_assoc, List.singleton_append, List.length_append, List.length_singleton] at this
    rw [Ex.flat, List.cons_append, rkd, at_mid]
    dsimp only
    rw [if_neg (by rw [may_bare (by omega) hb]; simp), if_neg (by omega), if_neg (by omega), if_neg (by omega), this]
    dsimp only
    rw [if_neg (by simp [h13])]
    simp only [List.length_cons, Prod.mk.injEq, true_and]
    omega
  | bi p a b iha ihb =>
    intro hw hk n hn pre rest
    obtain ⟨m, rfl⟩ : ∃ m, n = m + 1 := ⟨n - 1, by simp only [Ex.dn] at hn; omega⟩
    have h2 := sds_two hw.1
    have e : (Ex.bi p a b).kd = if bareP p then opK p.kd a.kd b.kd else 0 := rfl
    have hb : bareP p = true := by
      cases hb : bareP p with
      | true => rfl
      | false => rw [e, hb] at hk; exact absurd rfl hk
    rw [e, hb, if_pos rfl] at hk ⊢
    have ha : a.kd ≠ 0 := fun h => hk (by rw [h]; exact opK_zero _ _)
    have hbb : b.kd ≠ 0 := fun h => hk (by rw [h]; exact opK_zero2 _ _ (by omega))
    have t1 := iha hw.2.1 ha m (by simp only [Ex.dn] at hn; omega) (pre ++ [p]) (b.flat ++ rest)
    have t2 := ihb hw.2.2 hbb m (by simp only [Ex.dn] at hn; omega) (pre ++ p :: a.flat) rest
    rw [List.append_assoc, List.singleton_append, List.length_append, List.length_singleton] at t1
    rw [List.append_assoc, List.cons_append, List.length_append, List.length_cons] at t2
    have t1' : rkd (pre ++ p :: (a.flat ++ (b.flat ++ rest))) m (pre.length + 1) = (a.kd, pre.length + (a.flat.length + 1)) := by rw [t1]; congr 1; omega
    rw [Ex.flat, List.cons_append, List.append_assoc, rkd, at_mid]
    dsimp only
    rw [if_neg (by rw [may_bare (by omega) hb]; simp), if_neg (by omega), if_neg (by omega), if_neg (by omega), t1']
    dsimp only
    rw [if_pos ⟨ha, by omega⟩, t2]
    dsimp only
    rw [if_neg hbb]
    simp only [List.length_cons, List.length_append, Prod.mk.injEq, true_and]
    omega
/-- What is told of is a tree that may be. -/
theorem rkd_some (xs : List Pt) (n : Nat) : ∀ (at_ : Nat) (k : Int) (E : Nat), rkd xs n at_ = (k, E) → k ≠ 0 → ∃ t : Ex, t.wf ∧ t.kd = k ∧ t.dn ≤ n ∧ E = at_ + t.flat.length ∧ xs.drop at_ = t.flat ++ xs.drop E := by
  induction n with
  | zero => intro at_ k E h hk; rw [rkd] at h; cases h; exact absurd rfl hk
  | succ n ih =>
    intro at_ k E h hk
    rw [rkd] at h
    cases hp : xs[at_]? with
    | none => rw [hp] at h; cases h; exact absurd rfl hk
    | some p =>
      obtain ⟨hlt, hpe⟩ := List.getElem?_eq_some_iff.1 hp
      have hd : xs.drop at_ = p :: xs.drop (at_ + 1) := by rw [List.drop_eq_getElem_cons hlt, hpe]
      rw [hp] at h
      dsimp only at h
      split at h
      · cases h; exact absurd rfl hk
      · rename_i hm
        have hm : mayP p = true := by simpa using hm
        by_cases hlf : p.kd = 1 ∨ p.kd = 2 ∨ p.kd = 3
        · have hl : lfK p ≠ 0 := by
            unfold mayP at hm
            rw [if_pos hlf] at hm
            exact of_decide_eq_true hm
          have hv := (lfK_kd hl).2
          have hs : sds p.kd = 0 := by unfold sds; rw [if_neg (by omega), if_neg (by omega)]
          refine ⟨.lf p, hs, ?_, by simp [Ex.dn], ?_, ?_⟩
          · show lfK p = k
            rw [hv]
            rcases hlf with e | e | e
            · rw [if_pos e] at h ⊢; cases h; rfl
            · rw [if_neg (by omega), if_pos e] at h ⊢; cases h; rfl
            · rw [if_neg (by omega), if_neg (by omega)] at h ⊢
              rw [if_pos e] at h
              split at h
              · rename_i hf; rw [if_pos hf]; cases h; rfl
              · rename_i hf; rw [if_neg hf]; cases h; rfl
          · simp only [Ex.flat, List.length_singleton]
            rcases hlf with e | e | e
            · rw [if_pos e] at h; cases h; rfl
            · rw [if_neg (by omega), if_pos e] at h; cases h; rfl
            · rw [if_neg (by omega), if_neg (by omega), if_pos e] at h
              split at h <;> (cases h; rfl)
          · have hE : E = at_ + 1 := by
              rcases hlf with e | e | e
              · rw [if_pos e] at h; cases h; rfl
              · rw [if_neg (by omega), if_pos e] at h; cases h; rfl
              · rw [if_neg (by omega), if_neg (by omega), if_pos e] at h
                split at h <;> (cases h; rfl)
            rw [hE, hd]
            rfl
        · have hop : p.kd ≠ 1 ∧ p.kd ≠ 2 ∧ p.kd ≠ 3 := ⟨fun e => hlf (Or.inl e), fun e => hlf (Or.inr (Or.inl e)), fun e => hlf (Or.inr (Or.inr e))⟩
          rw [may_op p hop] at hm
          simp only [Bool.and_eq_true, decide_eq_true_eq] at hm
          obtain ⟨m1, m2, hb⟩ := hm
          have hkd : 4 ≤ p.kd ∧ p.kd ≤ 13 := by omega
          rw [if_neg hop.1, if_neg hop.2.1, if_neg hop.2.2] at h
          cases hr : rkd xs n (at_ + 1) with
          | mk A E1 =>
            rw [hr] at h
            dsimp only at h
            split at h
            · rename_i hc
              obtain ⟨ta, a1, a2, a3, a4, a5⟩ := ih (at_ + 1) A E1 hr hc.1
              cases hr2 : rkd xs n E1 with
              | mk K F =>
                rw [hr2] at h
                dsimp only at h
                split at h
                · cases h; exact absurd rfl hk
                · rename_i hK
                  obtain ⟨tb, b1, b2, b3, b4, b5⟩ := ih E1 K F hr2 hK
                  cases h
                  have hs : sds p.kd = 2 := by unfold sds; rw [if_pos (by omega)]
                  refine ⟨.bi p ta tb, ⟨hs, a1, b1⟩, ?_, ?_, ?_, ?_⟩
                  · show (if bareP p then opK p.kd ta.kd tb.kd else 0) = _
                    rw [if_pos hb, a2, b2]
                  · simp only [Ex.dn]; omega
                  · simp only [Ex.flat, List.length_cons, List.length_append]; omega
                  · rw [hd, a5, b5]
                    simp [Ex.flat]
            · rename_i hc
              cases h
              have hA : A ≠ 0 := fun e => hk (by rw [e]; exact opK_zero _ _)
              have h13 : p.kd = 13 := by
                by_cases e : p.kd = 13
                · exact e
                · exact absurd ⟨hA, e⟩ hc
              obtain ⟨ta, a1, a2, a3, a4, a5⟩ := ih (at_ + 1) A E hr hA
              have hs : sds p.kd = 1 := by unfold sds; rw [if_neg (by omega), if_pos h13]
              refine ⟨.un p ta, ⟨hs, a1⟩, ?_, ?_, ?_, ?_⟩
              · show (if bareP p then opK p.kd ta.kd 0 else 0) = _
                rw [if_pos hb, a2]
              · simp only [Ex.dn]; omega
              · simp only [Ex.flat, List.length_cons]; omega
              · rw [hd, a5]
                simp [Ex.flat]
/-- The document's Check, plainly. -/
theorem rkd_ck {xs : List Pt} (hl : xs.length ≤ 200) : ckK xs = if (rkd xs 32 0).1 = 0 ∨ (rkd xs 32 0).2 ≠ xs.length then 0 else (rkd xs 32 0).1 := by
  cases hr : rkd xs 32 0 with
  | mk k E =>
    dsimp only
    split
    · rename_i h
      cases Classical.em (ckK xs = 0) with
      | inl e => exact e
      | inr e =>
        exfalso
        obtain ⟨t, t1, _, t3, t4, _, t6⟩ := ckK_leaves e
        have hk : t.kd ≠ 0 := by rw [t6]; exact e
        have := rkd_tree t t1 hk 32 t4 [] []
        rw [List.nil_append, List.append_nil, ← t3, List.length_nil, hr] at this
        cases this
        rw [Nat.zero_add] at h
        rcases h with h | h
        · exact hk h
        · exact h rfl
    · rename_i h
      have hk : k ≠ 0 := fun e => h (Or.inl e)
      have hE : E = xs.length := by
        by_cases e : E = xs.length
        · exact e
        · exact absurd (Or.inr e) h
      obtain ⟨t, t1, t2, t3, _, t5⟩ := rkd_some xs 32 0 k E hr hk
      rw [hE, List.drop_length, List.append_nil, List.drop_zero] at t5
      rw [t5, ckK_flat t t1, ← t5, if_neg (by omega), if_neg (by rw [t.dp_dn]; omega), t2]
set_option maxHeartbeats 1000000 in
set_option maxRecDepth 100000 in
theorem rCheck_any (ad : Option Addr) (cap : Nat) (xs : List Pt) (w : World) (hA : PtsAt w ad xs) (hs : ∀ p ∈ xs, p.s.size ≤ 140737488351232 ∧ p.st.size ≤ 9223372036854775807) :
    Calls Tryz.prog 10 #[.slice ad xs.length cap] w fun e w' => e = .returned (.tuple #[.int .i64 (ckK xs), .int .i64 (if ckK xs = 0 then 110 else 0)]) ∧ Below w.heap.size w w' := by
  by_cases hl : xs.length ≤ 200
  · have KD := hide (rKind_any ad cap xs hl hs 32 (by omega) 0 w (Nat.zero_le _) hA)
    have hck := rkd_ck hl
    have hle := rkd_le xs 32 0
    have g : ((200 : Int) < (xs.length : Int)) = False := eq_false (by omega)
    unfold KdT at KD
    obtain ⟨C, hC⟩ : ∃ C, ckK xs = C := ⟨_, rfl⟩
    rw [hC] at hck ⊢
    clear hA hs hC
    generalize rkd xs 32 0 = r at *
    obtain ⟨K, E⟩ := r
    dsimp only at *
    have HCK := hide hck
    clear hck
    by_cases hk : K = 0
    · subst hk
      obtain rfl : C = 0 := (unhide HCK).trans (if_pos (Or.inl rfl))
      clear HCK
      go_enter Tryz.func10, Tryz.ntmps10
      go_wp2_with fail
      refine (unhide KD).mono ?_
      rintro e w1 ⟨D, _, _, rfl, hb⟩
      clear KD
      go_wp2
      exact bodyPost_ret (results_tmp2 rfl _ _ _) rfl ⟨rfl, hb⟩
    · have gk : (K == 0) = false := beq_eq_false_iff_ne.2 hk
      by_cases hE : E = xs.length
      · obtain rfl : C = K := (unhide HCK).trans (if_neg (by rintro (h | h); exact hk h; exact h hE))
        have gE : ((E : Int) == (xs.length : Int)) = true := by rw [hE]; exact beq_self_eq_true _
        rw [if_neg hk]
        clear HCK
        go_enter Tryz.func10, Tryz.ntmps10
        go_wp2_with fail
        refine (unhide KD).mono ?_
        rintro e w1 ⟨D, _, _, rfl, hb⟩
        clear KD
        go_wp2
        exact bodyPost_ret (results_tmp2 rfl _ _ _) rfl ⟨rfl, hb⟩
      · obtain rfl : C = 0 := (unhide HCK).trans (if_pos (Or.inr hE))
        have gE : ((E : Int) == (xs.length : Int)) = false := beq_eq_false_iff_ne.2 (by omega)
        clear HCK
        go_enter Tryz.func10, Tryz.ntmps10
        go_wp2_with fail
        refine (unhide KD).mono ?_
        rintro e w1 ⟨D, _, _, rfl, hb⟩
        clear KD
        go_wp2
        exact bodyPost_ret (results_tmp2 rfl _ _ _) rfl ⟨rfl, hb⟩
  · have hk : ckK xs = 0 := by unfold ckK; rw [if_pos (by omega)]
    rw [hk, if_pos rfl]
    have g : ((200 : Int) < (xs.length : Int)) = True := eq_true (by omega)
    clear hA hs hk
    go_enter Tryz.func10, Tryz.ntmps10
    go_wp2
    exact bodyPost_ret (results_tmp2 rfl _ _ _) rfl ⟨rfl, Below.refl _ _⟩
end Go.Proofs.YthipclehhcfahaaGreatDoor
