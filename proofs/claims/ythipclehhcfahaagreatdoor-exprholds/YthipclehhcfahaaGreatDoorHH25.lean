/-
  Write: an expression's text.
  Write itself.
  Holds: whether a condition holds, as the plain function has it.
  The document's answers: a field's value, an operation's value.
-/
import Derived.Test.YthipclehhcfahaaGreatDoorHH23
import Derived.Test.YthipclehhcfahaaGreatDoorHH18
import Derived.Test.YthipclehhcfahaaGreatDoorHH24
namespace Go.Proofs.YthipclehhcfahaaGreatDoor
open Go.RowKit Go.Shelf

theorem Ex.fine_leaves (t : Ex) (h : t.fine) : ∀ q ∈ t.flat, sds q.kd = 0 → lfK q ≠ 0 := by
  induction t with
  | lf p =>
    intro q hq _
    simp only [Ex.flat, List.mem_singleton] at hq
    subst hq
    exact h
  | un p a ih =>
    intro q hq h0
    simp only [Ex.flat, List.mem_cons] at hq
    rcases hq with rfl | hq
    · rw [h.1] at h0; exact absurd h0 (by decide)
    · exact ih h.2.2 q hq h0
  | bi p a b iha ihb =>
    intro q hq h0
    simp only [Ex.flat, List.mem_cons, List.mem_append] at hq
    rcases hq with rfl | hq | hq
    · have h4 := h.1; have h12 := h.2.1; unfold sds at h0; rw [if_pos ⟨h4, h12⟩] at h0; cases h0
    · exact iha h.2.2.2.1 q hq h0
    · exact ihb h.2.2.2.2 q hq h0
theorem sgO_len (k : Int) : (sgO k).length ≤ 3 := by
  unfold sgO
  repeat' split
  all_goals simp
theorem fldN_len' (f : Int) : (fldN f).length ≤ 4 := by
  have := fldN_len f.toNat
  unfold fldN at *
  rwa [Int.toNat_natCast] at this
theorem lfB_len {p : Pt} (h : lfK p ≠ 0) (hn : p.nk) : (lfB p).length ≤ 290 := by
  unfold lfB
  have hf := fldN_len' p.fl
  have e : ∀ s : ByteArray, s.data.toList.length = s.size := fun s => Array.length_toList
  rcases lfK_cases h with ⟨h1, h2⟩ | ⟨h1, h2⟩ | ⟨h1, h2, _⟩
  · rw [if_pos h1]
    have := Lib.itoa_length_le p.n (by omega) hn
    omega
  · rw [if_neg (by omega), if_pos h1, List.length_cons, List.length_append, e]
    simp
    omega
  · rw [if_neg (by omega), if_neg (by omega)]
    split
    · omega
    · rename_i hne
      rw [List.length_append, List.length_append, e]
      rcases h2 with h2 | h2
      · exact absurd h2 hne
      · simp
        omega
theorem sdB_len (a : List UInt8 × Bool) : (sdB a).length ≤ a.1.length + 4 := by
  unfold sdB
  split
  · simp
  · omega
theorem Ex.wr_len (t : Ex) (hw : t.wf) (hl : ∀ q ∈ t.flat, sds q.kd = 0 → lfK q ≠ 0) (hn : ∀ q ∈ t.flat, q.nk) : (t.val wrv).1.length ≤ 300 * t.flat.length := by
  induction t with
  | lf p =>
    have := lfB_len (hl p (by simp [Ex.flat]) hw) (hn p (by simp [Ex.flat]))
    simp only [Ex.val, wrv, Ex.flat, List.length_singleton]
    omega
  | un p a ih =>
    have h1 := ih hw.2 (fun q hq => hl q (by simp [Ex.flat, hq])) (fun q hq => hn q (by simp [Ex.flat, hq]))
    have h2 := sdB_len (a.val wrv)
    have h3 := sgO_len p.kd
    simp only [Ex.val, wrv, Ex.flat, List.length_cons, List.length_append, List.length_nil]
    omega
  | bi p a b iha ihb =>
    have h1 := iha hw.2.1 (fun q hq => hl q (by simp [Ex.flat, hq])) (fun q hq => hn q (by simp [Ex.flat, hq]))
    have h1' := ihb hw.2.2 (fun q hq => hl q (by simp [Ex.flat, hq])) (fun q hq => hn q (by simp [Ex.flat, hq]))
    have h2 := sdB_len (a.val wrv)
    have h2' := sdB_len (b.val wrv)
    have h3 := sgO_len p.kd
    simp only [Ex.val, wrv, Ex.flat, List.length_cons, List.length_append, List.length_nil]
    omega
set_option maxHeartbeats 2000000 in
set_option maxRecDepth 100000 in
theorem writtenOf_leaf (p : Pt) {O I : Int} {S0 A B : ByteArray} {a b : Bool} {F : Value} (hone : F.oneCell' = true) (w : World) (hT : TbE w) (hk : lfK p ≠ 0) (hn : p.nk) :
    Calls Tryz.prog 29 #[p.v, .agg #[.string S0, .int .i64 0, .int .u64 O, .int .i64 I, F], .agg #[.string A, .bool a, .string B, .bool b]] w fun e w' => e = .returned (.agg #[.string (txt (lfB p)), .bool false]) ∧ Below w.heap.size w w' := by
  have LF := hide (fun W (hW : TbE W) => writtenLeaf_any p W hW hk hn)
  have HT := hide hT
  have sF : ∀ W a m, (store a F m).run Tryz.prog W = stored Tryz.prog W a F m := fun W a m => run_store Tryz.prog W a F m hone
  clear hk hn hT
  unfold Pt.v at *
  generalize txt (lfB p) = L at *
  have HX := hide (wr_box (w := w) (kd := p.kd) (n := p.n) (fl := p.fl) (s := p.s) (st := p.st) (S0 := S0) (N := 0) (O := O) (I := I) (F := F) (A := A) (a := a) (B := B) (b := b))
  have HW := hide (wr_all (w := w) (kd := p.kd) (n := p.n) (fl := p.fl) (s := p.s) (st := p.st) (S0 := S0) (N := 0) (O := O) (I := I) (F := F) (A := A) (a := a) (B := B) (b := b))
  go_enter Tryz.func29, Tryz.ntmps29
  go_wp2_with fail
  refine (unhide LF _ ((((unhide HT).alloc _).alloc _).alloc _ |>.alloc _)).mono ?_
  rintro e w1 ⟨rfl, hb⟩
  have k1 := Kp.ofBelow hb
  have hbx := (unhide HX).kp k1 (by simp)
  have x0 := hbx.cell (i := 0) (v := .string { data := #[] }) rfl
  have x1 := hbx.cell (i := 1) (v := .bool false) rfl
  have xf := hbx.froz
  have HF := hide ((hbx.set 0 (.string L)).set 1 (.bool false))
  have HBL := hide (wr_below (unhide HW) k1 (.string L) (.bool false))
  clear hb k1 hbx LF HT HX HW
  go_wp2
  exact bodyPost_ret (results_cell_row Tryz.results29 _ _ (w.heap.size + 1 + 1 + 1) 70 _ (0, 0) _ rfl (unhide HF) Tryz.underlying70 rfl info_written) rfl ⟨rfl, unhide HBL⟩
theorem writtenOf_each {xs : List Pt} (hlen : xs.length ≤ 200) {w : World} (hT : TbE w) (hl : ∀ q ∈ xs, sds q.kd = 0 → lfK q ≠ 0) (hn : ∀ q ∈ xs, q.nk) (p : Pt) (ts : List Ex) (W : World) (hp : p ∈ xs) (ht : ∀ t ∈ ts, t.wf ∧ ∀ q ∈ t.flat, q ∈ xs) (hz : (ts.flatMap Ex.flat).length + 1 ≤ xs.length) (hs : ts.length = sds p.kd) (hb : Below w.heap.size w W) :
    Calls Tryz.prog 29 #[p.v, .agg (rowC p.kd), .agg (sdCW (ts.map (Ex.val wrv)))] W fun e w' => e = .returned (.agg (wrE (wrv p (ts.map (Ex.val wrv)))).toArray) ∧ Below W.heap.size W w' := by
  have hW := hT.below hb hT.low
  have h2 := sds_le p.kd
  have hone := fnO_one p.kd
  have hsg := sgO_len p.kd
  match ts, hs with
  | [], hs =>
    unfold rowC
    rw [← hs]
    exact writtenOf_leaf p hone W hW (hl p hp hs.symm) (hn p hp)
  | [a], hs =>
    have ha := a.wr_len (ht a (by simp)).1 (fun q hq => hl q ((ht a (by simp)).2 q hq)) (fun q hq => hn q ((ht a (by simp)).2 q hq))
    have hfa : a.flat.length ≤ 200 := by simp at hz; omega
    have h3 := sdB_len (a.val wrv)
    unfold rowC
    rw [← hs]
    exact writtenOf_one (S0 := txt (sgO p.kd)) (B := ⟨#[]⟩) (B' := txt (sdB ([], false))) (X1 := txt (sgO p.kd ++ [32])) (X2 := txt (sgO p.kd ++ ([32] ++ sdB (a.val wrv)))) hone W (fun W => side_any (a.val wrv) W (by omega)) (fun W => side_any ([], false) W (by simp))
      (fun W => str_add (sgO p.kd) [32] (by simp; omega) W)
      (fun W => by have := str_add (sgO p.kd ++ [32]) (sdB (a.val wrv)) (by simp; omega) W; rw [List.append_assoc] at this; exact this)
  | [a, b], hs =>
    have ha := a.wr_len (ht a (by simp)).1 (fun q hq => hl q ((ht a (by simp)).2 q hq)) (fun q hq => hn q ((ht a (by simp)).2 q hq))
    have hb' := b.wr_len (ht b (by simp)).1 (fun q hq => hl q ((ht b (by simp)).2 q hq)) (fun q hq => hn q ((ht b (by simp)).2 q hq))
    have hfa : a.flat.length ≤ 200 := by simp at hz; omega
    have hfb : b.flat.length ≤ 200 := by simp at hz; omega
    have h3 := sdB_len (a.val wrv)
    have h4 := sdB_len (b.val wrv)
    unfold rowC
    rw [← hs]
    exact writtenOf_two (S0 := txt (sgO p.kd)) (X1 := txt (sdB (a.val wrv) ++ [32])) (X2 := txt (sdB (a.val wrv) ++ ([32] ++ sgO p.kd))) (X3 := txt (sdB (a.val wrv) ++ ([32] ++ (sgO p.kd ++ [32])))) (X4 := txt (sdB (a.val wrv) ++ ([32] ++ (sgO p.kd ++ ([32] ++ sdB (b.val wrv)))))) hone W (fun W => side_any (a.val wrv) W (by omega)) (fun W => side_any (b.val wrv) W (by omega))
      (fun W => str_add (sdB (a.val wrv)) [32] (by simp; omega) W)
      (fun W => by have := str_add (sdB (a.val wrv) ++ [32]) (sgO p.kd) (by simp; omega) W; rw [List.append_assoc] at this; exact this)
      (fun W => by have := str_add (sdB (a.val wrv) ++ ([32] ++ sgO p.kd)) [32] (by simp; omega) W; rw [List.append_assoc, List.append_assoc] at this; exact this)
      (fun W => by have := str_add (sdB (a.val wrv) ++ ([32] ++ (sgO p.kd ++ [32]))) (sdB (b.val wrv)) (by simp; omega) W; rw [List.append_assoc, List.append_assoc, List.append_assoc] at this; exact this)
  | a :: b :: c :: r, hs => simp at hs; omega
theorem fold_texts (ad : Option Addr) (cap : Nat) (xs : List Pt) (hsz : xs.length ≤ 200) (w : World) (hc : PtsAt w ad xs) (hT : TbE w) (hl : ∀ q ∈ xs, sds q.kd = 0 → lfK q ≠ 0) (hn : ∀ q ∈ xs, q.nk) :
    Calls Tryz.prog 28 #[.slice ad xs.length cap, .func (.func 29) #[] #[]] w fun e w' => e = .returned (foRW (fdX wrv xs)) ∧ Below w.heap.size w w' :=
  callsIn_wide.1 (foldW_in 29 ad cap xs hsz w (PtsLow.of hc) (enters_of Tryz.func29 (by kernel_rfl) rfl) (writtenOf_each hsz hT hl hn))
end Go.Proofs.YthipclehhcfahaaGreatDoor
namespace Go.Proofs.YthipclehhcfahaaGreatDoor
open Go.RowKit Go.Shelf

/-- What Write tells. -/
def wrS (x : List Pt) : ByteArray := if ckK x = 0 then ⟨#[]⟩ else match fdX wrv x with
  | some a => txt a.1
  | none => ⟨#[]⟩
theorem ckK_leaves {x : List Pt} (h : ckK x ≠ 0) : ∃ t : Ex, t.wf ∧ t.fine ∧ x = t.flat ∧ t.dn ≤ 32 ∧ x.length ≤ 200 ∧ t.kd = ckK x := by
  obtain ⟨t, h1, h2, h3, h4, h5⟩ := ckK_some h
  refine ⟨t, h1, t.fine_of h1 (by rw [h3]; exact h), h2, ?_, h5, h3⟩
  have := t.dp_dn
  omega
set_option maxRecDepth 100000 in
set_option maxHeartbeats 1000000 in
theorem write_any (ad : Option Addr) (cap : Nat) (xs : List Pt) (w : World) (hc : PtsAt w ad xs) (hT : TbE w) (hok : ∀ p ∈ xs, p.ok) :
    Calls Tryz.prog 11 #[.slice ad xs.length cap] w fun e w' => e = .returned (.tuple #[.string (wrS xs), .int .i64 (if ckK xs = 0 then 110 else 0)]) ∧ Below w.heap.size w w' := by
  have CK := hide (check_any ad cap xs w hc hT (fun p hp => (hok p hp).2.2.2.1))
  by_cases h0 : ckK xs = 0
  · have hw : wrS xs = ⟨#[]⟩ := by unfold wrS; rw [if_pos h0]
    rw [h0, if_pos rfl] at CK
    rw [hw, if_pos h0]
    clear hc hT hok h0 hw
    go_enter Tryz.func11, Tryz.ntmps11
    go_wp2_with fail
    refine (unhide CK).mono ?_
    rintro e w1 ⟨rfl, hb⟩
    clear CK
    go_wp2
    exact bodyPost_ret (results_tmp2 rfl _ _ _) rfl ⟨rfl, hb⟩
  · obtain ⟨t, h1, h2, h3, h4, h5, h6⟩ := ckK_leaves h0
    have hfd : fdX wrv xs = some (t.val wrv) := by rw [h3]; exact fdX_flat wrv t h1
    have hlv := t.fine_leaves h2
    rw [← h3] at hlv
    have hnk : ∀ q ∈ xs, q.nk := fun q hq => (hok q hq).2.1.2
    have hlen := t.wr_len h1 (by rw [← h3]; exact hlv) (by rw [← h3]; exact hnk)
    rw [← h3] at hlen
    have FT := hide (fun W (hb : Below w.heap.size w W) => fold_texts ad cap xs h5 W (hc.kp (Kp.ofBelow hb)) (hT.below hb hT.low) hlv hnk)
    have hw : wrS xs = txt (t.val wrv).1 := by unfold wrS; rw [if_neg h0, hfd]
    rw [hw, if_neg h0]
    have CL := hide (fun W => clone_any (txt (t.val wrv).1) W (by rw [txt_size]; omega))
    rw [if_neg h0] at CK
    rw [hfd] at FT
    unfold foRW wrE at FT
    dsimp only at FT
    generalize ckK xs = ck at *
    generalize txt (t.val wrv).1 = L at *
    generalize (t.val wrv).2 = B at *
    clear hc hT hok hw hlv hnk h1 h2 h3 h4 h6 hlen hfd
    go_enter Tryz.func11, Tryz.ntmps11
    go_wp2_with fail
    refine (unhide CK).mono ?_
    rintro e w1 ⟨rfl, hb⟩
    have FT2 := hide (unhide FT w1 hb)
    have HB := hide hb
    clear CK FT hb
    go_wp2_with fail
    refine (unhide FT2).mono ?_
    rintro e w2 ⟨rfl, hb2⟩
    have HB2 := hide ((unhide HB).trans (hb2.mono (unhide HB).size))
    clear FT2 hb2 HB
    go_wp2_with fail
    refine (unhide CL _).mono ?_
    rintro e w3 ⟨rfl, hb3⟩
    have HB3 := hide (((unhide HB2).alloc (unhide HB2).size _).trans (hb3.mono (by have := (unhide HB2).size; simp; omega)))
    clear HB2 hb3 CL
    go_wp2
    exact bodyPost_ret (results_tmp2 rfl _ _ _) rfl ⟨rfl, unhide HB3⟩
end Go.Proofs.YthipclehhcfahaaGreatDoor
namespace Go.Proofs.YthipclehhcfahaaGreatDoor
open Go.RowKit Go.Shelf

theorem hold_kind {x : List Pt} {M : Mo} (h : ckK x ≠ 3) : hdE x M = 110 ∧ hdB x M = false := by
  have e : hdE x M = 110 := by unfold hdE; rw [if_pos h]
  exact ⟨e, by unfold hdB; rw [if_pos (by rw [e]; decide)]⟩
theorem hold_none {x : List Pt} {M : Mo} (h : ckK x = 3) (h2 : M.ns.length ≠ M.la.length ∨ hasS M.ns x = false) : hdE x M = 5 ∧ hdB x M = false := by
  have e : hdE x M = 5 := by unfold hdE; rw [if_neg (by rw [h]; decide), if_pos h2]
  exact ⟨e, by unfold hdB; rw [if_pos (by rw [e]; decide)]⟩
theorem hold_ok {x : List Pt} {M : Mo} (h : ckK x = 3) (h1 : M.ns.length = M.la.length) (h2 : hasS M.ns x = true) : hdE x M = 0 ∧ ∃ v, fdX (vlv M) x = some v ∧ hdB x M = v.t := by
  have e : hdE x M = 0 := by unfold hdE; rw [if_neg (by rw [h]; decide), if_neg (by rw [h1, h2]; simp)]
  obtain ⟨t, t1, _, t3, _⟩ := ckK_leaves (x := x) (by rw [h]; decide)
  refine ⟨e, t.val (vlv M), by rw [t3]; exact fdX_flat _ t t1, ?_⟩
  unfold hdB
  rw [if_neg (by rw [e]; decide), t3, fdX_flat _ t t1]
set_option maxHeartbeats 2000000 in
set_option maxRecDepth 100000 in
theorem holds_any (ad an al : Option Addr) (cap cn cl : Nat) (xs : List Pt) (ev : Ev) (ns : List ByteArray) (la : List Ev) (w : World) (hc : PtsAt w ad xs) (hn : NmsAt w an ns) (hln : ns.length ≤ 9223372036854775807) (he : EvsAt w al la) (hT : TbE w) (hfit : ∀ p ∈ xs, p.fit) :
    Calls Tryz.prog 19 #[.slice ad xs.length cap, .agg ev.c, .slice an ns.length cn, .slice al la.length cl] w fun e w' => e = .returned (.tuple #[.bool (hdB xs ⟨ev, ns, la⟩), .int .i64 (hdE xs ⟨ev, ns, la⟩)]) ∧ Below w.heap.size w w' := by
  have hev : ev.c = #[.string ev.k, .string ev.t, .int .i64 ev.n0, .int .i64 ev.n1, .int .i64 ev.n2, .int .i64 ev.n3, .string ev.x] := rfl
  have b1 : Below w.heap.size w (w.alloc (.cells ev.c 37)) := (Below.refl _ _).alloc (Nat.le_refl _) _
  have e1 : EBox w.heap.size ev (w.alloc (.cells ev.c 37)) := CBox.new w _ _
  have CK := check_any ad cap xs _ (hc.kp (Kp.alloc w (.cells ev.c 37))) (hT.alloc (.cells ev.c 37)) hfit
  have HL : Hid (∀ w2, Below (w.alloc (.cells ev.c 37)).heap.size (w.alloc (.cells ev.c 37)) w2 → EBox w.heap.size ev w2 ∧ Hid (Below w.heap.size w w2) ∧ Hid (PtsAt w2 ad xs ∧ NmsAt w2 an ns ∧ EvsAt w2 al la)) := hide (fun w2 hb => ⟨e1.below hb e1.lt, hide (b1.trans (hb.mono (by simp))), hide ⟨(hc.kp (Kp.alloc w (.cells ev.c 37))).kp (Kp.ofBelow hb), (hn.kp (Kp.alloc w (.cells ev.c 37)) (by simp)).kp (Kp.ofBelow hb) (by simp), (he.kp (Kp.alloc w (.cells ev.c 37)) (by simp)).kp (Kp.ofBelow hb) (by simp)⟩⟩)
  rw [hev] at CK HL
  have HCK := hide CK
  clear CK b1 e1 hc hn he hT
  rw [hev]
  clear hev
  by_cases h3 : ckK xs = 3
  · have hcode : (if ckK xs = 0 then (110 : Int) else 0) = 0 := if_neg (by rw [h3]; decide)
    rw [hcode, h3] at HCK
    clear hcode
    obtain ⟨t, t1, t2, t3, _, t5, _⟩ := ckK_leaves (x := xs) (by rw [h3]; decide)
    have HLV : Hid (∀ q ∈ xs, sds q.kd = 0 → lfK q ≠ 0) := hide (by rw [t3]; exact t.fine_leaves t2)
    clear t1 t2 t3
    have HN0 : Hid (ns.length ≠ la.length ∨ hasS ns xs = false → hdE xs ⟨ev, ns, la⟩ = 5 ∧ hdB xs ⟨ev, ns, la⟩ = false) := hide (fun h => hold_none h3 h)
    have HOKK : Hid (ns.length = la.length → hasS ns xs = true → hdE xs ⟨ev, ns, la⟩ = 0 ∧ ∃ v, fdX (vlv ⟨ev, ns, la⟩) xs = some v ∧ hdB xs ⟨ev, ns, la⟩ = v.t) := hide (fun h1 h2 => hold_ok h3 h1 h2)
    obtain ⟨D, hD⟩ : ∃ D, hdE xs ⟨ev, ns, la⟩ = D := ⟨_, rfl⟩
    obtain ⟨B, hB⟩ : ∃ B, hdB xs ⟨ev, ns, la⟩ = B := ⟨_, rfl⟩
    rw [hD, hB] at HN0 HOKK ⊢
    clear hD hB h3
    go_enter Tryz.func19, Tryz.ntmps19
    go_wp2_with fail
    refine (unhide HCK).mono ?_
    rintro e w2 ⟨rfl, hb2⟩
    obtain ⟨eb, HB, HAT⟩ := unhide HL w2 hb2
    obtain ⟨v0, v1, v2, v3, v4, v5, v6⟩ := eb.cells
    have hlt := eb.lt
    clear HCK HL hb2 eb hfit
    by_cases hll : ns.length = la.length
    · have gl : ((ns.length : Int) == (la.length : Int)) = true := by rw [hll]; exact beq_self_eq_true _
      obtain ⟨hA, hN, hE⟩ := unhide HAT
      have k2 : Kp [] w2 (w2.alloc (.cells (moC ⟨ev, ns, la⟩ (.slice an ns.length cn) (.slice al la.length cl)) 79)) := Kp.alloc _ _
      have bx : CBox w2.heap.size (moC ⟨ev, ns, la⟩ (.slice an ns.length cn) (.slice al la.length cl)) 79 (w2.alloc (.cells (moC ⟨ev, ns, la⟩ (.slice an ns.length cn) (.slice al la.length cl)) 79)) := CBox.new w2 _ _
      have hM : MoAt w2.heap.size ⟨ev, ns, la⟩ an al cn cl (w2.alloc (.cells (moC ⟨ev, ns, la⟩ (.slice an ns.length cn) (.slice al la.length cl)) 79)) := ⟨bx, hN.kp k2 (by simp), hE.kp k2 (by simp), hln, hll⟩
      have HS := hasStages_any (M := ⟨ev, ns, la⟩) ad cap xs t5 _ (hA.kp k2) bx rfl hln (hN.kp k2 (by simp))
      have HB3 := hide ((unhide HB).alloc (unhide HB).size (.cells (moC ⟨ev, ns, la⟩ (.slice an ns.length cn) (.slice al la.length cl)) 79))
      have HFV : Hid (hasS ns xs = true → ∀ w3, Below (w2.alloc (.cells (moC ⟨ev, ns, la⟩ (.slice an ns.length cn) (.slice al la.length cl)) 79)).heap.size (w2.alloc (.cells (moC ⟨ev, ns, la⟩ (.slice an ns.length cn) (.slice al la.length cl)) 79)) w3 → Calls Tryz.prog 34 #[.slice ad xs.length cap, .func (.func 35) #[.pointer (some ⟨w2.heap.size, 0, none⟩)] #[]] w3 fun e w' => e = .returned (foRV (fdX (vlv ⟨ev, ns, la⟩) xs)) ∧ Below w3.heap.size w3 w') := hide (fun hs w3 hb3 => fold_values (M := ⟨ev, ns, la⟩) ad cap xs t5 w3 ((hA.kp k2).kp (Kp.ofBelow hb3)) (hM.below hb3) (unhide HLV) hs)
      have HHS : Hid (Calls Tryz.prog 33 #[.pointer (some ⟨w2.heap.size, 0, none⟩), .slice ad xs.length cap] (w2.alloc (.cells (moC ⟨ev, ns, la⟩ (.slice an ns.length cn) (.slice al la.length cl)) 79)) fun e w' => e = .returned (.bool (hasS ns xs)) ∧ Below (w2.alloc (.cells (moC ⟨ev, ns, la⟩ (.slice an ns.length cn) (.slice al la.length cl)) 79)).heap.size (w2.alloc (.cells (moC ⟨ev, ns, la⟩ (.slice an ns.length cn) (.slice al la.length cl)) 79)) w') := hide HS
      have HOK2 := hide (unhide HOKK hll)
      have HNO2 : Hid (hasS ns xs = false → D = 5 ∧ B = false) := hide (fun h => unhide HN0 (Or.inr h))
      clear HAT hA hN hE k2 bx hM HS HN0 HOKK HLV HB
      unfold moC at HHS HFV HB3
      dsimp only at HHS HFV HB3
      rw [hll] at HHS HFV HB3 ⊢
      clear gl
      generalize fdX (vlv ⟨ev, ns, la⟩) xs = FX at *
      generalize hasS ns xs = SB at *
      go_wp2_with fail
      refine (unhide HHS).mono ?_
      rintro e w3 ⟨rfl, hb3⟩
      have HB4 := hide ((unhide HB3).trans (hb3.mono (unhide HB3).size))
      cases SB with
      | false =>
        obtain ⟨rfl, rfl⟩ := unhide HNO2 rfl
        clear HOK2 HNO2 HFV HHS HB3 hb3
        go_wp2
        exact bodyPost_ret (results_tmp2 rfl _ _ _) rfl ⟨rfl, unhide HB4⟩
      | true =>
        have FV := hide (unhide HFV rfl w3 hb3)
        obtain ⟨rfl, v, hv, rfl⟩ := unhide HOK2 rfl
        rw [hv] at FV
        unfold foRV vlE at FV
        dsimp only at FV
        clear HOK2 HNO2 HFV HHS HB3 hb3 hv
        obtain ⟨vn, vs, vt⟩ := v
        dsimp only at FV ⊢
        go_wp2_with fail
        refine (unhide FV).mono ?_
        rintro e w4 ⟨rfl, hb4⟩
        have HB5 := hide (((unhide HB4).trans (hb4.mono (unhide HB4).size)).alloc (by have := (unhide HB4).size; have := hb4.size; omega) (.cells #[.int .i64 vn, .string vs, .bool vt] 81))
        clear hb4 HB4 FV
        go_wp2
        exact bodyPost_ret (results_tmp2 rfl _ _ _) rfl ⟨rfl, unhide HB5⟩
    · have gl : ((ns.length : Int) == (la.length : Int)) = false := beq_eq_false_iff_ne.2 (by omega)
      obtain ⟨rfl, rfl⟩ := unhide HN0 (Or.inl hll)
      have HB3 := hide ((unhide HB).alloc (unhide HB).size (.cells (moC ⟨ev, ns, la⟩ (.slice an ns.length cn) (.slice al la.length cl)) 79))
      clear HN0 HOKK HAT HLV HB
      go_wp2
      exact bodyPost_ret (results_tmp2 rfl _ _ _) rfl ⟨rfl, unhide HB3⟩
  · obtain ⟨q1, q2⟩ := hold_kind (M := ⟨ev, ns, la⟩) h3
    rw [q1, q2]
    clear q1 q2
    have g3 : (ckK xs == 3) = false := beq_eq_false_iff_ne.2 h3
    generalize (if ckK xs = 0 then (110 : Int) else 0) = EC at *
    generalize ckK xs = ck at *
    go_enter Tryz.func19, Tryz.ntmps19
    go_wp2_with fail
    refine (unhide HCK).mono ?_
    rintro e w2 ⟨rfl, hb2⟩
    obtain ⟨eb, HB, HAT⟩ := unhide HL w2 hb2
    clear HCK HL hb2 eb hfit
    go_wp2
    exact bodyPost_ret (results_tmp2 rfl _ _ _) rfl ⟨rfl, unhide HB⟩
end Go.Proofs.YthipclehhcfahaaGreatDoor
namespace Go.Proofs.YthipclehhcfahaaGreatDoor
open Go.RowKit Go.Shelf

theorem info_rvl : (Tryz.prog.info? 124).map (·.size) = some 3 := by kernel_rfl
theorem two_at (w : World) (A X : Obj) : ((w.alloc A).alloc X).heap[w.heap.size + 1]? = some X := by
  have := heap_alloc_new (w.alloc A) X
  rwa [show (w.alloc A).heap.size = w.heap.size + 1 by simp] at this
set_option maxHeartbeats 1000000 in
set_option maxRecDepth 100000 in
theorem rGet_any (ev : Ev) (f : Int) (hf : 0 ≤ f ∧ f ≤ 5) (w : World) : Calls Tryz.prog 79 #[.agg ev.c, .int .i64 f] w fun e w' => e = .returned (fdV ev f).v ∧ Below w.heap.size w w' := by
  have hev : ev.c = #[.string ev.k, .string ev.t, .int .i64 ev.n0, .int .i64 ev.n1, .int .i64 ev.n2, .int .i64 ev.n3, .string ev.x] := rfl
  rw [hev]
  clear hev
  rcases (show f = 0 ∨ f = 1 ∨ f = 2 ∨ f = 3 ∨ f = 4 ∨ f = 5 by omega) with rfl | rfl | rfl | rfl | rfl | rfl
  all_goals
    go_enter Tryz.func79, Tryz.ntmps79
    go_wp2
    exact bodyPost_ret (results_cell_row Tryz.results79 _ _ (w.heap.size + 1) 124 _ (0, 0) _ rfl (two_at w _ _) Tryz.underlying124 rfl info_rvl) rfl ⟨rfl, ((Below.refl _ _).alloc (Nat.le_refl _) _).alloc (by simp) _⟩
set_option maxHeartbeats 2000000 in
set_option maxRecDepth 100000 in
theorem rTwo_any (k : Int) (h4 : 4 ≤ k) (h12 : k ≤ 12) (a b : Vl) (ht : k = 9 ∨ k = 10 → a.t = b.t) (w : World) : Calls Tryz.prog 80 #[.int .i64 k, a.v, b.v] w fun e w' => e = .returned (opV k a b).v ∧ Below w.heap.size w w' := by
  obtain ⟨n, s, t⟩ := a
  obtain ⟨n', s', t'⟩ := b
  dsimp only at ht
  unfold Vl.v
  rcases (show k = 4 ∨ k = 5 ∨ k = 6 ∨ k = 7 ∨ k = 8 ∨ k = 9 ∨ k = 10 ∨ k = 11 ∨ k = 12 by omega) with rfl | rfl | rfl | rfl | rfl | rfl | rfl | rfl | rfl
  · go_enter Tryz.func80, Tryz.ntmps80
    go_wp2
    exact bodyPost_ret (results_cell_row Tryz.results80 _ _ (w.heap.size + 1 + 1) 124 _ (0, 0) _ rfl (vl_at w _ _ _) Tryz.underlying124 rfl info_rvl) rfl ⟨by first | rfl | (rw [← IntWalk.i64_left]; rfl), vl_all w _ _ _⟩
  · go_enter Tryz.func80, Tryz.ntmps80
    go_wp2
    exact bodyPost_ret (results_cell_row Tryz.results80 _ _ (w.heap.size + 1 + 1) 124 _ (0, 0) _ rfl (vl_at w _ _ _) Tryz.underlying124 rfl info_rvl) rfl ⟨by first | rfl | (rw [← IntWalk.i64_left]; rfl), vl_all w _ _ _⟩
  · go_enter Tryz.func80, Tryz.ntmps80
    go_wp2
    exact bodyPost_ret (results_cell_row Tryz.results80 _ _ (w.heap.size + 1 + 1) 124 _ (0, 0) _ rfl (vl_at w _ _ _) Tryz.underlying124 rfl info_rvl) rfl ⟨by first | rfl | (rw [← IntWalk.i64_left]; rfl), vl_all w _ _ _⟩
  · go_enter Tryz.func80, Tryz.ntmps80
    go_wp2
    exact bodyPost_ret (results_cell_row Tryz.results80 _ _ (w.heap.size + 1 + 1) 124 _ (0, 0) _ rfl (vl_at w _ _ _) Tryz.underlying124 rfl info_rvl) rfl ⟨rfl, vl_all w _ _ _⟩
  · go_enter Tryz.func80, Tryz.ntmps80
    go_wp2
    exact bodyPost_ret (results_cell_row Tryz.results80 _ _ (w.heap.size + 1 + 1) 124 _ (0, 0) _ rfl (vl_at w _ _ _) Tryz.underlying124 rfl info_rvl) rfl ⟨rfl, vl_all w _ _ _⟩
  · obtain rfl := ht (Or.inl rfl)
    have e : opV 9 ⟨n, s, t⟩ ⟨n', s', t⟩ = ⟨0, noB, (n == n') && (s.toList == s'.toList)⟩ := by
      show (⟨0, noB, eqV ⟨n, s, t⟩ ⟨n', s', t⟩⟩ : Vl) = _
      unfold eqV
      dsimp only
      rw [decide_eq_true (show t = t from rfl), Bool.and_true, toList_data, toList_data]
      congr 1
      rw [Bool.eq_iff_iff]
      simp
    rw [e]
    clear e ht
    dsimp only
    by_cases hn : n = n'
    · have g : (n == n') = true := by rw [hn]; exact beq_self_eq_true _
      rw [g, Bool.true_and]
      go_enter Tryz.func80, Tryz.ntmps80
      go_wp2
      all_goals exact bodyPost_ret (results_cell_row Tryz.results80 _ _ (w.heap.size + 1 + 1) 124 _ (0, 0) _ rfl (vl_at w _ _ _) Tryz.underlying124 rfl info_rvl) rfl ⟨rfl, vl_all w _ _ _⟩
    · have g : (n == n') = false := beq_eq_false_iff_ne.2 hn
      rw [g, Bool.false_and]
      go_enter Tryz.func80, Tryz.ntmps80
      go_wp2
      exact bodyPost_ret (results_cell_row Tryz.results80 _ _ (w.heap.size + 1 + 1) 124 _ (0, 0) _ rfl (vl_at w _ _ _) Tryz.underlying124 rfl info_rvl) rfl ⟨rfl, vl_all w _ _ _⟩
  · obtain rfl := ht (Or.inr rfl)
    have e : opV 10 ⟨n, s, t⟩ ⟨n', s', t⟩ = ⟨0, noB, !((n == n') && (s.toList == s'.toList))⟩ := by
      show (⟨0, noB, !eqV ⟨n, s, t⟩ ⟨n', s', t⟩⟩ : Vl) = _
      unfold eqV
      dsimp only
      rw [decide_eq_true (show t = t from rfl), Bool.and_true, toList_data, toList_data]
      congr 2
      rw [Bool.eq_iff_iff]
      simp
    rw [e]
    clear e ht
    dsimp only
    by_cases hn : n = n'
    · have g : (n == n') = true := by rw [hn]; exact beq_self_eq_true _
      rw [g, Bool.true_and]
      go_enter Tryz.func80, Tryz.ntmps80
      go_wp2
      all_goals exact bodyPost_ret (results_cell_row Tryz.results80 _ _ (w.heap.size + 1 + 1) 124 _ (0, 0) _ rfl (vl_at w _ _ _) Tryz.underlying124 rfl info_rvl) rfl ⟨rfl, vl_all w _ _ _⟩
    · have g : (n == n') = false := beq_eq_false_iff_ne.2 hn
      rw [g, Bool.false_and]
      go_enter Tryz.func80, Tryz.ntmps80
      go_wp2
      exact bodyPost_ret (results_cell_row Tryz.results80 _ _ (w.heap.size + 1 + 1) 124 _ (0, 0) _ rfl (vl_at w _ _ _) Tryz.underlying124 rfl info_rvl) rfl ⟨rfl, vl_all w _ _ _⟩
  · cases t
    all_goals
      go_enter Tryz.func80, Tryz.ntmps80
      go_wp2
      exact bodyPost_ret (results_cell_row Tryz.results80 _ _ (w.heap.size + 1 + 1) 124 _ (0, 0) _ rfl (vl_at w _ _ _) Tryz.underlying124 rfl info_rvl) rfl ⟨rfl, vl_all w _ _ _⟩
  · cases t
    all_goals
      go_enter Tryz.func80, Tryz.ntmps80
      go_wp2
      exact bodyPost_ret (results_cell_row Tryz.results80 _ _ (w.heap.size + 1 + 1) 124 _ (0, 0) _ rfl (vl_at w _ _ _) Tryz.underlying124 rfl info_rvl) rfl ⟨rfl, vl_all w _ _ _⟩
end Go.Proofs.YthipclehhcfahaaGreatDoor
