/-
  Write: an expression's text.
  Write itself.
  append to a row of the call's own, of cells that lie anywhere: what it gives, and where the new row lies. Of no program.
  Which stages an expression asks for, plainly; names in rows of the call's own.
-/
import Derived.Test.YtogklmljllocbabGreatDoorF17
import Derived.Test.YtogklmljllocbabGreatDoorF20
import Derived.Test.YtogklmljllocbabGreatDoorF21
import Derived.Test.YtogklmljllocbabGreatDoorF07
import Derived.Laws.AppendOwnNone
import Derived.Test.YtogklmljllocbabGreatDoorF08
namespace Go.Proofs.YtogklmljllocbabGreatDoor
open Go.RowKit Go.Shelf

theorem Ex.fine_leaves (t : Ex) (h : t.fine) : ∀ q ∈ t.flat, sds q.kd = 0 → lfK q ≠ 0 := by
  induction t with
  | lf p =>
    intro q hq _
    simp only [Ex.flat, List.mem_singleton] at hq
    subst hq
    exact h
  | un p a ih =>
    intro q hq h0
    simp only [Ex.flat, List.mem_cons] at hq
    rcases hq with rfl | hq
    · rw [h.1] at h0; exact absurd h0 (by decide)
    · exact ih h.2.2 q hq h0
  | bi p a b iha ihb =>
    intro q hq h0
    simp only [Ex.flat, List.mem_cons, List.mem_append] at hq
    rcases hq with rfl | hq | hq
    · have h4 := h.1; have h12 := h.2.1; unfold sds at h0; rw [if_pos ⟨h4, h12⟩] at h0; cases h0
    · exact iha h.2.2.2.1 q hq h0
    · exact ihb h.2.2.2.2 q hq h0
theorem sgO_len (k : Int) : (sgO k).length ≤ 3 := by
  unfold sgO
  repeat' split
  all_goals simp
theorem fldN_len' (f : Int) : (fldN f).length ≤ 4 := by
  have := fldN_len f.toNat
  unfold fldN at *
  rwa [Int.toNat_natCast] at this
theorem lfB_len {p : Pt} (h : lfK p ≠ 0) (hn : p.nk) : (lfB p).length ≤ 290 := by
  unfold lfB
  have hf := fldN_len' p.fl
  have e : ∀ s : ByteArray, s.data.toList.length = s.size := fun s => Array.length_toList
  rcases lfK_cases h with ⟨h1, h2⟩ | ⟨h1, h2⟩ | ⟨h1, h2, _⟩
  · rw [if_pos h1]
    have := Lib.itoa_length_le p.n (by omega) hn
    omega
  · rw [if_neg (by omega), if_pos h1, List.length_cons, List.length_append, e]
    simp
    omega
  · rw [if_neg (by omega), if_neg (by omega)]
    split
    · omega
    · rename_i hne
      rw [List.length_append, List.length_append, e]
      rcases h2 with h2 | h2
      · exact absurd h2 hne
      · simp
        omega
theorem sdB_len (a : List UInt8 × Bool) : (sdB a).length ≤ a.1.length + 4 := by
  unfold sdB
  split
  · simp
  · omega
theorem Ex.wr_len (t : Ex) (hw : t.wf) (hl : ∀ q ∈ t.flat, sds q.kd = 0 → lfK q ≠ 0) (hn : ∀ q ∈ t.flat, q.nk) : (t.val wrv).1.length ≤ 300 * t.flat.length := by
  induction t with
  | lf p =>
    have := lfB_len (hl p (by simp [Ex.flat]) hw) (hn p (by simp [Ex.flat]))
    simp only [Ex.val, wrv, Ex.flat, List.length_singleton]
    omega
  | un p a ih =>
    have h1 := ih hw.2 (fun q hq => hl q (by simp [Ex.flat, hq])) (fun q hq => hn q (by simp [Ex.flat, hq]))
    have h2 := sdB_len (a.val wrv)
    have h3 := sgO_len p.kd
    simp only [Ex.val, wrv, Ex.flat, List.length_cons, List.length_append, List.length_nil]
    omega
  | bi p a b iha ihb =>
    have h1 := iha hw.2.1 (fun q hq => hl q (by simp [Ex.flat, hq])) (fun q hq => hn q (by simp [Ex.flat, hq]))
    have h1' := ihb hw.2.2 (fun q hq => hl q (by simp [Ex.flat, hq])) (fun q hq => hn q (by simp [Ex.flat, hq]))
    have h2 := sdB_len (a.val wrv)
    have h2' := sdB_len (b.val wrv)
    have h3 := sgO_len p.kd
    simp only [Ex.val, wrv, Ex.flat, List.length_cons, List.length_append, List.length_nil]
    omega
set_option maxHeartbeats 2000000 in
set_option maxRecDepth 100000 in
theorem writtenOf_leaf (p : Pt) {O I : Int} {S0 A B : ByteArray} {a b : Bool} {F : Value} (hone : F.oneCell' = true) (w : World) (hT : TbE w) (hk : lfK p ≠ 0) (hn : p.nk) :
    Calls Tryz.prog 83 #[p.v, .agg #[.string S0, .int .i64 0, .int .u64 O, .int .i64 I, F], .agg #[.string A, .bool a, .string B, .bool b]] w fun e w' => e = .returned (.agg #[.string (txt (lfB p)), .bool false]) ∧ Below w.heap.size w w' := by
  have LF := hide (fun W (hW : TbE W) => writtenLeaf_any p W hW hk hn)
  have HT := hide hT
  have sF : ∀ W a m, (store a F m).run Tryz.prog W = stored Tryz.prog W a F m := fun W a m => run_store Tryz.prog W a F m hone
  clear hk hn hT
  unfold Pt.v at *
  generalize txt (lfB p) = L at *
  have HX := hide (wr_box (w := w) (kd := p.kd) (n := p.n) (fl := p.fl) (s := p.s) (st := p.st) (S0 := S0) (N := 0) (O := O) (I := I) (F := F) (A := A) (a := a) (B := B) (b := b))
  have HW := hide (wr_all (w := w) (kd := p.kd) (n := p.n) (fl := p.fl) (s := p.s) (st := p.st) (S0 := S0) (N := 0) (O := O) (I := I) (F := F) (A := A) (a := a) (B := B) (b := b))
  go_enter Tryz.func83, Tryz.ntmps83
  go_wp2_with fail
  refine (unhide LF _ ((((unhide HT).alloc _).alloc _).alloc _ |>.alloc _)).mono ?_
  rintro e w1 ⟨rfl, hb⟩
  have k1 := Kp.ofBelow hb
  have hbx := (unhide HX).kp k1 (by simp)
  have x0 := hbx.cell (i := 0) (v := .string { data := #[] }) rfl
  have x1 := hbx.cell (i := 1) (v := .bool false) rfl
  have xf := hbx.froz
  have HF := hide ((hbx.set 0 (.string L)).set 1 (.bool false))
  have HBL := hide (wr_below (unhide HW) k1 (.string L) (.bool false))
  clear hb k1 hbx LF HT HX HW
  go_wp2
  exact bodyPost_ret (results_cell_row Tryz.results83 _ _ (w.heap.size + 1 + 1 + 1) 137 _ (0, 0) _ rfl (unhide HF) Tryz.underlying137 rfl info_written) rfl ⟨rfl, unhide HBL⟩
theorem writtenOf_each {xs : List Pt} (hlen : xs.length ≤ 200) {w : World} (hT : TbE w) (hl : ∀ q ∈ xs, sds q.kd = 0 → lfK q ≠ 0) (hn : ∀ q ∈ xs, q.nk) (p : Pt) (ts : List Ex) (W : World) (hp : p ∈ xs) (ht : ∀ t ∈ ts, t.wf ∧ ∀ q ∈ t.flat, q ∈ xs) (hz : (ts.flatMap Ex.flat).length + 1 ≤ xs.length) (hs : ts.length = sds p.kd) (hb : Below w.heap.size w W) :
    Calls Tryz.prog 83 #[p.v, .agg (rowC p.kd), .agg (sdCW (ts.map (Ex.val wrv)))] W fun e w' => e = .returned (.agg (wrE (wrv p (ts.map (Ex.val wrv)))).toArray) ∧ Below W.heap.size W w' := by
  have hW := hT.below hb hT.low
  have h2 := sds_le p.kd
  have hone := fnO_one p.kd
  have hsg := sgO_len p.kd
  match ts, hs with
  | [], hs =>
    unfold rowC
    rw [← hs]
    exact writtenOf_leaf p hone W hW (hl p hp hs.symm) (hn p hp)
  | [a], hs =>
    have ha := a.wr_len (ht a (by simp)).1 (fun q hq => hl q ((ht a (by simp)).2 q hq)) (fun q hq => hn q ((ht a (by simp)).2 q hq))
    have hfa : a.flat.length ≤ 200 := by simp at hz; omega
    have h3 := sdB_len (a.val wrv)
    unfold rowC
    rw [← hs]
    exact writtenOf_one (S0 := txt (sgO p.kd)) (B := ⟨#[]⟩) (B' := txt (sdB ([], false))) (X1 := txt (sgO p.kd ++ [32])) (X2 := txt (sgO p.kd ++ ([32] ++ sdB (a.val wrv)))) hone W (fun W => side_any (a.val wrv) W (by omega)) (fun W => side_any ([], false) W (by simp))
      (fun W => str_add (sgO p.kd) [32] (by simp; omega) W)
      (fun W => by have := str_add (sgO p.kd ++ [32]) (sdB (a.val wrv)) (by simp; omega) W; rw [List.append_assoc] at this; exact this)
  | [a, b], hs =>
    have ha := a.wr_len (ht a (by simp)).1 (fun q hq => hl q ((ht a (by simp)).2 q hq)) (fun q hq => hn q ((ht a (by simp)).2 q hq))
    have hb' := b.wr_len (ht b (by simp)).1 (fun q hq => hl q ((ht b (by simp)).2 q hq)) (fun q hq => hn q ((ht b (by simp)).2 q hq))
    have hfa : a.flat.length ≤ 200 := by simp at hz; omega
    have hfb : b.flat.length ≤ 200 := by simp at hz; omega
    have h3 := sdB_len (a.val wrv)
    have h4 := sdB_len (b.val wrv)
    unfold rowC
    rw [← hs]
    exact writtenOf_two (S0 := txt (sgO p.kd)) (X1 := txt (sdB (a.val wrv) ++ [32])) (X2 := txt (sdB (a.val wrv) ++ ([32] ++ sgO p.kd))) (X3 := txt (sdB (a.val wrv) ++ ([32] ++ (sgO p.kd ++ [32])))) (X4 := txt (sdB (a.val wrv) ++ ([32] ++ (sgO p.kd ++ ([32] ++ sdB (b.val wrv)))))) hone W (fun W => side_any (a.val wrv) W (by omega)) (fun W => side_any (b.val wrv) W (by omega))
      (fun W => str_add (sdB (a.val wrv)) [32] (by simp; omega) W)
      (fun W => by have := str_add (sdB (a.val wrv) ++ [32]) (sgO p.kd) (by simp; omega) W; rw [List.append_assoc] at this; exact this)
      (fun W => by have := str_add (sdB (a.val wrv) ++ ([32] ++ sgO p.kd)) [32] (by simp; omega) W; rw [List.append_assoc, List.append_assoc] at this; exact this)
      (fun W => by have := str_add (sdB (a.val wrv) ++ ([32] ++ (sgO p.kd ++ [32]))) (sdB (b.val wrv)) (by simp; omega) W; rw [List.append_assoc, List.append_assoc, List.append_assoc] at this; exact this)
  | a :: b :: c :: r, hs => simp at hs; omega
theorem fold_texts (ad : Option Addr) (cap : Nat) (xs : List Pt) (hsz : xs.length ≤ 200) (w : World) (hc : PtsAt w ad xs) (hT : TbE w) (hl : ∀ q ∈ xs, sds q.kd = 0 → lfK q ≠ 0) (hn : ∀ q ∈ xs, q.nk) :
    Calls Tryz.prog 82 #[.slice ad xs.length cap, .func (.func 83) #[] #[]] w fun e w' => e = .returned (foRW (fdX wrv xs)) ∧ Below w.heap.size w w' :=
  callsIn_wide.1 (foldW_in 83 ad cap xs hsz w (PtsLow.of hc) (enters_of Tryz.func83 (by kernel_rfl) rfl) (writtenOf_each hsz hT hl hn))
end Go.Proofs.YtogklmljllocbabGreatDoor
namespace Go.Proofs.YtogklmljllocbabGreatDoor
open Go.RowKit Go.Shelf

/-- What Write tells. -/
def wrS (x : List Pt) : ByteArray := if ckK x = 0 then ⟨#[]⟩ else match fdX wrv x with
  | some a => txt a.1
  | none => ⟨#[]⟩
theorem ckK_leaves {x : List Pt} (h : ckK x ≠ 0) : ∃ t : Ex, t.wf ∧ t.fine ∧ x = t.flat ∧ t.dn ≤ 32 ∧ x.length ≤ 200 ∧ t.kd = ckK x := by
  obtain ⟨t, h1, h2, h3, h4, h5⟩ := ckK_some h
  refine ⟨t, h1, t.fine_of h1 (by rw [h3]; exact h), h2, ?_, h5, h3⟩
  have := t.dp_dn
  omega
set_option maxRecDepth 100000 in
set_option maxHeartbeats 1000000 in
theorem write_any (ad : Option Addr) (cap : Nat) (xs : List Pt) (w : World) (hc : PtsAt w ad xs) (hT : TbE w) (hok : ∀ p ∈ xs, p.ok) :
    Calls Tryz.prog 44 #[.slice ad xs.length cap] w fun e w' => e = .returned (.tuple #[.string (wrS xs), .int .i64 (if ckK xs = 0 then 110 else 0)]) ∧ Below w.heap.size w w' := by
  have CK := hide (check_any ad cap xs w hc hT (fun p hp => (hok p hp).2.2.2.1))
  by_cases h0 : ckK xs = 0
  · have hw : wrS xs = ⟨#[]⟩ := by unfold wrS; rw [if_pos h0]
    rw [h0, if_pos rfl] at CK
    rw [hw, if_pos h0]
    clear hc hT hok h0 hw
    go_enter Tryz.func44, Tryz.ntmps44
    go_wp2_with fail
    refine (unhide CK).mono ?_
    rintro e w1 ⟨rfl, hb⟩
    clear CK
    go_wp2
    exact bodyPost_ret (results_tmp2 rfl _ _ _) rfl ⟨rfl, hb⟩
  · obtain ⟨t, h1, h2, h3, h4, h5, h6⟩ := ckK_leaves h0
    have hfd : fdX wrv xs = some (t.val wrv) := by rw [h3]; exact fdX_flat wrv t h1
    have hlv := t.fine_leaves h2
    rw [← h3] at hlv
    have hnk : ∀ q ∈ xs, q.nk := fun q hq => (hok q hq).2.1.2
    have hlen := t.wr_len h1 (by rw [← h3]; exact hlv) (by rw [← h3]; exact hnk)
    rw [← h3] at hlen
    have FT := hide (fun W (hb : Below w.heap.size w W) => fold_texts ad cap xs h5 W (hc.kp (Kp.ofBelow hb)) (hT.below hb hT.low) hlv hnk)
    have hw : wrS xs = txt (t.val wrv).1 := by unfold wrS; rw [if_neg h0, hfd]
    rw [hw, if_neg h0]
    have CL := hide (fun W => clone_any (txt (t.val wrv).1) W (by rw [txt_size]; omega))
    rw [if_neg h0] at CK
    rw [hfd] at FT
    unfold foRW wrE at FT
    dsimp only at FT
    generalize ckK xs = ck at *
    generalize txt (t.val wrv).1 = L at *
    generalize (t.val wrv).2 = B at *
    clear hc hT hok hw hlv hnk h1 h2 h3 h4 h6 hlen hfd
    go_enter Tryz.func44, Tryz.ntmps44
    go_wp2_with fail
    refine (unhide CK).mono ?_
    rintro e w1 ⟨rfl, hb⟩
    have FT2 := hide (unhide FT w1 hb)
    have HB := hide hb
    clear CK FT hb
    go_wp2_with fail
    refine (unhide FT2).mono ?_
    rintro e w2 ⟨rfl, hb2⟩
    have HB2 := hide ((unhide HB).trans (hb2.mono (unhide HB).size))
    clear FT2 hb2 HB
    go_wp2_with fail
    refine (unhide CL _).mono ?_
    rintro e w3 ⟨rfl, hb3⟩
    have HB3 := hide (((unhide HB2).alloc (unhide HB2).size _).trans (hb3.mono (by have := (unhide HB2).size; simp; omega)))
    clear HB2 hb3 CL
    go_wp2
    exact bodyPost_ret (results_tmp2 rfl _ _ _) rfl ⟨rfl, unhide HB3⟩
end Go.Proofs.YtogklmljllocbabGreatDoor
namespace Go.Proofs.YtogklmljllocbabGreatDoor
open Go.RowKit

theorem run_app_any {P : Program} {w : World} (t ty e : TypeId) (i : TypeInfo) (z : Value) (size bytes : Nat) (h1 : P.underlying t = some (.slice e)) (h2 : P.info? e = some i) (h3 : i.zero = some z) (h4 : i.size = size) (h5 : i.bytes = bytes) (h6 : z.cells.size = size) (h7 : 0 < size)
    {g2 n2 cap2 : Nat} {xs : List Value} (ho : w.ownsRow 0 e size (.slice (some ⟨g2, 0, none⟩) n2 cap2) n2 xs)
    (ad : Option Addr) (m c : Nat) (news : List Value) (hn : news.length = m * size) (hnone : ad = none → m = 0 ∧ c = 0) (hsp : ∀ a, ad = some a → a.spot = none) (hc : ∀ a, ad = some a → ∀ j u, news[j]? = some u → w.cell? (a.add j) = some u) (h1c : ∀ u ∈ news, u.oneCell' = true)
    (b1 : n2 + m ≤ maxLen) (b2 : (n2 + m) * bytes ≤ 140737488355328) :
    ∃ g cap w', (Builtin.append_ #[t, t] ty #[.slice (some ⟨g2, 0, none⟩) n2 cap2, .slice ad m c]).run P w = .ok (.slice (some ⟨g, 0, none⟩) (n2 + m) cap) w' ∧ w'.ownsRow 0 e size (.slice (some ⟨g, 0, none⟩) (n2 + m) cap) (n2 + m) (xs ++ news) ∧ w.grownBy w' (some g2) ∧ (g = g2 ∨ g = w.heap.size) := by
  have hcp : n2 ≤ cap2 := by
    obtain ⟨_, ⟨e, _⟩ | ⟨g, cp, cur, e, _, _, hn, _⟩⟩ := id ho
    · cases e
    · injection e with _ e2 e3; omega
  cases ad with
  | none =>
    obtain ⟨rfl, rfl⟩ := hnone rfl
    obtain rfl : news = [] := List.eq_nil_of_length_eq_zero (by omega)
    exact ⟨g2, cap2, w, by simpa using run_append_owned_none (P := P) (w := w) 0 t ty e i size h1 h2 _ _ _ ho, by simpa using ho, World.grownBy.refl _ _, Or.inl rfl⟩
  | some a =>
    obtain ⟨b, off, spot⟩ := a
    obtain rfl : spot = none := hsp _ rfl
    rcases Nat.eq_zero_or_pos m with h0 | hpos
    · subst h0
      obtain rfl : news = [] := List.eq_nil_of_length_eq_zero (by omega)
      have := run_append_room_cells (P := P) (w := w) t ty e i h1 h2 g2 0 n2 cap2 ⟨b, off, none⟩ 0 c [] (by simp) (fun j u hj => by simp at hj) (fun u hu => by cases hu) (by omega) (fun j hj => absurd hj (by simp)) (fun j hj => absurd hj (by simp))
      exact ⟨g2, cap2, w, by simpa [World.setCells] using this, by simpa using ho, World.grownBy.refl _ _, Or.inl rfl⟩
    · obtain ⟨g3, cap3, w', hr, r1, r2, r3, _⟩ := run_append_lies (P := P) (w := w) t ty 0 e i z size bytes h1 h2 h3 h4 h5 h6 h7 _ _ _ ho ⟨b, off, none⟩ m c news hn (hc _ rfl) h1c hpos b1 b2 (Nat.zero_le _) _ rfl
      refine ⟨g3, cap3, w', hr, r1, r2, ?_⟩
      rcases r3 with r3 | r3
      · exact Or.inl (by simpa [Value.ownBlock] using r3.symm)
      · exact Or.inr r3
/-- The same, as one step of a statement whose order is drawn. -/
theorem step_app_any {P : Program} {ops : Array Oper} {o : Oper} {a : Act} {w : World} {K : Act → World → Prop} {Q : Exit → Act → World → Prop} {E : Prop}
    (hg : o.guard = none) (s x : Operand) (t : TypeId) (hop : o.op = Op.call { callee := Callee.builtin Builtin.append, args := #[s, x], argTypes := #[t, t] })
    (e : TypeId) (i : TypeInfo) (z : Value) (size bytes : Nat) (h1 : P.underlying t = some (.slice e)) (h2 : P.info? e = some i) (h3 : i.zero = some z) (h4 : i.size = size) (h5 : i.bytes = bytes) (h6 : z.cells.size = size) (h7 : 0 < size)
    {g2 n2 cap2 : Nat} {xs : List Value} (hs : a.eval s = .slice (some ⟨g2, 0, none⟩) n2 cap2) (ho : w.ownsRow 0 e size (.slice (some ⟨g2, 0, none⟩) n2 cap2) n2 xs)
    (ad : Option Addr) (m c : Nat) (news : List Value) (hx : a.eval x = .slice ad m c) (hn : news.length = m * size) (hnone : ad = none → m = 0 ∧ c = 0) (hsp : ∀ a, ad = some a → a.spot = none) (hc : ∀ a, ad = some a → ∀ j u, news[j]? = some u → w.cell? (a.add j) = some u) (h1c : ∀ u ∈ news, u.oneCell' = true)
    (b1 : n2 + m ≤ maxLen) (b2 : (n2 + m) * bytes ≤ 140737488355328) (N : Nat) (hN : n2 + m = N)
    (hK : ∀ g cap w', w'.ownsRow 0 e size (.slice (some ⟨g, 0, none⟩) N cap) N (xs ++ news) → w.grownBy w' (some g2) → (g = g2 ∨ g = w.heap.size) → K (a.put o.dst (.slice (some ⟨g, 0, none⟩) N cap)) w') :
    if Region.wanted o (yielded ops a.tmps) = true then Oper.wp P o a w K Q else E := by
  subst hN
  have hw : Region.wanted o (yielded ops a.tmps) = true := by simp [Region.wanted, hg]
  rw [if_pos hw]
  obtain ⟨g, cap, w', hrun, r1, r2, r3⟩ := run_app_any (P := P) (w := w) t o.type e i z size bytes h1 h2 h3 h4 h5 h6 h7 ho ad m c news hn hnone hsp hc h1c b1 b2
  unfold Oper.wp
  simp [execOp, hop, resolve, invoke, builtin, hs, hx, hrun, Result.andThen]
  exact hK g cap w' r1 r2 r3
/-- append, by its run. -/
theorem wpList_app_run {P : Program} {ops : Array Oper} {rest : List Oper} {o : Oper} {a : Act} {w w' : World} {Q : Exit → Act → World → Prop} {v u1 u2 : Value} (hgd : o.guard = none) (s x : Operand) (t : TypeId)
    (ho : o.op = .call { callee := .builtin .append, args := #[s, x], argTypes := #[t, t] }) (hs : a.eval s = u1) (hx : a.eval x = u2) (hr : (Builtin.append_ #[t, t] o.type #[u1, u2]).run P w = .ok v w')
    (h : wpList P ops Q rest (a.put o.dst v) w') : wpList P ops Q (o :: rest) a w :=
  wpList_plain hgd fun _ hK => by
    unfold Oper.wp
    simp [execOp, ho, resolve, invoke, builtin, hs, hx, hr, Result.andThen]
    exact hK _ _ h
/-- What stays while a row of the call's own grows. -/
theorem kp_gr {wx W w5 : World} {g2 : Nat} (hk : Kp [] wx W) (hg : W.grownBy w5 (some g2)) (hle : wx.heap.size ≤ g2) : Kp [] wx w5 := hk.trans (Kp.of hg) (by simp; omega)
end Go.Proofs.YtogklmljllocbabGreatDoor
namespace Go.Proofs.YtogklmljllocbabGreatDoor
open Go.RowKit Go.Shelf

def stgA (out : List ByteArray) (p : Pt) : List ByteArray := if emptyB p.st || hasN out p.st then out else out ++ [p.st]
/-- The stages that are asked for, each once, in their order. -/
def stgL (x : List Pt) : List ByteArray := x.foldl stgA []
theorem stgL_take (x : List Pt) (k : Nat) (h : k < x.length) : stgL (x.take (k + 1)) = stgA (stgL (x.take k)) x[k] := by
  unfold stgL
  rw [List.take_succ_eq_append_getElem h, List.foldl_append]
  rfl
theorem stgA_len (out : List ByteArray) (p : Pt) : (stgA out p).length ≤ out.length + 1 := by
  unfold stgA
  split
  · omega
  · simp
theorem foldl_stg_len (x : List Pt) : ∀ out : List ByteArray, (x.foldl stgA out).length ≤ out.length + x.length := by
  induction x with
  | nil => intro out; simp
  | cons p r ih =>
    intro out
    have h1 := ih (stgA out p)
    have h2 := stgA_len out p
    rw [List.foldl_cons, List.length_cons]
    omega
theorem stgL_len (x : List Pt) : (stgL x).length ≤ x.length := by
  have := foldl_stg_len x []
  simpa [stgL] using this
theorem Ex.fine_st (t : Ex) (h : t.fine) : ∀ q ∈ t.flat, emptyB q.st = true ∨ isSg q.st = true := by
  induction t with
  | lf p =>
    intro q hq
    simp only [Ex.flat, List.mem_singleton] at hq
    subst hq
    rcases lfK_ne h with ⟨_, _, e⟩ | ⟨_, _, e⟩ | ⟨_, _, _, e, _⟩
    · rw [e]; exact Or.inl rfl
    · rw [e]; exact Or.inl rfl
    · rcases e with e | e
      · rw [e]; exact Or.inl rfl
      · exact Or.inr e
  | un p a ih =>
    intro q hq
    simp only [Ex.flat, List.mem_cons] at hq
    rcases hq with rfl | hq
    · rw [h.2.1]; exact Or.inl rfl
    · exact ih h.2.2 q hq
  | bi p a b iha ihb =>
    intro q hq
    simp only [Ex.flat, List.mem_cons, List.mem_append] at hq
    rcases hq with rfl | hq | hq
    · rw [h.2.2.1]; exact Or.inl rfl
    · exact iha h.2.2.2.1 q hq
    · exact ihb h.2.2.2.2 q hq
theorem isSg_size {s : ByteArray} (h : isSg s = true) : 0 < s.size ∧ s.size ≤ 32 := by
  unfold isSg at h
  simp only [Bool.and_eq_true, decide_eq_true_eq] at h
  exact ⟨h.1.1.1.1, h.1.1.1.2⟩
theorem ck_st {x : List Pt} (h : ckK x ≠ 0) : ∀ q ∈ x, (emptyB q.st = true ∨ isSg q.st = true) ∧ q.st.size ≤ 32 := by
  obtain ⟨t, _, h2, h3, _⟩ := ckK_leaves h
  intro q hq
  rw [h3] at hq
  have := t.fine_st h2 q hq
  refine ⟨this, ?_⟩
  rcases this with e | e
  · unfold emptyB at e; have : q.st.size = 0 := by simpa using e
    omega
  · exact (isSg_size e).2
/-- What Stages tells. -/
def stgS (x : List Pt) : List ByteArray := if ckK x = 0 then [] else stgL x
theorem stgS_len (x : List Pt) : (stgS x).length ≤ 200 := by
  unfold stgS
  split
  · simp
  · rename_i h
    obtain ⟨_, _, _, _, _, h5, _⟩ := ckK_leaves h
    have := stgL_len x
    omega
/-! Names in a row of the call's own. -/
def nmC (l : List ByteArray) : List Value := l.map Value.string
def OwnsW (B : Nat) (w : World) (v : Value) (l : List ByteArray) : Prop := w.ownsRow B 9 1 v l.length (nmC l)
theorem info_str : (Tryz.prog.info? 9).map (fun i => (i.zero, i.size, i.bytes)) = some (some (.string ⟨#[]⟩), 1, 16) := by kernel_rfl
theorem OwnsW.nil (B : Nat) (w : World) : OwnsW B w (.slice none 0 0) [] := World.ownsRow_nil _ _ _ _
theorem OwnsW.kp {B : Nat} {w w' : World} {v : Value} {l : List ByteArray} (h : OwnsW B w v l) (hk : Kp [] w w') : OwnsW B w' v l := row_kp h hk (by simp)
theorem OwnsW.at {B : Nat} {w : World} {v : Value} {l : List ByteArray} (h : OwnsW B w v l) : ∃ ad cp, v = .slice ad l.length cp ∧ NmsAt w ad l ∧ l.length ≤ cp := by
  obtain ⟨_, ⟨rfl, h0⟩ | ⟨g, cp, cur, rfl, _, _, hcap, _⟩⟩ := id h
  · refine ⟨none, 0, by rw [h0], fun hne => ?_, by omega⟩
    exact absurd (List.eq_nil_of_length_eq_zero h0) hne
  · have hl := World.ownsRow.lt h g rfl
    refine ⟨_, _, rfl, fun _ => ⟨g, 0, rfl, hl.2, fun i hi => ?_⟩, hcap⟩
    rw [Nat.zero_add, World.ownsRow.cellAt h i (by omega)]
    unfold nmC
    rw [List.getElem?_map, List.getElem?_eq_getElem hi]
    rfl
/-- append of one name. -/
theorem OwnsW.app {B : Nat} {w : World} {v : Value} {l : List ByteArray} (ho : OwnsW B w v l) (hB : B ≤ w.heap.size) (s : ByteArray) {g c : Nat} (hc : w.cell? ⟨g, 0, none⟩ = some (.string s)) (hl : l.length + 1 ≤ 1000000) (ty : TypeId) :
    ∃ g' cap w', (Builtin.append_ #[54, 54] ty #[v, .slice (some ⟨g, 0, none⟩) 1 c]).run Tryz.prog w = .ok (.slice (some ⟨g', 0, none⟩) (l.length + 1) cap) w' ∧ OwnsW B w' (.slice (some ⟨g', 0, none⟩) (l.length + 1) cap) (l ++ [s]) ∧ Below B w w' ∧ w.grownBy w' v.ownBlock := by
  obtain ⟨i0, hi, hz0, hz1, hz2⟩ := info_parts info_str
  obtain ⟨g', cap, w', hrun, r1, r2, _⟩ := run_append_lies (P := Tryz.prog) (w := w) 54 ty B 9 i0 (.string ⟨#[]⟩) 1 16 Tryz.underlying54 hi hz0 hz1 hz2 rfl (by decide) v l.length (nmC l) ho ⟨g, 0, none⟩ 1 c [.string s] rfl (fun j u hj => by
    match j, hj with
    | 0, hj => simp at hj; subst hj; exact hc) (by intro u hu; simp at hu; subst hu; rfl) (by omega) (by unfold maxLen; omega) (by omega) hB _ rfl
  refine ⟨g', cap, w', hrun, ?_, (Kp.of r2).below hB (fun k hk => ?_), r2⟩
  · unfold OwnsW nmC
    rw [List.length_append, List.map_append]
    exact r1
  · have : v.ownBlock = some k := by simpa using hk
    exact (World.ownsRow.lt ho k this).1
end Go.Proofs.YtogklmljllocbabGreatDoor
