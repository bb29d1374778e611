/-
  textItem and Encode of an event: its bytes, as the plain function has them.
-/
import Derived.Test.YtpfcoaimciojjaaG04
import Derived.Test.YtpfcoaimciojjaaG08
import Derived.Test.YtpfcoaimciojjaaG10
import Derived.Test.YtpfcoaimciojjaaG12
import Derived.Test.YtpfcoaimciojjaaG13
namespace Go.Proofs.Ytpfcoaimciojjaa
open Go.RowKit

def tx (s : ByteArray) : It := ⟨true, 0, s⟩
def nu (n : Int) : It := ⟨false, n, ⟨#[]⟩⟩
/-- An event's items. -/
def Ev.l (e : Ev) : List It := [tx e.k, tx e.t, nu e.n0, nu e.n1, nu e.n2, nu e.n3, tx e.x]
def Ev.s (e : Ev) : ByteArray := if e.may = true then ⟨(listB e.l).toArray⟩ else ⟨#[]⟩
theorem tx_len (s : ByteArray) (h : s.size ≤ 256) : (tx s).b.length ≤ 300 := by
  have := itemB_size true 0 s (by omega) (by omega) (by omega)
  have e : (⟨(itemB true 0 s).toArray⟩ : ByteArray).size = (tx s).b.length := List.size_toArray
  omega
theorem nu_len (n : Int) (h : inI n) : (nu n).b.length ≤ 300 := by
  have := itemB_size false n ⟨#[]⟩ h.1 h.2 (by decide)
  have e : (⟨(itemB false n ⟨#[]⟩).toArray⟩ : ByteArray).size = (nu n).b.length := List.size_toArray
  have : (⟨#[]⟩ : ByteArray).size = 0 := rfl
  omega
theorem nu_may (n : Int) : (nu n).may = true := by
  unfold nu It.may mayB
  show (⟨#[]⟩ : ByteArray).toList.isEmpty = true
  rw [ByteArray.toList_eq]; rfl
theorem Ev.l_len (e : Ev) (h : e.may = true) (hok : e.ok) : (listB e.l).length ≤ 2100 := by
  obtain ⟨_, _, _, i0, i1, i2, i3⟩ := hok
  obtain ⟨a, b, c⟩ := mayE_sizes h
  have h1 := tx_len e.k (by omega); have h2 := tx_len e.t (by omega); have h3 := tx_len e.x (by omega)
  have h4 := nu_len e.n0 i0; have h5 := nu_len e.n1 i1; have h6 := nu_len e.n2 i2; have h7 := nu_len e.n3 i3
  unfold listB Ev.l
  simp only [List.flatMap_cons, List.flatMap_nil, List.length_append, List.length_nil]
  omega
theorem Ev.l_ok (e : Ev) (hok : e.ok) : ∀ y ∈ e.l, y.ok := by
  obtain ⟨h1, h2, h3, i0, i1, i2, i3⟩ := hok
  intro y hy
  unfold Ev.l at hy
  simp only [List.mem_cons, List.not_mem_nil, or_false] at hy
  rcases hy with rfl | rfl | rfl | rfl | rfl | rfl | rfl
  · exact ⟨(by decide : (-9223372036854775808 : Int) ≤ 0), (by decide : (0 : Int) < 9223372036854775808), h1⟩
  · exact ⟨(by decide : (-9223372036854775808 : Int) ≤ 0), (by decide : (0 : Int) < 9223372036854775808), h2⟩
  · exact ⟨i0.1, i0.2, Nat.zero_le _⟩
  · exact ⟨i1.1, i1.2, Nat.zero_le _⟩
  · exact ⟨i2.1, i2.2, Nat.zero_le _⟩
  · exact ⟨i3.1, i3.2, Nat.zero_le _⟩
  · exact ⟨(by decide : (-9223372036854775808 : Int) ≤ 0), (by decide : (0 : Int) < 9223372036854775808), h3⟩
theorem Ev.l_may (e : Ev) : e.l.all It.may = true := by
  unfold Ev.l
  simp only [List.all_cons, List.all_nil, nu_may, Bool.and_true, Bool.true_and]
  rfl
theorem Ev.l_enc (e : Ev) (h : e.may = true) (hok : e.ok) : encE e.l = 0 ∧ encS e.l = e.s := by
  have hl := e.l_len h hok
  have h0 : encE e.l = 0 := by
    unfold encE
    rw [if_neg (show ¬ 4096 < e.l.length by unfold Ev.l; simp), if_neg (by rw [e.l_may]; simp), if_neg (by omega)]
  refine ⟨h0, ?_⟩
  unfold encS Ev.s
  rw [if_pos h0, if_pos h]
set_option maxHeartbeats 400000 in
theorem textItem_any (s : ByteArray) (w : World) :
    Calls Try.prog 22 #[.string s] w fun e w' => e = .returned (.agg #[.bool true, .int .i64 0, .string s]) ∧ Below w.heap.size w w' := by
  go_enter Try.func22, Try.ntmps22
  go_wp2
  exact bodyPost_ret (v := .agg #[.bool true, .int .i64 0, .string s]) (by simp [results, Try.results22, go_sem]) rfl ⟨rfl, (Below.refl _ _).alloc (Nat.le_refl _) _⟩
theorem OwnsI.built (B : Nat) (W : World) (k t : ByteArray) (hB : B ≤ W.heap.size) : OwnsI B (W.alloc (.cells #[.bool true, .int .i64 0, .string k, .bool true, .int .i64 0, .string t] 47)) (.slice (some ⟨W.heap.size, 0, none⟩) 2 2) [tx k, tx t] :=
  ⟨rfl, .inr ⟨W.heap.size, 2, _, rfl, hB, heap_alloc_new W _, Nat.le_refl _, by unfold maxLen; omega, rfl, rfl⟩⟩
/-- One item more. -/
theorem wpList_item {w : World} {ops : Array Oper} {rest : List Oper} {o : Oper} {a : Act} {Q : Exit → Act → World → Prop} (hgd : o.guard = none) (s x : Operand)
    (ho : o.op = .call { callee := .builtin .append, args := #[s, x], argTypes := #[49, 49] })
    (B : Nat) (v : Value) (xs : List It) (hs : a.eval s = v) (hown : OwnsI B w v xs) (y : It) (g : Nat) (hx : a.eval x = .slice (some ⟨g, 0, none⟩) 1 1) (h0 : w.cell? ⟨g, 0, none⟩ = some (.bool y.t)) (h1 : w.cell? ⟨g, 1, none⟩ = some (.int .i64 y.n)) (h2 : w.cell? ⟨g, 2, none⟩ = some (.string y.s))
    (hb : xs.length ≤ 10000) (hbase : B ≤ w.heap.size)
    (h : ∀ v' w', OwnsI B w' v' (xs ++ [y]) → Fr B 47 w w' → wpList Try.prog ops Q rest (a.put o.dst v') w') : wpList Try.prog ops Q (o :: rest) a w := by
  obtain ⟨i0, hi, hz0, hz1, hz2⟩ := info_parts info_Item
  refine wpList_append_own w hgd s x 49 ho B 47 i0 (.agg #[.bool false, .int .i64 0, .string ⟨#[]⟩]) 3 32 Try.underlying49 hi hz0 hz1 hz2 rfl (by decide) v xs.length (itemC xs) hs hown ⟨g, 0, none⟩ 1 1 [.bool y.t, .int .i64 y.n, .string y.s] hx rfl ?_ ?_ (by unfold maxLen; omega) (by omega) hbase ?_
  · intro q u hq
    match q, hq with
    | 0, hq => simp at hq; subst hq; exact h0
    | 1, hq => simp at hq; subst hq; exact h1
    | 2, hq => simp at hq; subst hq; exact h2
  · intro u hu; simp at hu; rcases hu with rfl | rfl | rfl <;> rfl
  · intro v' w' h1 h2 _
    refine h v' w' ?_ ((Fr.refl _ _ _).grown hown h2 hbase)
    unfold OwnsI
    rw [itemC_append, List.length_append]
    exact h1
theorem cell3_new (w : World) (t : Bool) (n : Int) (s : ByteArray) (ty : TypeId) : (w.alloc (.cells #[.bool t, .int .i64 n, .string s] ty)).cell? ⟨w.heap.size, 0, none⟩ = some (.bool t) ∧ (w.alloc (.cells #[.bool t, .int .i64 n, .string s] ty)).cell? ⟨w.heap.size, 1, none⟩ = some (.int .i64 n) ∧ (w.alloc (.cells #[.bool t, .int .i64 n, .string s] ty)).cell? ⟨w.heap.size, 2, none⟩ = some (.string s) := by simp
theorem index4 (a b c d : Int) (w : World) :
    (Instr.index 22 (.agg #[.int .i64 a, .int .i64 b, .int .i64 c, .int .i64 d]) (.int .i64 0)).run Try.prog w = .ok (.int .i64 a) w ∧ (Instr.index 22 (.agg #[.int .i64 a, .int .i64 b, .int .i64 c, .int .i64 d]) (.int .i64 1)).run Try.prog w = .ok (.int .i64 b) w ∧
    (Instr.index 22 (.agg #[.int .i64 a, .int .i64 b, .int .i64 c, .int .i64 d]) (.int .i64 2)).run Try.prog w = .ok (.int .i64 c) w ∧ (Instr.index 22 (.agg #[.int .i64 a, .int .i64 b, .int .i64 c, .int .i64 d]) (.int .i64 3)).run Try.prog w = .ok (.int .i64 d) w := by
  simp [Instr.index, run_underlying Try.underlying22, part, Try.sizeOf2, go_sem]
/-- What stays while an event's list is made. -/
structure EncS (w : World) (e : Ev) (W : World) : Prop where
  bel : Below w.heap.size w W
  bx : EBox w.heap.size e W
theorem EncS.drew {w : World} {e : Ev} {W : World} (h : EncS w e W) : EncS w e W.drew := ⟨h.bel.drew, h.bx⟩
theorem EncS.alloc {w : World} {e : Ev} {W : World} (h : EncS w e W) (o : Obj) : EncS w e (W.alloc o) := ⟨h.bel.alloc h.bel.size o, h.bx.alloc o⟩
theorem EncS.next {w : World} {e : Ev} {W W' : World} (h : EncS w e W) (hb : Below W.heap.size W W') : EncS w e W' := ⟨h.bel.trans (hb.mono h.bel.size), h.bx.below hb h.bx.lt⟩
theorem EncS.fr {w : World} {e : Ev} {W W' : World} (h : EncS w e W) (hf : Fr w.heap.size 47 W W') : EncS w e W' := ⟨h.bel.trans hf.below, hf.keep h.bx (by decide)⟩
theorem EncS.full {w : World} {e : Ev} {W : World} (h : EncS w e W) : EncS w e W ∧ W.cell? ⟨w.heap.size, 0, none⟩ = some (.string e.k) ∧ W.cell? ⟨w.heap.size, 1, none⟩ = some (.string e.t) ∧ W.cell? ⟨w.heap.size, 2, none⟩ = some (.int .i64 e.n0) ∧ W.cell? ⟨w.heap.size, 3, none⟩ = some (.int .i64 e.n1) ∧ W.cell? ⟨w.heap.size, 4, none⟩ = some (.int .i64 e.n2) ∧ W.cell? ⟨w.heap.size, 5, none⟩ = some (.int .i64 e.n3) ∧ W.cell? ⟨w.heap.size, 6, none⟩ = some (.string e.x) := ⟨h, h.bx.cells⟩
set_option maxHeartbeats 4000000 in
set_option maxRecDepth 100000 in
theorem evEncode_any (e : Ev) (w : World) (hok : e.ok) :
    Calls Try.prog 6 #[.agg e.c] w fun r w' => r = .returned (.tuple #[.string e.s, .int .i64 e.chk]) ∧ Below w.heap.size w w' := by
  have s0 : EncS w e (w.alloc (.cells e.c 24)) := ⟨(Below.refl _ _).alloc (Nat.le_refl _) _, heap_alloc_new w _⟩
  have ck := fun W => check_any e.k e.t e.x e.n0 e.n1 e.n2 e.n3 W hok.1 hok.2.1 hok.2.2.1
  have hch : e.chk = chkE e.k e.t e.x := rfl
  rw [← hch] at ck
  have CK := hide ck
  clear ck hch
  by_cases hm : e.may = true
  · have hc : e.chk = 0 := if_pos hm
    obtain ⟨q1, q2⟩ := e.l_enc hm hok
    have lok := e.l_ok hok
    rw [hc] at CK ⊢
    have Q := hide (And.intro q1 q2)
    have LOK := hide lok
    clear q1 q2 lok hc hm hok
    obtain ⟨k, t, n0, n1, n2, n3, x⟩ := e
    unfold Ev.c at s0 ⊢
    dsimp only at s0 CK ⊢
    go_enter Try.func6, Try.ntmps6
    go_wp2_with fail
    generalize w.alloc (.cells #[.string k, .string t, .int .i64 n0, .int .i64 n1, .int .i64 n2, .int .i64 n3, .string x] 24) = W0 at *
    refine (unhide CK W0).mono ?_
    rintro r w1 ⟨rfl, rfl⟩
    have s1 := s0.alloc (.cells #[.string k, .string t, .int .i64 n0, .int .i64 n1, .int .i64 n2, .int .i64 n3, .string x] 24)
    generalize W0.alloc (.cells #[.string k, .string t, .int .i64 n0, .int .i64 n1, .int .i64 n2, .int .i64 n3, .string x] 24) = W1 at *
    clear s0
    have f1 := s1.full.2
    dsimp only at f1
    go_wp2_with fail
    go_region_held3 (fun W => EncS w ⟨k, t, n0, n1, n2, n3, x⟩ W ∧ W.cell? ⟨w.heap.size, 0, none⟩ = some (.string k) ∧ W.cell? ⟨w.heap.size, 1, none⟩ = some (.string t)) (first | exact ⟨s1.drew, s1.drew.full.2.1, s1.drew.full.2.2.1⟩ | exact ⟨s1, s1.full.2.1, s1.full.2.2.1⟩ | exact ⟨s2, s2.full.2.1, s2.full.2.2.1⟩ | exact ⟨s3, s3.full.2.1, s3.full.2.2.1⟩ | exact ⟨s3.alloc _, (s3.alloc _).full.2.1, (s3.alloc _).full.2.2.1⟩)
      (first
        | (go_at_call 22; refine (textItem_any _ w2).mono ?_; rintro r w3 ⟨rfl, hb3⟩; have s3 := s2.next hb3)
        | (go_at_call 22; refine (textItem_any _ _).mono ?_; rintro r w2 ⟨rfl, hb2⟩; have s2 := s1.drew.next hb2))
    have s4 := s3.alloc (.cells #[.bool true, .int .i64 0, .string k, .bool true, .int .i64 0, .string t] 47)
    have ow := OwnsI.built w.heap.size w3 k t s3.bel.size
    have f4 := s4.full.2
    dsimp only at f4
    clear s1 f1 s2 s3 hb2 hb3 CK
    go_wp2_with fail
    generalize w3.alloc (.cells #[.bool true, .int .i64 0, .string k, .bool true, .int .i64 0, .string t] 47) = W4 at *
    go_loopw [5, 22] (fun v i wr => ∃ j : Nat, j ≤ 4 ∧ i = .int .i64 (j : Int) ∧ EncS w ⟨k, t, n0, n1, n2, n3, x⟩ wr ∧ OwnsI w.heap.size wr v ([tx k, tx t] ++ [nu n0, nu n1, nu n2, nu n3].take j)) (fun _ i _ => 4 - (intOf i).toNat)
    case atStart => exact ⟨0, by omega, rfl, s4, ow⟩
    case round =>
      clear s4 ow f4
      obtain ⟨j, hj, rfl, s4, ow⟩ := hrel
      have hz := s4.bel.size
      have ix := fun w => index4 n0 n1 n2 n3 w
      rcases (by omega : j = 0 ∨ j = 1 ∨ j = 2 ∨ j = 3 ∨ j = 4) with rfl | rfl | rfl | rfl | rfl
      · have cc := cell3_new wr false n0 ⟨#[]⟩ 47
        have CC := hide cc
        clear cc
        go_wp2_with (at_builtin; refine wpList_item rfl _ _ rfl w.heap.size _ _ rfl (ow.alloc _) (nu n0) wr.heap.size rfl (unhide CC).1 (unhide CC).2.1 (unhide CC).2.2 (by simp) (by simp; omega) ?_)
        intro v5 w5 ow5 hf5
        have s5 := (s4.alloc _).fr hf5
        clear s4 ow hf5 CC
        go_wp2
        go_roundw
        case rel => exact ⟨1, by omega, by go_num, s5, by simpa using ow5⟩
        case measure => simp [intOf]
      · have cc := cell3_new wr false n1 ⟨#[]⟩ 47
        have CC := hide cc
        clear cc
        go_wp2_with (at_builtin; refine wpList_item rfl _ _ rfl w.heap.size _ _ rfl (ow.alloc _) (nu n1) wr.heap.size rfl (unhide CC).1 (unhide CC).2.1 (unhide CC).2.2 (by simp) (by simp; omega) ?_)
        intro v5 w5 ow5 hf5
        have s5 := (s4.alloc _).fr hf5
        clear s4 ow hf5 CC
        go_wp2
        go_roundw
        case rel => exact ⟨2, by omega, by go_num, s5, by simpa using ow5⟩
        case measure => simp [intOf]
      · have cc := cell3_new wr false n2 ⟨#[]⟩ 47
        have CC := hide cc
        clear cc
        go_wp2_with (at_builtin; refine wpList_item rfl _ _ rfl w.heap.size _ _ rfl (ow.alloc _) (nu n2) wr.heap.size rfl (unhide CC).1 (unhide CC).2.1 (unhide CC).2.2 (by simp) (by simp; omega) ?_)
        intro v5 w5 ow5 hf5
        have s5 := (s4.alloc _).fr hf5
        clear s4 ow hf5 CC
        go_wp2
        go_roundw
        case rel => exact ⟨3, by omega, by go_num, s5, by simpa using ow5⟩
        case measure => simp [intOf]
      · have cc := cell3_new wr false n3 ⟨#[]⟩ 47
        have CC := hide cc
        clear cc
        go_wp2_with (at_builtin; refine wpList_item rfl _ _ rfl w.heap.size _ _ rfl (ow.alloc _) (nu n3) wr.heap.size rfl (unhide CC).1 (unhide CC).2.1 (unhide CC).2.2 (by simp) (by simp; omega) ?_)
        intro v5 w5 ow5 hf5
        have s5 := (s4.alloc _).fr hf5
        clear s4 ow hf5 CC
        go_wp2
        go_roundw
        case rel => exact ⟨4, by omega, by go_num, s5, by simpa using ow5⟩
        case measure => simp [intOf]
      · have f4 := s4.full.2
        dsimp only at f4
        go_wp2_with fail
        refine (textItem_any x _).mono ?_
        rintro r w5 ⟨rfl, hb5⟩
        have s5 := s4.next hb5
        have ow5 := ow.below hb5 (Nat.le_refl _)
        have hz5 := s5.bel.size
        have cc := cell3_new w5 true 0 x 47
        have CC := hide cc
        clear cc s4 f4 ow hb5
        go_wp2_with (at_builtin; refine wpList_item rfl _ _ rfl w.heap.size _ _ rfl (ow5.alloc _) (tx x) w5.heap.size rfl (unhide CC).1 (unhide CC).2.1 (unhide CC).2.2 (by simp) (by simp; omega) ?_)
        intro v6 w6 ow6 hf6
        have s6 := (s5.alloc _).fr hf6
        clear s5 ow5 hf6 CC
        have ow7 : OwnsI w.heap.size w6 v6 (Ev.l ⟨k, t, n0, n1, n2, n3, x⟩) := by simpa [Ev.l] using ow6
        obtain ⟨a6, c6, rfl, hi6⟩ := ow7.items
        have en := encode_any a6 c6 (Ev.l ⟨k, t, n0, n1, n2, n3, x⟩) w6 (by unfold Ev.l; simp) hi6 (unhide LOK)
        rw [(unhide Q).1, (unhide Q).2] at en
        have EN := hide en
        have hln : (Ev.l ⟨k, t, n0, n1, n2, n3, x⟩).length = 7 := rfl
        rw [hln] at EN ⊢
        clear en ow6 ow7 hi6 hln
        go_wp2_with fail
        refine (unhide EN).mono ?_
        rintro r w7 ⟨rfl, hb7⟩
        have hb8 := s6.bel.trans (hb7.mono s6.bel.size)
        clear s6 hb7
        go_wp2
        go_ret2
        exact ⟨rfl, hb8⟩
  · have hc : e.chk = 20 := if_neg hm
    have hsn : e.s = ⟨#[]⟩ := if_neg hm
    rw [hc] at CK ⊢
    rw [hsn]
    clear hc hsn hm hok
    obtain ⟨k, t, n0, n1, n2, n3, x⟩ := e
    unfold Ev.c at s0 ⊢
    dsimp only at s0 CK ⊢
    go_enter Try.func6, Try.ntmps6
    go_wp2_with fail
    generalize w.alloc (.cells #[.string k, .string t, .int .i64 n0, .int .i64 n1, .int .i64 n2, .int .i64 n3, .string x] 24) = W0 at *
    refine (unhide CK W0).mono ?_
    rintro r w1 ⟨rfl, rfl⟩
    go_wp2
    go_ret2
    exact ⟨rfl, (s0.alloc _).bel⟩
end Go.Proofs.Ytpfcoaimciojjaa
