/-
  The document's answer: how an operation is written; Write.
  append to a row of the call's own, of cells that lie anywhere: what it gives, and where the new row lies. Of no program.
  Which stages an expression asks for, plainly; names in rows of the call's own.
-/
import Derived.Test.YthipclehhcfahaaGreatDoorHC32
import Derived.Test.YthipclehhcfahaaGreatDoorHC07
import Derived.Laws.AppendOwnNone
import Derived.Test.YthipclehhcfahaaGreatDoorHC23
import Derived.Test.YthipclehhcfahaaGreatDoorHC30
namespace Go.Proofs.YthipclehhcfahaaGreatDoor
open Go.RowKit Go.Shelf

theorem sdB_bound (a : List UInt8 × Bool) : (sdB a).length ≤ a.1.length + 4 := by
  unfold sdB
  split
  · simp
  · omega
theorem not_add (A : List UInt8) (h : A.length ≤ 70000) (W : World) : (Op.stringOp .add { data := #[110, 111, 116, 32] } (txt A)).run Tryz.prog W = .ok (.string (txt ([110, 111, 116] ++ ([32] ++ A)))) W := str_add [110, 111, 116, 32] A (by simp; omega) W
theorem br_add (A : List UInt8) (h : A.length ≤ 200000) (W : World) : (Op.stringOp .add { data := #[40, 32] } (txt A)).run Tryz.prog W = .ok (.string (txt ([40, 32] ++ A))) W := str_add [40, 32] A (by simp; omega) W
theorem rb_add (A : List UInt8) (h : A.length ≤ 200000) (W : World) : (Op.stringOp .add (txt ([40, 32] ++ A)) { data := #[32, 41] }).run Tryz.prog W = .ok (.string (txt ([40, 32] ++ (A ++ [32, 41])))) W := by
  have := str_add ([40, 32] ++ A) [32, 41] (by simp; omega) W
  rw [List.append_assoc] at this
  exact this
theorem sp_add (A : List UInt8) (h : A.length ≤ 200000) (W : World) : (Op.stringOp .add (txt A) { data := #[32] }).run Tryz.prog W = .ok (.string (txt (A ++ [32]))) W := str_add A [32] (by simp; omega) W
set_option maxHeartbeats 4000000 in
set_option maxRecDepth 100000 in
theorem written_un {ad : Option Addr} (cap : Nat) (xs : List Pt) (at_ E1 : Nat) (o : Bool) (A : List UInt8) (hA : A.length ≤ 70000) (hx : xs.length ≤ 200) (hat : at_ < xs.length) (hk : xs[at_].kd = 13) (C1 : ∀ W, PtsAt W ad xs → Calls Tryz.prog 31 #[.slice ad xs.length cap, .int .i64 ((at_ + 1 : Nat) : Int), .bool false] W (WnT W A E1)) (w : World) (h : PtsAt w ad xs) :
    Calls Tryz.prog 31 #[.slice ad xs.length cap, .int .i64 (at_ : Int), .bool o] w (WnT w (outB o ([110, 111, 116] ++ ([32] ++ A), true)) E1) := by
  obtain ⟨b, off, rfl, hbl, x0, x1, x2, x3, x4⟩ := h.at at_ hat
  have hli : (at_ : Int) < (xs.length : Int) := by omega
  have ha1 : ((at_ + 1 : Nat) : Int) = (at_ : Int) + 1 := by omega
  rw [ha1] at C1
  clear ha1
  generalize xs[at_] = p at *
  obtain ⟨pk, pn, ps, pt, pf⟩ := p
  dsimp only at *
  subst hk
  have C1W := hide (C1 _ (h.kp (Kp.alloc w (.cells #[.int .i64 13, .int .i64 pn, .string ps, .string pt, .int .i64 pf] 53))))
  have HB0 := hide ((Below.refl w.heap.size w).alloc (Nat.le_refl _) (.cells #[.int .i64 13, .int .i64 pn, .string ps, .string pt, .int .i64 pf] 53))
  have D1 := not_add A hA
  have D2 := br_add ([110, 111, 116] ++ ([32] ++ A)) (by simp; omega)
  have D3 := rb_add ([110, 111, 116] ++ ([32] ++ A)) (by simp; omega)
  unfold WnT at C1W ⊢
  unfold outB sdB
  dsimp only
  rw [if_pos rfl]
  clear h C1
  cases o with
  | true =>
    rw [if_pos rfl]
    clear D2 D3
    generalize txt ([110, 111, 116] ++ ([32] ++ A)) = Z1 at *
    generalize txt A = Z0 at *
    go_enter Tryz.func31, Tryz.ntmps31
    go_wp2_with fail
    refine (unhide C1W).mono ?_
    rintro e w1 ⟨rfl, hb1⟩
    obtain ⟨c0, _, _, _, hlt⟩ := part_keep (Kp.ofBelow hb1)
    have HB := hide ((unhide HB0).trans (hb1.mono (unhide HB0).size))
    clear C1W hb1 HB0
    go_wp2
    exact bodyPost_ret (results_tmp2 rfl _ _ _) rfl ⟨rfl, unhide HB⟩
  | false =>
    rw [if_neg (by simp)]
    generalize txt ([40, 32] ++ ([110, 111, 116] ++ ([32] ++ A) ++ [32, 41])) = Z3 at *
    generalize txt ([40, 32] ++ ([110, 111, 116] ++ ([32] ++ A))) = Z2 at *
    generalize txt ([110, 111, 116] ++ ([32] ++ A)) = Z1 at *
    generalize txt A = Z0 at *
    go_enter Tryz.func31, Tryz.ntmps31
    go_wp2_with fail
    refine (unhide C1W).mono ?_
    rintro e w1 ⟨rfl, hb1⟩
    obtain ⟨c0, _, _, _, hlt⟩ := part_keep (Kp.ofBelow hb1)
    have HB := hide ((unhide HB0).trans (hb1.mono (unhide HB0).size))
    clear C1W hb1 HB0
    go_wp2
    exact bodyPost_ret (results_tmp2 rfl _ _ _) rfl ⟨rfl, unhide HB⟩
set_option maxHeartbeats 4000000 in
set_option maxRecDepth 100000 in
theorem written_bi {ad : Option Addr} (cap : Nat) (xs : List Pt) (at_ E1 E2 : Nat) (o : Bool) (A B : List UInt8) (hA : A.length ≤ 70000) (hB : B.length ≤ 70000) (hx : xs.length ≤ 200) (hat : at_ < xs.length) (h4 : 4 ≤ xs[at_].kd) (h12 : xs[at_].kd ≤ 12) (C1 : ∀ W, PtsAt W ad xs → Calls Tryz.prog 31 #[.slice ad xs.length cap, .int .i64 ((at_ + 1 : Nat) : Int), .bool false] W (WnT W A E1)) (C2 : ∀ W, PtsAt W ad xs → Calls Tryz.prog 31 #[.slice ad xs.length cap, .int .i64 (E1 : Int), .bool false] W (WnT W B E2)) (w : World) (h : PtsAt w ad xs) :
    Calls Tryz.prog 31 #[.slice ad xs.length cap, .int .i64 (at_ : Int), .bool o] w (WnT w (outB o (A ++ ([32] ++ (sgO xs[at_].kd ++ ([32] ++ B))), true)) E2) := by
  obtain ⟨b, off, rfl, hbl, x0, x1, x2, x3, x4⟩ := h.at at_ hat
  have hli : (at_ : Int) < (xs.length : Int) := by omega
  have ha1 : ((at_ + 1 : Nat) : Int) = (at_ : Int) + 1 := by omega
  rw [ha1] at C1
  clear ha1
  generalize xs[at_] = p at *
  obtain ⟨pk, pn, ps, pt, pf⟩ := p
  dsimp only at *
  have C1W := hide (C1 _ (h.kp (Kp.alloc w (.cells #[.int .i64 pk, .int .i64 pn, .string ps, .string pt, .int .i64 pf] 53))))
  have HB0 := hide ((Below.refl w.heap.size w).alloc (Nat.le_refl _) (.cells #[.int .i64 pk, .int .i64 pn, .string ps, .string pt, .int .i64 pf] 53))
  have HC2 := hide (fun W (hk : Kp [] (w.alloc (.cells #[.int .i64 pk, .int .i64 pn, .string ps, .string pt, .int .i64 pf] 53)) W) => C2 W ((h.kp (Kp.alloc _ _)).kp hk))
  have SG := hide (fun W => rSignO_any pk h4 h12 W)
  have hsg := sgO_len pk
  have D1 := not_add A hA
  have D2 := sp_add A (by omega)
  have D3 : ∀ W, (Op.stringOp .add (txt (A ++ [32])) (txt (sgO pk))).run Tryz.prog W = .ok (.string (txt (A ++ [32] ++ sgO pk))) W := fun W => str_add _ _ (by simp; omega) W
  have D4 := sp_add (A ++ [32] ++ sgO pk) (by simp; omega)
  have D5 : ∀ W, (Op.stringOp .add (txt (A ++ [32] ++ sgO pk ++ [32])) (txt B)).run Tryz.prog W = .ok (.string (txt (A ++ ([32] ++ (sgO pk ++ ([32] ++ B)))))) W := fun W => by
    have := str_add (A ++ [32] ++ sgO pk ++ [32]) B (by simp; omega) W
    rw [this]
    simp
  have D6 := br_add (A ++ ([32] ++ (sgO pk ++ ([32] ++ B)))) (by simp; omega)
  have D7 := rb_add (A ++ ([32] ++ (sgO pk ++ ([32] ++ B)))) (by simp; omega)
  have k1 : (pk == 1) = false := beq_eq_false_iff_ne.2 (by omega)
  have k2 : (pk == 2) = false := beq_eq_false_iff_ne.2 (by omega)
  have k3 : (pk == 3) = false := beq_eq_false_iff_ne.2 (by omega)
  have k13 : (pk == 13) = false := beq_eq_false_iff_ne.2 (by omega)
  unfold WnT at C1W HC2 ⊢
  unfold outB sdB
  dsimp only
  rw [if_pos rfl]
  clear h C1 C2 h4 h12 hsg
  cases o with
  | true =>
    rw [if_pos rfl]
    clear D6 D7
    generalize txt (A ++ ([32] ++ (sgO pk ++ ([32] ++ B)))) = Z5 at *
    generalize txt (A ++ [32] ++ sgO pk ++ [32]) = Z4 at *
    generalize txt (A ++ [32] ++ sgO pk) = Z3 at *
    generalize txt (A ++ [32]) = Z2 at *
    generalize txt ([110, 111, 116] ++ ([32] ++ A)) = Z1 at *
    generalize txt A = Z0 at *
    generalize txt B = ZB at *
    generalize txt (sgO pk) = ZS at *
    go_enter Tryz.func31, Tryz.ntmps31
    go_wp2_with fail
    refine (unhide C1W).mono ?_
    rintro e w1 ⟨rfl, hb1⟩
    obtain ⟨c0, _, _, _, hlt⟩ := part_keep (Kp.ofBelow hb1)
    have C2W := hide (unhide HC2 w1 (Kp.ofBelow hb1))
    have HK1 := hide (Kp.ofBelow hb1)
    have HB := hide ((unhide HB0).trans (hb1.mono (unhide HB0).size))
    clear C1W hb1 HB0 HC2
    go_wp2_with fail
    refine (unhide C2W).mono ?_
    rintro e w2 ⟨rfl, hb2⟩
    obtain ⟨d0, _, _, _, hlt2⟩ := part_keep ((unhide HK1).trans (Kp.ofBelow hb2) (by simp))
    have HB2 := hide ((unhide HB).trans (hb2.mono (unhide HB).size))
    clear C2W hb2 HB HK1 c0
    go_wp2_with fail
    refine (unhide SG _).mono ?_
    rintro e w3 ⟨rfl, hk3⟩
    have d3 := hk3.cell d0 (by simp)
    have HB3 := hide ((unhide HB2).trans (hk3.below (unhide HB2).size (by simp)))
    clear hk3 SG HB2 d0
    go_wp2
    exact bodyPost_ret (results_tmp2 rfl _ _ _) rfl ⟨rfl, unhide HB3⟩
  | false =>
    rw [if_neg (by simp)]
    generalize txt ([40, 32] ++ (A ++ ([32] ++ (sgO pk ++ ([32] ++ B))) ++ [32, 41])) = Z7 at *
    generalize txt ([40, 32] ++ (A ++ ([32] ++ (sgO pk ++ ([32] ++ B))))) = Z6 at *
    generalize txt (A ++ ([32] ++ (sgO pk ++ ([32] ++ B)))) = Z5 at *
    generalize txt (A ++ [32] ++ sgO pk ++ [32]) = Z4 at *
    generalize txt (A ++ [32] ++ sgO pk) = Z3 at *
    generalize txt (A ++ [32]) = Z2 at *
    generalize txt ([110, 111, 116] ++ ([32] ++ A)) = Z1 at *
    generalize txt A = Z0 at *
    generalize txt B = ZB at *
    generalize txt (sgO pk) = ZS at *
    go_enter Tryz.func31, Tryz.ntmps31
    go_wp2_with fail
    refine (unhide C1W).mono ?_
    rintro e w1 ⟨rfl, hb1⟩
    obtain ⟨c0, _, _, _, hlt⟩ := part_keep (Kp.ofBelow hb1)
    have C2W := hide (unhide HC2 w1 (Kp.ofBelow hb1))
    have HK1 := hide (Kp.ofBelow hb1)
    have HB := hide ((unhide HB0).trans (hb1.mono (unhide HB0).size))
    clear C1W hb1 HB0 HC2
    go_wp2_with fail
    refine (unhide C2W).mono ?_
    rintro e w2 ⟨rfl, hb2⟩
    obtain ⟨d0, _, _, _, hlt2⟩ := part_keep ((unhide HK1).trans (Kp.ofBelow hb2) (by simp))
    have HB2 := hide ((unhide HB).trans (hb2.mono (unhide HB).size))
    clear C2W hb2 HB HK1 c0
    go_wp2_with fail
    refine (unhide SG _).mono ?_
    rintro e w3 ⟨rfl, hk3⟩
    have d3 := hk3.cell d0 (by simp)
    have HB3 := hide ((unhide HB2).trans (hk3.below (unhide HB2).size (by simp)))
    clear hk3 SG HB2 d0
    go_wp2
    exact bodyPost_ret (results_tmp2 rfl _ _ _) rfl ⟨rfl, unhide HB3⟩
theorem written_tree {ad : Option Addr} (cap : Nat) (xs : List Pt) (hx : xs.length ≤ 200) (t : Ex) : t.wf → t.fine → (∀ q ∈ t.flat, q.nk) → t.flat.length ≤ 200 → ∀ (o : Bool) (pre rest : List Pt), xs = pre ++ (t.flat ++ rest) → ∀ w, PtsAt w ad xs →
    Calls Tryz.prog 31 #[.slice ad xs.length cap, .int .i64 (pre.length : Int), .bool o] w (WnT w (outB o (t.val wrv)) (pre.length + t.flat.length)) := by
  induction t with
  | lf p =>
    intro hw hf hn hl o pre rest hxs w h
    rw [Ex.flat, List.singleton_append] at hxs
    obtain ⟨hat, hp⟩ := mid_get pre p _ xs hxs
    have := written_leaf cap xs pre.length o hx hat (by rw [hp]; exact hf) (by rw [hp]; exact hn p (by simp [Ex.flat])) w h
    rw [hp] at this
    have e : outB o ((Ex.lf p).val wrv) = lfB p := by unfold outB sdB; show (if o = true then lfB p else if false = true then _ else lfB p) = _; cases o <;> rfl
    rw [e]
    exact this
  | un p a ih =>
    intro hw hf hn hl o pre rest hxs w h
    rw [Ex.flat, List.cons_append] at hxs
    obtain ⟨hat, hp⟩ := mid_get pre p _ xs hxs
    have hn2 : ∀ q ∈ a.flat, q.nk := fun q hq => hn q (by simp [Ex.flat, hq])
    have hl2 : a.flat.length + 1 ≤ 200 := by rw [Ex.flat, List.length_cons] at hl; exact hl
    have C1 := ih hw.2 hf.2.2 hn2 (by omega) false (pre ++ [p]) rest (by rw [hxs]; simp)
    rw [List.length_append, List.length_singleton] at C1
    have hz := a.wr_len hw.2 (a.fine_leaves hf.2.2) hn2
    have hz2 := sdB_bound (a.val wrv)
    have e0 : outB false (a.val wrv) = sdB (a.val wrv) := rfl
    rw [e0] at C1
    have := written_un cap xs pre.length (pre.length + 1 + a.flat.length) o (sdB (a.val wrv)) (by omega) hx hat (by rw [hp]; exact hf.1) C1 w h
    have ev : (Ex.un p a).val wrv = ([110, 111, 116] ++ ([32] ++ sdB (a.val wrv)), true) := by
      show (sgO p.kd ++ ([32] ++ sdB (a.val wrv)), true) = _
      rw [hf.1]
      rfl
    rw [ev]
    have el : pre.length + (Ex.un p a).flat.length = pre.length + 1 + a.flat.length := by rw [Ex.flat, List.length_cons]; omega
    rw [el]
    exact this
  | bi p a b iha ihb =>
    intro hw hf hn hl o pre rest hxs w h
    rw [Ex.flat, List.cons_append, List.append_assoc] at hxs
    obtain ⟨hat, hp⟩ := mid_get pre p _ xs hxs
    have hna : ∀ q ∈ a.flat, q.nk := fun q hq => hn q (by simp [Ex.flat, hq])
    have hnb : ∀ q ∈ b.flat, q.nk := fun q hq => hn q (by simp [Ex.flat, hq])
    have hl2 : a.flat.length + b.flat.length + 1 ≤ 200 := by rw [Ex.flat, List.length_cons, List.length_append] at hl; omega
    have C1 := iha hw.2.1 hf.2.2.2.1 hna (by omega) false (pre ++ [p]) (b.flat ++ rest) (by rw [hxs]; simp)
    have C2 := ihb hw.2.2 hf.2.2.2.2 hnb (by omega) false (pre ++ p :: a.flat) rest (by rw [hxs]; simp)
    rw [List.length_append, List.length_singleton] at C1
    have el2 : (pre ++ p :: a.flat).length = pre.length + 1 + a.flat.length := by rw [List.length_append, List.length_cons]; omega
    rw [el2] at C2
    have za := a.wr_len hw.2.1 (a.fine_leaves hf.2.2.2.1) hna
    have za2 := sdB_bound (a.val wrv)
    have zb := b.wr_len hw.2.2 (b.fine_leaves hf.2.2.2.2) hnb
    have zb2 := sdB_bound (b.val wrv)
    have ea : outB false (a.val wrv) = sdB (a.val wrv) := rfl
    have eb : outB false (b.val wrv) = sdB (b.val wrv) := rfl
    rw [ea] at C1
    rw [eb] at C2
    have := written_bi cap xs pre.length (pre.length + 1 + a.flat.length) (pre.length + 1 + a.flat.length + b.flat.length) o (sdB (a.val wrv)) (sdB (b.val wrv)) (by omega) (by omega) hx hat (by rw [hp]; exact hf.1) (by rw [hp]; exact hf.2.1) C1 C2 w h
    rw [hp] at this
    have el : pre.length + (Ex.bi p a b).flat.length = pre.length + 1 + a.flat.length + b.flat.length := by rw [Ex.flat, List.length_cons, List.length_append]; omega
    rw [el]
    exact this
set_option maxHeartbeats 1000000 in
set_option maxRecDepth 100000 in
theorem rWrite_any (ad : Option Addr) (cap : Nat) (xs : List Pt) (w : World) (hc : PtsAt w ad xs) (hok : ∀ p ∈ xs, p.ok) (hs : ∀ p ∈ xs, p.s.size ≤ 140737488351232 ∧ p.st.size ≤ 9223372036854775807) :
    Calls Tryz.prog 12 #[.slice ad xs.length cap] w fun e w' => e = .returned (.tuple #[.string (wrS xs), .int .i64 (if ckK xs = 0 then 110 else 0)]) ∧ Below w.heap.size w w' := by
  have CK := hide (rCheck_any ad cap xs w hc hs)
  by_cases h0 : ckK xs = 0
  · have hw : wrS xs = ⟨#[]⟩ := by unfold wrS; rw [if_pos h0]
    rw [h0, if_pos rfl] at CK
    rw [hw, if_pos h0]
    clear hc hok h0 hw hs
    go_enter Tryz.func12, Tryz.ntmps12
    go_wp2_with fail
    refine (unhide CK).mono ?_
    rintro e w1 ⟨rfl, hb⟩
    clear CK
    go_wp2
    exact bodyPost_ret (results_tmp2 rfl _ _ _) rfl ⟨rfl, hb⟩
  · obtain ⟨t, h1, h2, h3, h4, h5, h6⟩ := ckK_leaves h0
    have hfd : fdX wrv xs = some (t.val wrv) := by rw [h3]; exact fdX_flat wrv t h1
    have hw : wrS xs = txt (t.val wrv).1 := by unfold wrS; rw [if_neg h0, hfd]
    have hnk : ∀ q ∈ xs, q.nk := fun q hq => (hok q hq).2.1.2
    have WR := hide (fun W (hb : Below w.heap.size w W) => written_tree (ad := ad) cap xs h5 t h1 h2 (by rw [← h3]; exact hnk) (by rw [← h3]; exact h5) true [] [] (by rw [← h3]; simp) W (hc.kp (Kp.ofBelow hb)))
    rw [hw, if_neg h0]
    rw [if_neg h0] at CK
    unfold WnT outB at WR
    simp only [List.length_nil, if_true] at WR
    generalize 0 + t.flat.length = EE at *
    generalize ckK xs = ck at *
    generalize txt (t.val wrv).1 = L at *
    clear hc hok hw hnk h1 h2 h3 h4 h6 hfd hs
    go_enter Tryz.func12, Tryz.ntmps12
    go_wp2_with fail
    refine (unhide CK).mono ?_
    rintro e w1 ⟨rfl, hb⟩
    have WR2 := hide (unhide WR w1 hb)
    have HB := hide hb
    clear CK WR hb
    go_wp2_with fail
    refine (unhide WR2).mono ?_
    rintro e w2 ⟨rfl, hb2⟩
    have HB2 := hide ((unhide HB).trans (hb2.mono (unhide HB).size))
    clear WR2 hb2 HB
    go_wp2
    exact bodyPost_ret (results_tmp2 rfl _ _ _) rfl ⟨rfl, unhide HB2⟩
end Go.Proofs.YthipclehhcfahaaGreatDoor
namespace Go.Proofs.YthipclehhcfahaaGreatDoor
open Go.RowKit

theorem run_app_any {P : Program} {w : World} (t ty e : TypeId) (i : TypeInfo) (z : Value) (size bytes : Nat) (h1 : P.underlying t = some (.slice e)) (h2 : P.info? e = some i) (h3 : i.zero = some z) (h4 : i.size = size) (h5 : i.bytes = bytes) (h6 : z.cells.size = size) (h7 : 0 < size)
    {g2 n2 cap2 : Nat} {xs : List Value} (ho : w.ownsRow 0 e size (.slice (some ⟨g2, 0, none⟩) n2 cap2) n2 xs)
    (ad : Option Addr) (m c : Nat) (news : List Value) (hn : news.length = m * size) (hnone : ad = none → m = 0 ∧ c = 0) (hsp : ∀ a, ad = some a → a.spot = none) (hc : ∀ a, ad = some a → ∀ j u, news[j]? = some u → w.cell? (a.add j) = some u) (h1c : ∀ u ∈ news, u.oneCell' = true)
    (b1 : n2 + m ≤ maxLen) (b2 : (n2 + m) * bytes ≤ 140737488355328) :
    ∃ g cap w', (Builtin.append_ #[t, t] ty #[.slice (some ⟨g2, 0, none⟩) n2 cap2, .slice ad m c]).run P w = .ok (.slice (some ⟨g, 0, none⟩) (n2 + m) cap) w' ∧ w'.ownsRow 0 e size (.slice (some ⟨g, 0, none⟩) (n2 + m) cap) (n2 + m) (xs ++ news) ∧ w.grownBy w' (some g2) ∧ (g = g2 ∨ g = w.heap.size) := by
  have hcp : n2 ≤ cap2 := by
    obtain ⟨_, ⟨e, _⟩ | ⟨g, cp, cur, e, _, _, hn, _⟩⟩ := id ho
    · cases e
    · injection e with _ e2 e3; omega
  cases ad with
  | none =>
    obtain ⟨rfl, rfl⟩ := hnone rfl
    obtain rfl : news = [] := List.eq_nil_of_length_eq_zero (by omega)
    exact ⟨g2, cap2, w, by simpa using run_append_owned_none (P := P) (w := w) 0 t ty e i size h1 h2 _ _ _ ho, by simpa using ho, World.grownBy.refl _ _, Or.inl rfl⟩
  | some a =>
    obtain ⟨b, off, spot⟩ := a
    obtain rfl : spot = none := hsp _ rfl
    rcases Nat.eq_zero_or_pos m with h0 | hpos
    · subst h0
      obtain rfl : news = [] := List.eq_nil_of_length_eq_zero (by omega)
      have := run_append_room_cells (P := P) (w := w) t ty e i h1 h2 g2 0 n2 cap2 ⟨b, off, none⟩ 0 c [] (by simp) (fun j u hj => by simp at hj) (fun u hu => by cases hu) (by omega) (fun j hj => absurd hj (by simp)) (fun j hj => absurd hj (by simp))
      exact ⟨g2, cap2, w, by simpa [World.setCells] using this, by simpa using ho, World.grownBy.refl _ _, Or.inl rfl⟩
    · obtain ⟨g3, cap3, w', hr, r1, r2, r3, _⟩ := run_append_lies (P := P) (w := w) t ty 0 e i z size bytes h1 h2 h3 h4 h5 h6 h7 _ _ _ ho ⟨b, off, none⟩ m c news hn (hc _ rfl) h1c hpos b1 b2 (Nat.zero_le _) _ rfl
      refine ⟨g3, cap3, w', hr, r1, r2, ?_⟩
      rcases r3 with r3 | r3
      · exact Or.inl (by simpa [Value.ownBlock] using r3.symm)
      · exact Or.inr r3
/-- The same, as one step of a statement whose order is drawn. -/
theorem step_app_any {P : Program} {ops : Array Oper} {o : Oper} {a : Act} {w : World} {K : Act → World → Prop} {Q : Exit → Act → World → Prop} {E : Prop}
    (hg : o.guard = none) (s x : Operand) (t : TypeId) (hop : o.op = Op.call { callee := Callee.builtin Builtin.append, args := #[s, x], argTypes := #[t, t] })
    (e : TypeId) (i : TypeInfo) (z : Value) (size bytes : Nat) (h1 : P.underlying t = some (.slice e)) (h2 : P.info? e = some i) (h3 : i.zero = some z) (h4 : i.size = size) (h5 : i.bytes = bytes) (h6 : z.cells.size = size) (h7 : 0 < size)
    {g2 n2 cap2 : Nat} {xs : List Value} (hs : a.eval s = .slice (some ⟨g2, 0, none⟩) n2 cap2) (ho : w.ownsRow 0 e size (.slice (some ⟨g2, 0, none⟩) n2 cap2) n2 xs)
    (ad : Option Addr) (m c : Nat) (news : List Value) (hx : a.eval x = .slice ad m c) (hn : news.length = m * size) (hnone : ad = none → m = 0 ∧ c = 0) (hsp : ∀ a, ad = some a → a.spot = none) (hc : ∀ a, ad = some a → ∀ j u, news[j]? = some u → w.cell? (a.add j) = some u) (h1c : ∀ u ∈ news, u.oneCell' = true)
    (b1 : n2 + m ≤ maxLen) (b2 : (n2 + m) * bytes ≤ 140737488355328) (N : Nat) (hN : n2 + m = N)
    (hK : ∀ g cap w', w'.ownsRow 0 e size (.slice (some ⟨g, 0, none⟩) N cap) N (xs ++ news) → w.grownBy w' (some g2) → (g = g2 ∨ g = w.heap.size) → K (a.put o.dst (.slice (some ⟨g, 0, none⟩) N cap)) w') :
    if Region.wanted o (yielded ops a.tmps) = true then Oper.wp P o a w K Q else E := by
  subst hN
  have hw : Region.wanted o (yielded ops a.tmps) = true := by simp [Region.wanted, hg]
  rw [if_pos hw]
  obtain ⟨g, cap, w', hrun, r1, r2, r3⟩ := run_app_any (P := P) (w := w) t o.type e i z size bytes h1 h2 h3 h4 h5 h6 h7 ho ad m c news hn hnone hsp hc h1c b1 b2
  unfold Oper.wp
  simp [execOp, hop, resolve, invoke, builtin, hs, hx, hrun, Result.andThen]
  exact hK g cap w' r1 r2 r3
/-- append, by its run. -/
theorem wpList_app_run {P : Program} {ops : Array Oper} {rest : List Oper} {o : Oper} {a : Act} {w w' : World} {Q : Exit → Act → World → Prop} {v u1 u2 : Value} (hgd : o.guard = none) (s x : Operand) (t : TypeId)
    (ho : o.op = .call { callee := .builtin .append, args := #[s, x], argTypes := #[t, t] }) (hs : a.eval s = u1) (hx : a.eval x = u2) (hr : (Builtin.append_ #[t, t] o.type #[u1, u2]).run P w = .ok v w')
    (h : wpList P ops Q rest (a.put o.dst v) w') : wpList P ops Q (o :: rest) a w :=
  wpList_plain hgd fun _ hK => by
    unfold Oper.wp
    simp [execOp, ho, resolve, invoke, builtin, hs, hx, hr, Result.andThen]
    exact hK _ _ h
/-- What stays while a row of the call's own grows. -/
theorem kp_gr {wx W w5 : World} {g2 : Nat} (hk : Kp [] wx W) (hg : W.grownBy w5 (some g2)) (hle : wx.heap.size ≤ g2) : Kp [] wx w5 := hk.trans (Kp.of hg) (by simp; omega)
end Go.Proofs.YthipclehhcfahaaGreatDoor
namespace Go.Proofs.YthipclehhcfahaaGreatDoor
open Go.RowKit Go.Shelf

def stgA (out : List ByteArray) (p : Pt) : List ByteArray := if emptyB p.st || hasN out p.st then out else out ++ [p.st]
/-- The stages that are asked for, each once, in their order. -/
def stgL (x : List Pt) : List ByteArray := x.foldl stgA []
theorem stgL_take (x : List Pt) (k : Nat) (h : k < x.length) : stgL (x.take (k + 1)) = stgA (stgL (x.take k)) x[k] := by
  unfold stgL
  rw [List.take_succ_eq_append_getElem h, List.foldl_append]
  rfl
theorem stgA_len (out : List ByteArray) (p : Pt) : (stgA out p).length ≤ out.length + 1 := by
  unfold stgA
  split
  · omega
  · simp
theorem foldl_stg_len (x : List Pt) : ∀ out : List ByteArray, (x.foldl stgA out).length ≤ out.length + x.length := by
  induction x with
  | nil => intro out; simp
  | cons p r ih =>
    intro out
    have h1 := ih (stgA out p)
    have h2 := stgA_len out p
    rw [List.foldl_cons, List.length_cons]
    omega
theorem stgL_len (x : List Pt) : (stgL x).length ≤ x.length := by
  have := foldl_stg_len x []
  simpa [stgL] using this
theorem Ex.fine_st (t : Ex) (h : t.fine) : ∀ q ∈ t.flat, emptyB q.st = true ∨ isSg q.st = true := by
  induction t with
  | lf p =>
    intro q hq
    simp only [Ex.flat, List.mem_singleton] at hq
    subst hq
    rcases lfK_ne h with ⟨_, _, e⟩ | ⟨_, _, e⟩ | ⟨_, _, _, e, _⟩
    · rw [e]; exact Or.inl rfl
    · rw [e]; exact Or.inl rfl
    · rcases e with e | e
      · rw [e]; exact Or.inl rfl
      · exact Or.inr e
  | un p a ih =>
    intro q hq
    simp only [Ex.flat, List.mem_cons] at hq
    rcases hq with rfl | hq
    · rw [h.2.1]; exact Or.inl rfl
    · exact ih h.2.2 q hq
  | bi p a b iha ihb =>
    intro q hq
    simp only [Ex.flat, List.mem_cons, List.mem_append] at hq
    rcases hq with rfl | hq | hq
    · rw [h.2.2.1]; exact Or.inl rfl
    · exact iha h.2.2.2.1 q hq
    · exact ihb h.2.2.2.2 q hq
theorem isSg_size {s : ByteArray} (h : isSg s = true) : 0 < s.size ∧ s.size ≤ 32 := by
  unfold isSg at h
  simp only [Bool.and_eq_true, decide_eq_true_eq] at h
  exact ⟨h.1.1.1.1, h.1.1.1.2⟩
theorem ck_st {x : List Pt} (h : ckK x ≠ 0) : ∀ q ∈ x, (emptyB q.st = true ∨ isSg q.st = true) ∧ q.st.size ≤ 32 := by
  obtain ⟨t, _, h2, h3, _⟩ := ckK_leaves h
  intro q hq
  rw [h3] at hq
  have := t.fine_st h2 q hq
  refine ⟨this, ?_⟩
  rcases this with e | e
  · unfold emptyB at e; have : q.st.size = 0 := by simpa using e
    omega
  · exact (isSg_size e).2
/-- What Stages tells. -/
def stgS (x : List Pt) : List ByteArray := if ckK x = 0 then [] else stgL x
theorem stgS_len (x : List Pt) : (stgS x).length ≤ 200 := by
  unfold stgS
  split
  · simp
  · rename_i h
    obtain ⟨_, _, _, _, _, h5, _⟩ := ckK_leaves h
    have := stgL_len x
    omega
/-! Names in a row of the call's own. -/
def nmC (l : List ByteArray) : List Value := l.map Value.string
def OwnsW (B : Nat) (w : World) (v : Value) (l : List ByteArray) : Prop := w.ownsRow B 9 1 v l.length (nmC l)
theorem info_str : (Tryz.prog.info? 9).map (fun i => (i.zero, i.size, i.bytes)) = some (some (.string ⟨#[]⟩), 1, 16) := by kernel_rfl
theorem OwnsW.nil (B : Nat) (w : World) : OwnsW B w (.slice none 0 0) [] := World.ownsRow_nil _ _ _ _
theorem OwnsW.kp {B : Nat} {w w' : World} {v : Value} {l : List ByteArray} (h : OwnsW B w v l) (hk : Kp [] w w') : OwnsW B w' v l := row_kp h hk (by simp)
theorem OwnsW.at {B : Nat} {w : World} {v : Value} {l : List ByteArray} (h : OwnsW B w v l) : ∃ ad cp, v = .slice ad l.length cp ∧ NmsAt w ad l ∧ l.length ≤ cp := by
  obtain ⟨_, ⟨rfl, h0⟩ | ⟨g, cp, cur, rfl, _, _, hcap, _⟩⟩ := id h
  · refine ⟨none, 0, by rw [h0], fun hne => ?_, by omega⟩
    exact absurd (List.eq_nil_of_length_eq_zero h0) hne
  · have hl := World.ownsRow.lt h g rfl
    refine ⟨_, _, rfl, fun _ => ⟨g, 0, rfl, hl.2, fun i hi => ?_⟩, hcap⟩
    rw [Nat.zero_add, World.ownsRow.cellAt h i (by omega)]
    unfold nmC
    rw [List.getElem?_map, List.getElem?_eq_getElem hi]
    rfl
/-- append of one name. -/
theorem OwnsW.app {B : Nat} {w : World} {v : Value} {l : List ByteArray} (ho : OwnsW B w v l) (hB : B ≤ w.heap.size) (s : ByteArray) {g c : Nat} (hc : w.cell? ⟨g, 0, none⟩ = some (.string s)) (hl : l.length + 1 ≤ 1000000) (ty : TypeId) :
    ∃ g' cap w', (Builtin.append_ #[28, 28] ty #[v, .slice (some ⟨g, 0, none⟩) 1 c]).run Tryz.prog w = .ok (.slice (some ⟨g', 0, none⟩) (l.length + 1) cap) w' ∧ OwnsW B w' (.slice (some ⟨g', 0, none⟩) (l.length + 1) cap) (l ++ [s]) ∧ Below B w w' ∧ w.grownBy w' v.ownBlock := by
  obtain ⟨i0, hi, hz0, hz1, hz2⟩ := info_parts info_str
  obtain ⟨g', cap, w', hrun, r1, r2, _⟩ := run_append_lies (P := Tryz.prog) (w := w) 28 ty B 9 i0 (.string ⟨#[]⟩) 1 16 Tryz.underlying28 hi hz0 hz1 hz2 rfl (by decide) v l.length (nmC l) ho ⟨g, 0, none⟩ 1 c [.string s] rfl (fun j u hj => by
    match j, hj with
    | 0, hj => simp at hj; subst hj; exact hc) (by intro u hu; simp at hu; subst hu; rfl) (by omega) (by unfold maxLen; omega) (by omega) hB _ rfl
  refine ⟨g', cap, w', hrun, ?_, (Kp.of r2).below hB (fun k hk => ?_), r2⟩
  · unfold OwnsW nmC
    rw [List.length_append, List.map_append]
    exact r1
  · have : v.ownBlock = some k := by simpa using hk
    exact (World.ownsRow.lt ho k this).1
end Go.Proofs.YthipclehhcfahaaGreatDoor
