/-
  ExprTruths: whole, and the law's own join.
  ExprTruths, plainly: a not, an and, an or of conditions.
  Read: any text is read as the plain function has it.
-/
import Derived.Test.YthipclehhcfahaaGreatDoorGt28
import Derived.Test.YthipclehhcfahaaGreatDoorGt31
namespace Go.Proofs.YthipclehhcfahaaGreatDoor
open Go.RowKit Go.Shelf

set_option maxHeartbeats 1000000 in
set_option maxRecDepth 100000 in
theorem whole_any (ad : Option Addr) (cap : Nat) (xs : List Pt) (w : World) (hc : PtsAt w ad xs) (hT : TbE w) (hfit : ∀ p ∈ xs, p.fit) :
    Calls Tryz.prog 23 #[.slice ad xs.length cap] w fun e w' => e = .returned (.bool (ckK xs == 3)) ∧ Below w.heap.size w w' := by
  have CK := hide (check_any ad cap xs w hc hT hfit)
  clear hc hT hfit
  generalize ckK xs = ck at *
  by_cases h0 : ck = 0
  · subst h0
    rw [if_pos rfl] at CK
    go_enter Tryz.func23, Tryz.ntmps23
    go_wp2_with fail
    refine (unhide CK).mono ?_
    rintro e w1 ⟨rfl, hb⟩
    clear CK
    go_wp2
    go_ret
    exact ⟨rfl, hb⟩
  · rw [if_neg h0] at CK
    go_enter Tryz.func23, Tryz.ntmps23
    go_wp2_with fail
    refine (unhide CK).mono ?_
    rintro e w1 ⟨rfl, hb⟩
    clear CK
    go_wp2
    go_ret
    exact ⟨rfl, hb⟩
/-- Rows of parts that lie there, not empty, not too long. -/
structure PR1 where
  ad : Option Addr
  c : Nat
  x : List Pt
def PsAt (w : World) (gb : Nat) (Ls : List PR1) : Prop := gb < w.heap.size ∧ ∀ i (h : i < Ls.length), w.cell? ⟨gb, i, none⟩ = some (.slice Ls[i].ad Ls[i].x.length Ls[i].c) ∧ PtsAt w Ls[i].ad Ls[i].x ∧ Ls[i].x ≠ [] ∧ Ls[i].x.length ≤ 200
theorem PsAt.kp {w w' : World} {gb : Nat} {Ls : List PR1} (h : PsAt w gb Ls) (hk : Kp [] w w') : PsAt w' gb Ls := ⟨Nat.lt_of_lt_of_le h.1 hk.size, fun i hi => by
  obtain ⟨h1, h2, h3⟩ := h.2 i hi
  exact ⟨hk.cell h1 (by simp), h2.kp hk, h3⟩⟩
def catP (Ls : List PR1) : List Pt := Ls.flatMap (·.x)
theorem catP_len (Ls : List PR1) (h : ∀ i (h : i < Ls.length), Ls[i].x.length ≤ 200) : (catP Ls).length ≤ 200 * Ls.length := by
  induction Ls with
  | nil => simp [catP]
  | cons a r ih =>
    have h0 := h 0 (by simp)
    have h1 := ih (fun i hi => h (i + 1) (by simpa using hi))
    have e : catP (a :: r) = a.x ++ catP r := by unfold catP; rw [List.flatMap_cons]
    rw [e, List.length_append, List.length_cons]
    simp only [List.getElem_cons_zero] at h0
    omega
theorem catP_next (Ls : List PR1) (k : Nat) (h : k < Ls.length) : catP (Ls.take (k + 1)) = catP (Ls.take k) ++ Ls[k].x := by
  unfold catP
  rw [List.take_succ_eq_append_getElem h, List.flatMap_append]
  simp
set_option maxHeartbeats 2000000 in
set_option maxRecDepth 100000 in
theorem join1_any (op : Int) (gb cb : Nat) (Ls : List PR1) (w : World) (h : PsAt w gb Ls) (h2 : Ls.length ≤ 2) :
    Calls Tryz.prog 24 #[.int .i64 op, .slice (some ⟨gb, 0, none⟩) Ls.length cb] w fun e w' => ∃ v, e = .returned v ∧ OwnsP w.heap.size w' v (opP op :: catP Ls) ∧ Below w.heap.size w w' := by
  have HP := hide h
  have HCL := hide (fun k (hk : k ≤ Ls.length) => show (catP (Ls.take k)).length ≤ 400 from by
    have := catP_len (Ls.take k) (fun i hi => by rw [List.getElem_take]; exact (h.2 i (by rw [List.length_take] at hi; omega)).2.2.2)
    rw [List.length_take] at this
    omega)
  have HCN := hide (fun k hk => catP_next Ls k hk)
  have HCE : Hid (catP (Ls.take Ls.length) = catP Ls) := hide (by rw [List.take_length])
  have hgb := h.1
  clear h
  obtain ⟨n, hn⟩ : ∃ n, Ls.length = n := ⟨_, rfl⟩
  have HN := hide hn
  rw [hn] at h2 HCE HCL ⊢
  clear hn
  have o0 : OwnsP w.heap.size (w.alloc (.cells #[.int .i64 op, .int .i64 0, .string ⟨#[]⟩, .string ⟨#[]⟩, .int .i64 0] 53)) (.slice (some ⟨w.heap.size, 0, none⟩) 1 1) [opP op] := OwnsP.one w (opP op)
  have HO := hide o0
  have HB := hide ((Below.refl w.heap.size w).alloc (Nat.le_refl _) (.cells #[.int .i64 op, .int .i64 0, .string ⟨#[]⟩, .string ⟨#[]⟩, .int .i64 0] 53))
  clear o0
  go_enter Tryz.func24, Tryz.ntmps24
  go_wp2_with fail
  generalize w.alloc (.cells #[.int .i64 op, .int .i64 0, .string ⟨#[]⟩, .string ⟨#[]⟩, .int .i64 0] 53) = W0 at *
  go_loopw [5, 13] (fun v i wr => ∃ k g cap : Nat, k ≤ n ∧ i = .int .i64 (k : Int) ∧ v = .slice (some ⟨g, 0, none⟩) (1 + (catP (Ls.take k)).length) cap ∧ Hid (OwnsP w.heap.size wr (.slice (some ⟨g, 0, none⟩) (1 + (catP (Ls.take k)).length) cap) (opP op :: catP (Ls.take k))) ∧ Below w.heap.size w wr) (fun _ i _ => n - (intOf i).toNat)
  case atStart => exact ⟨0, w.heap.size, 1, Nat.zero_le _, rfl, rfl, by simpa [catP] using HO, unhide HB⟩
  case round =>
    obtain ⟨k, g, cap, hk, rfl, rfl, HOR, hb⟩ := hrel
    by_cases hlt : k < n
    · have hkl : k < Ls.length := by rw [unhide HN]; exact hlt
      have hkb := Kp.ofBelow hb
      obtain ⟨c0, hat, hne, hln⟩ := ((unhide HP).kp hkb).2 k hkl
      obtain ⟨b, off, hae, hx9⟩ := id (hat hne)
      clear hx9
      have hc4 := unhide HCL k hk
      have hcn := unhide HCN k hkl
      rw [hae] at hat c0
      obtain ⟨g', cap', w', hrun, hO', hg'⟩ := run_app_parts (c := Ls[k].c) (ty := 22) (unhide HOR) (by rw [List.length_cons]; omega) hb.size hat (by rw [List.length_cons]; omega)
      have hL : 1 + (catP (Ls.take k)).length + Ls[k].x.length = 1 + (catP (Ls.take (k + 1))).length := by rw [hcn, List.length_append]; omega
      rw [List.cons_append, ← hcn, hL] at hO'
      rw [hL] at hrun
      have HO' := hide hO'
      have HB' : Hid (Below w.heap.size w w') := hide (hb.trans ((Kp.of hg').below hb.size (by simpa using (unhide HOR).blk.1)))
      have hli : (k : Int) < (n : Int) := by omega
      clear hO' hL hcn hat hg' hb hkb hae HOR hc4 hne hln
      obtain ⟨NL', hNL⟩ : ∃ q, 1 + (catP (Ls.take (k + 1))).length = q := ⟨_, rfl⟩
      rw [hNL] at hrun
      have HNL := hide hNL
      clear hNL
      generalize 1 + (catP (Ls.take k)).length = NL at *
      generalize Ls[k].x.length = XL at *
      generalize Ls[k].c = XC at *
      have HRUN := hide hrun
      clear hrun
      go_wp2_with (at_builtin; refine wpList_app_run rfl _ _ _ rfl rfl rfl (unhide HRUN) ?_)
      go_roundw
      case rel => exact ⟨k + 1, g', cap', by omega, by go_num, by rw [unhide HNL], HO', unhide HB'⟩
      case measure => simp [intOf]; omega
    · obtain rfl : k = n := by omega
      rw [unhide HCE] at HOR ⊢
      clear HCL HCN
      go_wp2
      go_ret
      exact ⟨_, rfl, unhide HOR, hb⟩
end Go.Proofs.YthipclehhcfahaaGreatDoor
namespace Go.Proofs.YthipclehhcfahaaGreatDoor
open Go.RowKit

theorem hdE_zero {x : List Pt} {M : Mo} (h : hdE x M = 0) : ckK x = 3 ∧ M.ns.length = M.la.length ∧ hasS M.ns x = true := by
  unfold hdE at h
  split at h
  · cases h
  · rename_i h1
    split at h
    · cases h
    · rename_i h2
      simp only [not_or, Bool.not_eq_false] at h2
      exact ⟨by simpa using h1, by simpa using h2.1, h2.2⟩
theorem hdE_of {x : List Pt} {M : Mo} (h : ckK x = 3) : hdE x M = 0 ∨ hdE x M = 5 := by
  unfold hdE
  rw [if_neg (by rw [h]; decide)]
  split
  · exact Or.inr rfl
  · exact Or.inl rfl
theorem hd_tree {x : List Pt} {M : Mo} (h : hdE x M = 0) : ∃ t : Ex, t.wf ∧ x = t.flat ∧ hdB x M = (t.val (vlv M)).t := by
  obtain ⟨h1, h2, h3⟩ := hdE_zero h
  obtain ⟨t, t1, _, t3, _⟩ := ckK_leaves (x := x) (by rw [h1]; decide)
  obtain ⟨_, v, e2, e3⟩ := hold_ok h1 h2 h3
  rw [t3, fdX_flat _ t t1] at e2
  cases e2
  exact ⟨t, t1, t3, e3⟩
theorem hd_of_tree {t : Ex} {M : Mo} (hw : t.wf) (h : ckK t.flat = 3) (h1 : M.ns.length = M.la.length) (h2 : hasS M.ns t.flat = true) : hdE t.flat M = 0 ∧ hdB t.flat M = (t.val (vlv M)).t := by
  obtain ⟨e1, v, e2, e3⟩ := hold_ok h h1 h2
  rw [fdX_flat _ t hw] at e2
  cases e2
  exact ⟨e1, e3⟩
theorem hasS_op (ns : List ByteArray) (k : Int) (x : List Pt) : hasS ns (opP k :: x) = hasS ns x := by
  unfold hasS
  rw [List.all_cons]
  rfl
theorem hasS_app (ns : List ByteArray) (x y : List Pt) : hasS ns (x ++ y) = (hasS ns x && hasS ns y) := by
  unfold hasS
  rw [List.all_append]
theorem hd_not {x : List Pt} {M : Mo} (h : hdE x M = 0) (hz : ckK (opP 13 :: x) = 3) : hdE (opP 13 :: x) M = 0 ∧ hdB (opP 13 :: x) M = !hdB x M := by
  obtain ⟨_, h2, h3⟩ := hdE_zero h
  obtain ⟨t, t1, t2, t3⟩ := hd_tree h
  have e : opP 13 :: x = (Ex.un (opP 13) t).flat := by rw [Ex.flat, t2]
  have hw : (Ex.un (opP 13) t).wf := ⟨rfl, t1⟩
  have := hd_of_tree (M := M) hw (by rw [← e]; exact hz) h2 (by rw [← e, hasS_op]; exact h3)
  rw [e, t3]
  exact this
theorem hd_two {x y : List Pt} {M : Mo} (k : Int) (hk : sds k = 2) (h : hdE x M = 0) (h' : hdE y M = 0) (hz : ckK (opP k :: (x ++ y)) = 3) : ∃ a b : Vl, a.t = hdB x M ∧ b.t = hdB y M ∧ hdE (opP k :: (x ++ y)) M = 0 ∧ hdB (opP k :: (x ++ y)) M = (opV k a b).t := by
  obtain ⟨_, h2, h3⟩ := hdE_zero h
  obtain ⟨_, _, h4⟩ := hdE_zero h'
  obtain ⟨t, t1, t2, t3⟩ := hd_tree h
  obtain ⟨u, u1, u2, u3⟩ := hd_tree h'
  have e : opP k :: (x ++ y) = (Ex.bi (opP k) t u).flat := by rw [Ex.flat, t2, u2]
  have hw : (Ex.bi (opP k) t u).wf := ⟨hk, t1, u1⟩
  have := hd_of_tree (M := M) hw (by rw [← e]; exact hz) h2 (by rw [← e, hasS_op, hasS_app, h3, h4]; rfl)
  refine ⟨t.val (vlv M), u.val (vlv M), t3.symm, u3.symm, ?_⟩
  rw [e]
  exact this
theorem hd_and {x y : List Pt} {M : Mo} (h : hdE x M = 0) (h' : hdE y M = 0) (hz : ckK (opP 11 :: (x ++ y)) = 3) : hdE (opP 11 :: (x ++ y)) M = 0 ∧ hdB (opP 11 :: (x ++ y)) M = (hdB x M && hdB y M) := by
  obtain ⟨a, b, e1, e2, e3, e4⟩ := hd_two 11 rfl h h' hz
  exact ⟨e3, by rw [e4, ← e1, ← e2]; rfl⟩
theorem hd_or {x y : List Pt} {M : Mo} (h : hdE x M = 0) (h' : hdE y M = 0) (hz : ckK (opP 12 :: (x ++ y)) = 3) : hdE (opP 12 :: (x ++ y)) M = 0 ∧ hdB (opP 12 :: (x ++ y)) M = (hdB x M || hdB y M) := by
  obtain ⟨a, b, e1, e2, e3, e4⟩ := hd_two 12 rfl h h' hz
  exact ⟨e3, by rw [e4, ← e1, ← e2]; rfl⟩
/-- The five that are made of two conditions, and what they must tell. -/
def truZ (x y : List Pt) (i : Nat) : List Pt := if i = 0 then opP 13 :: x else if i = 1 then opP 11 :: (x ++ y) else if i = 2 then opP 11 :: (y ++ x) else if i = 3 then opP 12 :: (x ++ y) else opP 12 :: (y ++ x)
def truW (a b : Bool) (i : Nat) : Bool := if i = 0 then !a else if i ≤ 2 then a && b else a || b
theorem tru_ok {x y : List Pt} {M : Mo} (h : hdE x M = 0) (h' : hdE y M = 0) (i : Nat) (hi : i < 5) (hz : ckK (truZ x y i) = 3) : hdE (truZ x y i) M = 0 ∧ hdB (truZ x y i) M = truW (hdB x M) (hdB y M) i := by
  rcases (show i = 0 ∨ i = 1 ∨ i = 2 ∨ i = 3 ∨ i = 4 by omega) with rfl | rfl | rfl | rfl | rfl
  · exact hd_not h hz
  · exact hd_and h h' hz
  · obtain ⟨e1, e2⟩ := hd_and h' h hz
    exact ⟨e1, e2.trans (Bool.and_comm _ _)⟩
  · exact hd_or h h' hz
  · obtain ⟨e1, e2⟩ := hd_or h' h hz
    exact ⟨e1, e2.trans (Bool.or_comm _ _)⟩
theorem truZ_ok {x y : List Pt} (hx : ∀ p ∈ x, p.fit) (hy : ∀ p ∈ y, p.fit) (i : Nat) : ∀ p ∈ truZ x y i, p.fit := by
  have h0 : ∀ k, (opP k).fit := fun k => show (txt []).size ≤ _ from Nat.zero_le _
  have hc : ∀ k (l : List Pt), (∀ p ∈ l, p.fit) → ∀ p ∈ opP k :: l, p.fit := fun k l hl p hp => by
    rcases List.mem_cons.1 hp with rfl | hp
    · exact h0 k
    · exact hl p hp
  have ha : ∀ (l m : List Pt), (∀ p ∈ l, p.fit) → (∀ p ∈ m, p.fit) → ∀ p ∈ l ++ m, p.fit := fun l m hl hm p hp => by
    rcases List.mem_append.1 hp with hp | hp
    · exact hl p hp
    · exact hm p hp
  unfold truZ
  split
  · exact hc _ _ hx
  · split
    · exact hc _ _ (ha _ _ hx hy)
    · split
      · exact hc _ _ (ha _ _ hy hx)
      · split
        · exact hc _ _ (ha _ _ hx hy)
        · exact hc _ _ (ha _ _ hy hx)
end Go.Proofs.YthipclehhcfahaaGreatDoor
namespace Go.Proofs.YthipclehhcfahaaGreatDoor
open Go.RowKit Go.Shelf

theorem OwnsK.low {B : Nat} {w : World} {v : Value} {l : List Tk} (h : OwnsK B w v l) (hl : l ≠ []) : TksLow w.heap.size w v l := by
  obtain ⟨ad, cp, rfl, ha, _⟩ := h.at
  obtain ⟨b, off, rfl, hlt, hc⟩ := ha hl
  exact ⟨b, off, cp, rfl, hlt, hc⟩
/-- What Read tells. -/
def RdT (B : Nat) (o : RO) (e : Ending) (w' : World) : Prop := ∃ v, e = .returned (.tuple #[v, .agg #[.int .i64 o.at_, .int .i64 o.c]]) ∧ OwnsP B w' v o.x
theorem RdT.nil {B : Nat} {o : RO} {a c : Int} {w' : World} (h : o = ⟨[], a, c⟩) : RdT B o (.returned (.tuple #[.slice none 0 0, .agg #[.int .i64 a, .int .i64 c]])) w' := by
  subst h
  exact ⟨_, rfl, OwnsP.nil _ _⟩
theorem RdT.parts {B : Nat} {o : RO} {x : List Pt} {v : Value} {w' : World} (h : o = ⟨x, 0, 0⟩) (ho : OwnsP B w' v x) : RdT B o (.returned (.tuple #[v, .agg #[.int .i64 0, .int .i64 0]])) w' := by
  subst h
  exact ⟨v, rfl, ho⟩
theorem tk_sz (s : ByteArray) (ts : List Tk) (h : tsR s = .good ts) : ∀ t ∈ ts ++ [endZ s.size], t.s.size ≤ 140737488351232 := by
  rcases tsR_code s with ⟨ts', h1, h2, _⟩ | ⟨_, hc⟩
  · rw [h] at h1
    cases h1
    intro t ht
    rcases List.mem_append.1 ht with h1 | h1
    · have := ((wrOk_iff t).1 ((toks_ok _ 0 0 ts h2 (by omega)).2 t h1)).1
      omega
    · simp only [List.mem_singleton] at h1
      subst h1
      have : (endZ s.size).s.size = 0 := rfl
      omega
  · rw [h] at hc
    exact absurd rfl hc
/-- Two faults beside one another: one is written. -/
theorem rd_flt {a b : Nat} {w : World} (ha : FBox a w) (hb : FBox b w) (hne : a ≠ b) (x y : Value) : (((w.setCell ⟨b, 0, none⟩ x).setCell ⟨b, 1, none⟩ y).cell? ⟨b, 0, none⟩ = some x ∧ ((w.setCell ⟨b, 0, none⟩ x).setCell ⟨b, 1, none⟩ y).cell? ⟨b, 1, none⟩ = some y) ∧ FBox a ((w.setCell ⟨b, 0, none⟩ x).setCell ⟨b, 1, none⟩ y) :=
  ⟨two_cells (hb.two x y), CBox.kp (CBox.kp ha (Kp.set _ _ _ _) (by simpa using hne)) (Kp.set _ _ _ _) (by simpa using hne)⟩
/-- Writing a fault touches no row of parts. -/
theorem OwnsP.flt {B b : Nat} {w : World} {v : Value} {l : List Pt} (h : OwnsP B w v l) (hb : FBox b w) (x y : Value) : OwnsP B ((w.setCell ⟨b, 0, none⟩ x).setCell ⟨b, 1, none⟩ y) v l := by
  refine row_kp (F := [b]) h ((Kp.set w b 0 x).trans (Kp.set (w.setCell ⟨b, 0, none⟩ x) b 1 y) (by simp)) (fun g hg => ?_)
  have := row_ne h hb (by decide)
  rw [hg] at this
  simpa using this
set_option maxHeartbeats 4000000 in
set_option maxRecDepth 100000 in
theorem eread_any (s : ByteArray) (w : World) (hT : TbE w) (hs : s.size ≤ 9223372036854775807) :
    Calls Tryz.prog 22 #[.string s] w fun e w' => RdT w.heap.size (rdO s) e w' ∧ Below w.heap.size w w' := by
  have TK := tokens_any s (w.alloc (.cells #[.int .i64 0, .int .i64 0] 47)) (hT.alloc _).tok hs
  have hf0 : FBox w.heap.size (w.alloc (.cells #[.int .i64 0, .int .i64 0] 47)) := CBox.new w _ _
  have hl0 := hf0.lt
  have hb0 : Below w.heap.size w (w.alloc (.cells #[.int .i64 0, .int .i64 0] 47)) := (Below.refl _ _).alloc (Nat.le_refl _) _
  cases hR : tsR s with
  | bad k c =>
    have hc : (c == 0) = false := by
      rcases tsR_code s with ⟨ts, h1, _, _⟩ | ⟨_, h2⟩
      · rw [hR] at h1; cases h1
      · rw [hR] at h2; simpa [tsC] using h2
    have HPB : Hid (∀ W, RdT w.heap.size (rdO s) (.returned (.tuple #[.slice none 0 0, .agg #[.int .i64 (k : Int), .int .i64 c]])) W) := hide (fun W => RdT.nil (by unfold rdO; rw [hR]))
    rw [hR] at TK
    have HTK : Hid (Calls Tryz.prog 38 #[.string s] (w.alloc (.cells #[.int .i64 0, .int .i64 0] 47)) fun e w' => ∃ ad n cp, e = .returned (.tuple #[.slice ad n cp, .agg #[.int .i64 (k : Int), .int .i64 c]]) ∧ FBox w.heap.size w' ∧ Below w.heap.size w w') := hide (TK.mono fun e w' ⟨v, h1, h2, h3⟩ => by
      obtain ⟨ad, cp, rfl, _⟩ := h2.at
      exact ⟨ad, _, cp, h1, hf0.below h3 hl0, hb0.trans (h3.mono (by simp))⟩)
    clear TK hR hf0 hb0 hT hl0
    go_enter Tryz.func22, Tryz.ntmps22
    go_wp2_with fail
    refine (unhide HTK).mono ?_
    rintro e w1 ⟨ad, n, cp, rfl, fb1, hb1⟩
    have q1 : CBox w1.heap.size #[.int .i64 (k : Int), .int .i64 c] 47 (w1.alloc (.cells #[.int .i64 (k : Int), .int .i64 c] 47)) := CBox.new w1 _ _
    have fb2 : FBox w.heap.size (w1.alloc (.cells #[.int .i64 (k : Int), .int .i64 c] 47)) := CBox.kp fb1 (Kp.alloc _ _) (by simp)
    have hl1 := fb1.lt
    obtain ⟨c0, c1⟩ := two_cells q1
    obtain ⟨f0, f1, fz0, fz1⟩ := fb2.cells
    have HF := hide fb2
    have HB := hide (hb1.alloc (by omega) (.cells #[.int .i64 (k : Int), .int .i64 c] 47))
    clear fb1 fb2 hb1 q1 HTK
    go_wp2_with fail
    generalize w1.alloc (.cells #[.int .i64 (k : Int), .int .i64 c] 47) = W at *
    generalize w1.heap.size = G at *
    go_region
    go_wp2
    have q2 : CBox w.heap.size #[.int .i64 (k : Int), .int .i64 c] 47 (((W.setCell ⟨w.heap.size, 0, none⟩ (.int .i64 (k : Int))).setCell ⟨w.heap.size, 1, none⟩ (.int .i64 c)).drew) := (unhide HF).two _ _
    obtain ⟨z0, z1⟩ := two_cells q2
    exact bodyPost_ret (v := .tuple #[.slice none 0 0, .agg #[.int .i64 (k : Int), .int .i64 c]]) (by simp [results, Tryz.results22, go_sem, z0, z1]) rfl ⟨unhide HPB _, (two_below (unhide HB) (Nat.le_refl _) _ _).drew⟩
  | good ts =>
    have hne : ts ++ [endZ s.size] ≠ [] := by simp
    have hsz := tk_sz s ts hR
    have hok := tsL_ok s
    have hlen := tsL_len s
    have hRO : rdO s = rdG s.size ts := by unfold rdO; rw [hR]
    rw [hR] at TK hok hlen
    have e1 : tsL s.size (.good ts) = ts ++ [endZ s.size] := rfl
    have e2 : tsA (.good ts) = 0 := rfl
    have e3 : tsC (.good ts) = 0 := rfl
    rw [e1, e2, e3] at TK
    rw [e1] at hok hlen
    clear e1 e2 e3
    have hE := endd_snoc ts s.size
    have hRG : rdG s.size ts = match psR (ts ++ [endZ s.size]) with
      | .bad q => ⟨[], hdPl q, 110⟩
      | .good x q => if ckK x = 0 then ⟨[], 0, 110⟩ else if hdKd q = 0 then ⟨x, 0, 0⟩ else ⟨[], hdPl q, 110⟩ := rfl
    have HRO := hide (hRO.trans hRG)
    clear hRO hRG hR
    generalize ts ++ [endZ s.size] = L at *
    have HTK : Hid (Calls Tryz.prog 38 #[.string s] (w.alloc (.cells #[.int .i64 0, .int .i64 0] 47)) fun e w' => ∃ b off cp, e = .returned (.tuple #[.slice (some ⟨b, off, none⟩) L.length cp, .agg #[.int .i64 0, .int .i64 0]]) ∧ FBox w.heap.size w' ∧ Below w.heap.size w w' ∧ TksLow w'.heap.size w' (.slice (some ⟨b, off, none⟩) L.length cp) L) := hide (TK.mono fun e w' ⟨v, h1, h2, h3⟩ => by
      obtain ⟨b, off, cp, rfl, hlt, hc⟩ := h2.low hne
      exact ⟨b, off, cp, h1, hf0.below h3 hl0, hb0.trans (h3.mono (by simp)), ⟨b, off, cp, rfl, hlt, hc⟩⟩)
    have HTb := hide hT
    have HSZ := hide hsz
    have HOK := hide hok
    have HE := hide hE
    clear TK hf0 hb0 hT hl0 hsz hok hE hne
    go_enter Tryz.func22, Tryz.ntmps22
    go_wp2_with fail
    refine (unhide HTK).mono ?_
    rintro e w1 ⟨b, off, cp, rfl, fb1, hb1, ht1⟩
    have q1 : CBox w1.heap.size #[.int .i64 0, .int .i64 0] 47 (w1.alloc (.cells #[.int .i64 0, .int .i64 0] 47)) := CBox.new w1 _ _
    have fb2 : FBox w.heap.size (w1.alloc (.cells #[.int .i64 0, .int .i64 0] 47)) := CBox.kp fb1 (Kp.alloc _ _) (by simp)
    have hl1 := fb1.lt
    have hb2 := hb1.alloc (by omega) (.cells #[.int .i64 0, .int .i64 0] 47)
    have ht2 : TksLow (w1.alloc (.cells #[.int .i64 0, .int .i64 0] 47)).heap.size (w1.alloc (.cells #[.int .i64 0, .int .i64 0] 47)) (.slice (some ⟨b, off, none⟩) L.length cp) L := (ht1.below ((Below.refl _ _).alloc (Nat.le_refl _) _)).mono (by simp)
    have hT2 := (unhide HTb).below hb2 (unhide HTb).low
    have PA := parse_any (.slice (some ⟨b, off, none⟩) L.length cp) L _ ht2 hT2 (by omega) (unhide HSZ) (unhide HE) (unhide HOK)
    have hl2 : w1.heap.size < (w1.alloc (.cells #[.int .i64 0, .int .i64 0] 47)).heap.size := by simp
    obtain ⟨c0, c1⟩ := two_cells q1
    have hlW := hb2.size
    have HL : Hid (∀ w3, Below (w1.alloc (.cells #[.int .i64 0, .int .i64 0] 47)).heap.size (w1.alloc (.cells #[.int .i64 0, .int .i64 0] 47)) w3 → FBox w.heap.size w3 ∧ FBox w1.heap.size w3 ∧ Hid (Below w.heap.size w w3) ∧ Hid (TksLow w1.heap.size w3 (.slice (some ⟨b, off, none⟩) L.length cp) L)) := hide (fun w3 hb3 => ⟨fb2.below hb3 fb2.lt, FBox.below q1 hb3 hl2, hide (hb2.trans (hb3.mono hlW)), hide (ht1.below (((Below.refl _ _).alloc (Nat.le_refl _) _).trans (hb3.mono (by simp))))⟩)
    have HPA := hide PA
    have hend := (pRd_ok (mRd 0 L) 0 0 [] L (unhide HE)).1
    have hP0 : psR L = pRd (mRd 0 L) 0 0 [] L := rfl
    rw [← hP0] at hend
    clear fb1 hb1 ht1 HTK HTb HSZ HOK fb2 hb2 ht2 hT2 PA q1 hP0 HE
    go_wp2_with fail
    refine (unhide HPA).mono ?_
    rintro e w3 ⟨hPs, hb3⟩
    obtain ⟨fb3, fd3, HB, HT3⟩ := unhide HL w3 hb3
    have hl3 : w1.heap.size < w3.heap.size := fd3.lt
    clear HPA HL hb3 c0 c1
    cases hP : psR L with
    | bad q =>
      cases q with
      | nil => rw [hP] at hend; exact absurd rfl hend.1.ne
      | cons t r =>
        rw [hP] at hPs
        obtain rfl := hPs
        have HPB : Hid (∀ W, RdT w.heap.size (rdO s) (.returned (.tuple #[.slice none 0 0, .agg #[.int .i64 t.pl, .int .i64 110]])) W) := hide (fun W => RdT.nil (by rw [unhide HRO, hP]; rfl))
        obtain ⟨f0, f1, fz0, fz1⟩ := fd3.cells
        obtain ⟨A, hA⟩ : ∃ A, t.pl = A := ⟨_, rfl⟩
        rw [hA] at HPB
        have hret : Ending.returned (.tuple #[.slice none 0 0, .int .i64 0, .agg #[.int .i64 (hdPl (t :: r)), .int .i64 110]]) = .returned (.tuple #[.slice none 0 0, .int .i64 0, .agg #[.int .i64 A, .int .i64 110]]) := by rw [← hA]; rfl
        rw [hret]
        have HF := hide (rd_flt fb3 fd3 (by omega) (.int .i64 A) (.int .i64 110))
        have HB5 := hide (two_below (unhide HB) (show w.heap.size ≤ w1.heap.size by omega) (.int .i64 A) (.int .i64 110))
        clear hret hA hP hend HT3 fb3 fd3 HB
        go_wp2_with fail
        generalize (w3.setCell ⟨w1.heap.size, 0, none⟩ (.int .i64 A)).setCell ⟨w1.heap.size, 1, none⟩ (.int .i64 110) = W at *
        obtain ⟨⟨c0, c1⟩, fbW⟩ := unhide HF
        obtain ⟨g0, g1, gz0, gz1⟩ := fbW.cells
        have hlt := fbW.lt
        have HFW := hide fbW
        clear fbW HF f0 f1 fz0 fz1
        generalize w1.heap.size = G at *
        go_region
        go_wp2
        have q2 : CBox w.heap.size #[.int .i64 A, .int .i64 110] 47 (((W.setCell ⟨w.heap.size, 0, none⟩ (.int .i64 A)).setCell ⟨w.heap.size, 1, none⟩ (.int .i64 110)).drew) := (unhide HFW).two _ _
        obtain ⟨z0, z1⟩ := two_cells q2
        exact bodyPost_ret (v := .tuple #[.slice none 0 0, .agg #[.int .i64 A, .int .i64 110]]) (by simp [results, Tryz.results22, go_sem, z0, z1]) rfl ⟨unhide HPB _, (two_below (unhide HB5) (Nat.le_refl _) _ _).drew⟩
    | good x q =>
      rw [hP] at hPs hend
      unfold PsT at hPs
      dsimp only at hPs
      by_cases h0 : ckK x = 0
      · rw [if_pos h0] at hPs
        obtain rfl := hPs
        have HPB : Hid (∀ W, RdT w.heap.size (rdO s) (.returned (.tuple #[.slice none 0 0, .agg #[.int .i64 0, .int .i64 110]])) W) := hide (fun W => RdT.nil (by rw [unhide HRO, hP]; dsimp only; rw [if_pos h0]))
        obtain ⟨f0, f1, fz0, fz1⟩ := fd3.cells
        have HF := hide (rd_flt fb3 fd3 (by omega) (.int .i64 0) (.int .i64 110))
        have HB5 := hide (two_below (unhide HB) (show w.heap.size ≤ w1.heap.size by omega) (.int .i64 0) (.int .i64 110))
        clear hP hend HT3 fb3 fd3 HB h0
        go_wp2_with fail
        generalize (w3.setCell ⟨w1.heap.size, 0, none⟩ (.int .i64 0)).setCell ⟨w1.heap.size, 1, none⟩ (.int .i64 110) = W at *
        obtain ⟨⟨c0, c1⟩, fbW⟩ := unhide HF
        obtain ⟨g0, g1, gz0, gz1⟩ := fbW.cells
        have hlt := fbW.lt
        have HFW := hide fbW
        clear fbW HF f0 f1 fz0 fz1
        generalize w1.heap.size = G at *
        go_region
        go_wp2
        have q2 : CBox w.heap.size #[.int .i64 0, .int .i64 110] 47 (((W.setCell ⟨w.heap.size, 0, none⟩ (.int .i64 0)).setCell ⟨w.heap.size, 1, none⟩ (.int .i64 110)).drew) := (unhide HFW).two _ _
        obtain ⟨z0, z1⟩ := two_cells q2
        exact bodyPost_ret (v := .tuple #[.slice none 0 0, .agg #[.int .i64 0, .int .i64 110]]) (by simp [results, Tryz.results22, go_sem, z0, z1]) rfl ⟨unhide HPB _, (two_below (unhide HB5) (Nat.le_refl _) _ _).drew⟩
      · rw [if_neg h0] at hPs
        obtain ⟨v, k, rfl, hkl, hq, ho⟩ := hPs
        obtain ⟨ad, cx, rfl, _, _⟩ := ho.at
        obtain ⟨f0, f1, fz0, fz1⟩ := fd3.cells
        have HF := hide (rd_flt fb3 fd3 (by omega) (.int .i64 0) (.int .i64 0))
        have HB5 := hide (two_below (unhide HB) (show w.heap.size ≤ w1.heap.size by omega) (.int .i64 0) (.int .i64 0))
        have HO5 : Hid (OwnsP w.heap.size ((w3.setCell ⟨w1.heap.size, 0, none⟩ (.int .i64 0)).setCell ⟨w1.heap.size, 1, none⟩ (.int .i64 0)) (.slice ad x.length cx) x) := hide ((ho.mono hlW).flt fd3 _ _)
        cases q with
        | nil => exact absurd rfl hend.1.ne
        | cons t r =>
          obtain ⟨hk, hlt, _⟩ := drop_at hq
          obtain ⟨b', off', cap', e1, hlt2, hc⟩ := (unhide HT3).below (two_below (Below.refl _ _) (Nat.le_refl w1.heap.size) (.int .i64 0) (.int .i64 0))
          cases e1
          obtain ⟨d0, _, _, d3⟩ := hc k hk
          rw [hlt] at d0 d3
          have HPB : Hid (∀ W, OwnsP w.heap.size W (.slice ad x.length cx) x → t.kd = 0 → RdT w.heap.size (rdO s) (.returned (.tuple #[.slice ad x.length cx, .agg #[.int .i64 0, .int .i64 0]])) W) := hide (fun W hoW hk => RdT.parts (by rw [unhide HRO, hP]; dsimp only; rw [if_neg h0, if_pos (show hdKd (t :: r) = 0 from hk)]) hoW)
          have HPN : Hid (∀ W, t.kd ≠ 0 → RdT w.heap.size (rdO s) (.returned (.tuple #[.slice none 0 0, .agg #[.int .i64 t.pl, .int .i64 110]])) W) := hide (fun W hk => RdT.nil (by rw [unhide HRO, hP]; dsimp only; rw [if_neg h0, if_neg (show ¬ hdKd (t :: r) = 0 from hk)]; rfl))
          obtain ⟨tkd, ts, tn, tpl⟩ := t
          dsimp only at d0 d3 HPB HPN
          have hkL : (k : Int) < (L.length : Int) := by omega
          have HD := hide (And.intro d0 d3)
          clear hc hlt hq hP hend HT3 fb3 fd3 HB h0 ho d0 d3
          by_cases hz : tkd = 0
          · subst hz
            have HPB2 : Hid (∀ W, OwnsP w.heap.size W (.slice ad x.length cx) x → RdT w.heap.size (rdO s) (.returned (.tuple #[.slice ad x.length cx, .agg #[.int .i64 0, .int .i64 0]])) W) := hide (fun W h => unhide HPB W h rfl)
            clear HPB HPN
            obtain ⟨d0, d3⟩ := unhide HD
            obtain ⟨⟨c0, c1⟩, fbW⟩ := unhide HF
            obtain ⟨g0, g1, gz0, gz1⟩ := fbW.cells
            have hltW := fbW.lt
            have HFW := hide fbW
            clear fbW HF HD
            go_wp2
            have q2 : CBox w.heap.size #[.int .i64 0, .int .i64 0] 47 ((((w3.setCell ⟨w1.heap.size, 0, none⟩ (.int .i64 0)).setCell ⟨w1.heap.size, 1, none⟩ (.int .i64 0)).setCell ⟨w.heap.size, 0, none⟩ (.int .i64 0)).setCell ⟨w.heap.size, 1, none⟩ (.int .i64 0)) := (unhide HFW).two _ _
            obtain ⟨z0, z1⟩ := two_cells q2
            exact bodyPost_ret (v := .tuple #[.slice ad x.length cx, .agg #[.int .i64 0, .int .i64 0]]) (by simp [results, Tryz.results22, go_sem, z0, z1]) rfl ⟨unhide HPB2 _ ((unhide HO5).flt (unhide HFW) _ _), two_below (unhide HB5) (Nat.le_refl _) _ _⟩
          · have hz2 : (tkd == 0) = false := beq_eq_false_iff_ne.2 hz
            have HPN2 : Hid (∀ W, RdT w.heap.size (rdO s) (.returned (.tuple #[.slice none 0 0, .agg #[.int .i64 tpl, .int .i64 110]])) W) := hide (fun W => unhide HPN W hz)
            clear HPB HPN
            obtain ⟨d0, d3⟩ := unhide HD
            obtain ⟨⟨c0, c1⟩, fbW⟩ := unhide HF
            obtain ⟨g0, g1, gz0, gz1⟩ := fbW.cells
            have hltW := fbW.lt
            have HFW := hide fbW
            clear fbW HF HD
            go_wp2_with fail
            generalize (w3.setCell ⟨w1.heap.size, 0, none⟩ (.int .i64 0)).setCell ⟨w1.heap.size, 1, none⟩ (.int .i64 0) = W at *
            clear f0 f1 fz0 fz1
            generalize w1.heap.size = G at *
            go_region
            go_wp2
            have q2 : CBox w.heap.size #[.int .i64 tpl, .int .i64 110] 47 (((W.setCell ⟨w.heap.size, 0, none⟩ (.int .i64 tpl)).setCell ⟨w.heap.size, 1, none⟩ (.int .i64 110)).drew) := (unhide HFW).two _ _
            obtain ⟨z0, z1⟩ := two_cells q2
            exact bodyPost_ret (v := .tuple #[.slice none 0 0, .agg #[.int .i64 tpl, .int .i64 110]]) (by simp [results, Tryz.results22, go_sem, z0, z1]) rfl ⟨unhide HPN2 _, (two_below (unhide HB5) (Nat.le_refl _) _ _).drew⟩
end Go.Proofs.YthipclehhcfahaaGreatDoor
