/-
  Nodes of patterns, plainly: where a match on its way can go behind an event, and which nodes can come out.
  Is a text empty?
  Stages: which stages an expression asks for, as the plain function has it.
-/
import Derived.Test.YtjijhefmbmdbeaaGreatDoorD20
import Derived.Test.YtjijhefmbmdbeaaGreatDoorD08
import Derived.Test.YtjijhefmbmdbeaaGreatDoorD15
import Derived.Test.YtjijhefmbmdbeaaGreatDoorD06
import Derived.Deep.QuietTactic
namespace Go.Proofs.YtjijhefmbmdbeaaGreatDoor
open Go.RowKit Go.Shelf

structure Nd where
  st : Int
  lp : Bool
  tk : Bool
theorem Nd.ext3 {a b : Nd} (h1 : a.st = b.st) (h2 : a.lp = b.lp) (h3 : a.tk = b.tk) : a = b := by
  obtain ⟨x, y, z⟩ := a
  obtain ⟨x', y', z'⟩ := b
  cases h1
  cases h2
  cases h3
  rfl
def Nd.c (n : Nd) : Array Value := #[.int .i64 n.st, .bool n.lp, .bool n.tk]
def zN : Nd := ⟨0, false, false⟩
def ndE (a b : Nd) : Bool := decide (a.st = b.st) && (a.lp == b.lp && a.tk == b.tk)
theorem ndE_iff (a b : Nd) : ndE a b = true ↔ a = b := by
  unfold ndE
  simp only [Bool.and_eq_true, decide_eq_true_eq, beq_iff_eq]
  exact ⟨fun h => Nd.ext3 h.1 h.2.1 h.2.2, fun h => by rw [h]; exact ⟨rfl, rfl, rfl⟩⟩
theorem ndE_self (a : Nd) : ndE a a = true := (ndE_iff a a).2 rfl
theorem ndE_no {a b : Nd} (h : a ≠ b) : ndE a b = false := by
  cases e : ndE a b with
  | true => exact absurd ((ndE_iff a b).1 e) h
  | false => rfl
/-- Does the stage at this place take many? How does it follow? -/
def mnAt (l : List Stg) (i : Nat) : Bool := match l[i]? with
  | some s => s.mn
  | none => false
def hwAt (l : List Stg) (i : Nat) : Int := match l[i]? with
  | some s => s.hw
  | none => 0
theorem mnAt_get {l : List Stg} {i : Nat} (h : i < l.length) : mnAt l i = l[i].mn := by unfold mnAt; rw [List.getElem?_eq_getElem h]
theorem hwAt_get {l : List Stg} {i : Nat} (h : i < l.length) : hwAt l i = l[i].hw := by unfold hwAt; rw [List.getElem?_eq_getElem h]
/-- The node behind an event that was taken into a stage (from 1 on). -/
def bgN (l : List Stg) (s : Nat) : Nd := ⟨(s : Int), mnAt l (s - 1), decide (s < l.length)⟩
def isS (l : List Stg) (s : Int) : Bool := decide (1 ≤ s) && decide (s ≤ (l.length : Int))
/-- May a node be? -/
def mayN (l : List Stg) (n : Nd) : Bool := isS l n.st && ((mnAt l (n.st.toNat - 1) || !n.lp) && (decide (n.st.toNat < l.length) || !n.tk))
def stay (h : Int) (b : Bool) : Bool := decide (h = 3) || (decide (h = 2) && !b)
/-- The node behind an event that was not taken, dead or not. -/
def psN (l : List Stg) (n : Nd) (lo ta : Bool) : Nd := ⟨n.st, n.lp && stay (hwAt l (n.st.toNat - 1)) lo, n.tk && stay (hwAt l n.st.toNat) ta⟩
def Nd.live (n : Nd) : Bool := n.lp || n.tk
structure Sps where
  lp : Nd
  tk : Nd
  wt : Nd
  cl : Bool
  ct : Bool
  cw : Bool
def Sps.c (s : Sps) : Array Value := #[.int .i64 s.lp.st, .bool s.lp.lp, .bool s.lp.tk, .int .i64 s.tk.st, .bool s.tk.lp, .bool s.tk.tk, .int .i64 s.wt.st, .bool s.wt.lp, .bool s.wt.tk, .bool s.cl, .bool s.ct, .bool s.cw]
def zS : Sps := ⟨zN, zN, zN, false, false, false⟩
/-- Where a match on its way stands behind an event. -/
def stpN (l : List Stg) (n : Nd) (lo ta : Bool) : Sps :=
  ⟨if (n.lp && lo) = true then bgN l n.st.toNat else zN, if (n.tk && ta) = true then bgN l (n.st.toNat + 1) else zN, if (psN l n lo ta).live = true then psN l n lo ta else zN, n.lp && lo, n.tk && ta, (psN l n lo ta).live⟩
/-- The three nodes that may come out, of those that can be. -/
def outs (s : Sps) : List Nd := (if s.cl = true then [s.lp] else []) ++ ((if s.ct = true then [s.tk] else []) ++ (if s.cw = true then [s.wt] else []))
def beh (l : List Stg) (n : Nd) : List Nd := outs (stpN l n true true) ++ (outs (stpN l n true false) ++ (outs (stpN l n false true) ++ outs (stpN l n false false)))
theorem outs_len (s : Sps) : (outs s).length ≤ 3 := by
  unfold outs
  simp only [List.length_append]
  have h1 : (if s.cl = true then [s.lp] else []).length ≤ 1 := by split <;> simp
  have h2 : (if s.ct = true then [s.tk] else []).length ≤ 1 := by split <;> simp
  have h3 : (if s.cw = true then [s.wt] else []).length ≤ 1 := by split <;> simp
  omega
theorem beh_len (l : List Stg) (n : Nd) : (beh l n).length ≤ 12 := by
  unfold beh
  simp only [List.length_append]
  have h1 := outs_len (stpN l n true true)
  have h2 := outs_len (stpN l n true false)
  have h3 := outs_len (stpN l n false true)
  have h4 := outs_len (stpN l n false false)
  omega
theorem beh_has (l : List Stg) (n : Nd) (lo ta : Bool) {x : Nd} (h : x ∈ outs (stpN l n lo ta)) : x ∈ beh l n := by
  unfold beh
  simp only [List.mem_append]
  cases lo <;> cases ta
  · exact Or.inr (Or.inr (Or.inr h))
  · exact Or.inr (Or.inr (Or.inl h))
  · exact Or.inr (Or.inl h)
  · exact Or.inl h
/-! Which nodes come out. -/
def ol (o : Bool) (h : Int) (b : Bool) : Bool := if b then o && (decide (h = 3) || decide (h = 2)) else !(o && decide (h = 3))
def rch (l : List Stg) (n : Nd) : Bool := isS l n.st && ((n.lp == mnAt l (n.st.toNat - 1) && n.tk == decide (n.st.toNat < l.length)) || (ol (mnAt l (n.st.toNat - 1)) (hwAt l (n.st.toNat - 1)) n.lp && (ol (decide (n.st.toNat < l.length)) (hwAt l n.st.toNat) n.tk && n.live)))
theorem isS_iff {l : List Stg} {s : Int} : isS l s = true ↔ 1 ≤ s ∧ s ≤ (l.length : Int) := by unfold isS; simp
theorem isS_nat {l : List Stg} {s : Nat} (h1 : 1 ≤ s) (h2 : s ≤ l.length) : isS l (s : Int) = true := isS_iff.2 ⟨by omega, by omega⟩
theorem rch_tk {l : List Stg} {s : Nat} (h1 : 1 ≤ s) (h2 : s ≤ l.length) : rch l (bgN l s) = true := by
  unfold rch bgN
  simp [isS_nat h1 h2]
theorem ol_begun (o : Bool) (h : Int) (lo : Bool) : ol o h (o && stay h lo) = true := by
  unfold ol stay
  generalize decide (h = 3) = a
  generalize decide (h = 2) = b
  cases o <;> cases a <;> cases b <;> cases lo <;> rfl
theorem ol_next (o : Bool) (h : Int) (lo : Bool) {x : Bool} (hx : ol o h x = true) : ol o h (x && stay h lo) = true := by
  revert hx
  unfold ol stay
  generalize decide (h = 3) = a
  generalize decide (h = 2) = b
  cases o <;> cases a <;> cases b <;> cases lo <;> cases x <;> simp
theorem ol_comes (o : Bool) (h : Int) {x : Bool} (hx : ol o h x = true) : (o && stay h (!x)) = x := by
  revert hx
  unfold ol stay
  generalize decide (h = 3) = a
  generalize decide (h = 2) = b
  cases o <;> cases a <;> cases b <;> cases x <;> simp
theorem ol_le (o : Bool) (h : Int) {x : Bool} (hx : ol o h x = true) : (o || !x) = true := by
  revert hx
  unfold ol
  generalize decide (h = 3) = a
  generalize decide (h = 2) = b
  cases o <;> cases a <;> cases b <;> cases x <;> simp
theorem rch_split {l : List Stg} {n : Nd} (h : rch l n = true) : isS l n.st = true ∧ ((n.lp = mnAt l (n.st.toNat - 1) ∧ n.tk = decide (n.st.toNat < l.length)) ∨ (ol (mnAt l (n.st.toNat - 1)) (hwAt l (n.st.toNat - 1)) n.lp = true ∧ ol (decide (n.st.toNat < l.length)) (hwAt l n.st.toNat) n.tk = true ∧ n.live = true)) := by
  unfold rch at h
  simp only [Bool.and_eq_true, Bool.or_eq_true, beq_iff_eq] at h
  exact h
theorem rch_mk {l : List Stg} {n : Nd} (h1 : isS l n.st = true) (h2 : ol (mnAt l (n.st.toNat - 1)) (hwAt l (n.st.toNat - 1)) n.lp = true) (h3 : ol (decide (n.st.toNat < l.length)) (hwAt l n.st.toNat) n.tk = true) (h4 : n.live = true) : rch l n = true := by
  unfold rch
  rw [h1, h2, h3, h4]
  simp
/-- What waits comes out again. -/
theorem rch_ps {l : List Stg} {n : Nd} (h : rch l n = true) (lo ta : Bool) (hl : (psN l n lo ta).live = true) : rch l (psN l n lo ta) = true := by
  obtain ⟨h1, h2⟩ := rch_split h
  refine rch_mk h1 ?_ ?_ hl
  · rcases h2 with ⟨e, _⟩ | ⟨e, _, _⟩
    · show ol _ _ (n.lp && stay _ lo) = true
      rw [e]
      exact ol_begun _ _ _
    · exact ol_next _ _ _ e
  · rcases h2 with ⟨_, e⟩ | ⟨_, e, _⟩
    · show ol _ _ (n.tk && stay _ ta) = true
      rw [e]
      exact ol_begun _ _ _
    · exact ol_next _ _ _ e
theorem rch_may {l : List Stg} {n : Nd} (h : rch l n = true) : mayN l n = true := by
  obtain ⟨h1, h2⟩ := rch_split h
  unfold mayN
  rw [h1]
  rcases h2 with ⟨e1, e2⟩ | ⟨e1, e2, _⟩
  · rw [e1, e2]
    cases mnAt l (n.st.toNat - 1) <;> cases decide (n.st.toNat < l.length) <;> rfl
  · rw [ol_le _ _ e1, ol_le _ _ e2]
    rfl
theorem may_split {l : List Stg} {n : Nd} (h : mayN l n = true) : isS l n.st = true ∧ (n.lp = true → mnAt l (n.st.toNat - 1) = true) ∧ (n.tk = true → n.st.toNat < l.length) := by
  unfold mayN at h
  simp only [Bool.and_eq_true, Bool.or_eq_true, Bool.not_eq_true', decide_eq_true_eq] at h
  refine ⟨h.1, fun e => ?_, fun e => ?_⟩
  · rcases h.2.1 with h' | h'
    · exact h'
    · rw [e] at h'; cases h'
  · rcases h.2.2 with h' | h'
    · exact h'
    · rw [e] at h'; cases h'
/-- What comes out of a step of a node that comes out, comes out. -/
theorem rch_out {l : List Stg} {n : Nd} (h : rch l n = true) (lo ta : Bool) {x : Nd} (hx : x ∈ outs (stpN l n lo ta)) : rch l x = true := by
  obtain ⟨h1, h2, h3⟩ := may_split (rch_may h)
  obtain ⟨g1, g2⟩ := isS_iff.1 h1
  unfold outs stpN at hx
  simp only [List.mem_append] at hx
  rcases hx with hx | hx | hx
  · split at hx
    · rename_i hc
      rw [List.mem_singleton] at hx
      subst hx
      exact rch_tk (by omega) (by omega)
    · cases hx
  · split at hx
    · rename_i hc
      rw [List.mem_singleton] at hx
      subst hx
      rw [Bool.and_eq_true] at hc
      have := h3 hc.1
      exact rch_tk (by omega) (by omega)
    · cases hx
  · split at hx
    · rename_i hc
      rw [List.mem_singleton] at hx
      subst hx
      exact rch_ps h lo ta hc
    · cases hx
theorem rch_beh {l : List Stg} {n : Nd} (h : rch l n = true) {x : Nd} (hx : x ∈ beh l n) : rch l x = true := by
  unfold beh at hx
  simp only [List.mem_append] at hx
  rcases hx with hx | hx | hx | hx
  · exact rch_out h _ _ hx
  · exact rch_out h _ _ hx
  · exact rch_out h _ _ hx
  · exact rch_out h _ _ hx
/-- Each that comes out is a beginning, or waits out of one. -/
theorem rch_comes {l : List Stg} {n : Nd} (h : rch l n = true) : n = bgN l n.st.toNat ∨ (n = psN l (bgN l n.st.toNat) (!n.lp) (!n.tk) ∧ n.live = true) := by
  obtain ⟨h1, h2⟩ := rch_split h
  obtain ⟨g1, _⟩ := isS_iff.1 h1
  have hn : ((n.st.toNat : Nat) : Int) = n.st := by omega
  rcases h2 with ⟨e1, e2⟩ | ⟨e1, e2, e3⟩
  · exact Or.inl (Nd.ext3 hn.symm e1 e2)
  · refine Or.inr ⟨?_, e3⟩
    unfold psN bgN
    dsimp only
    rw [hn]
    exact Nd.ext3 rfl (ol_comes _ _ e1).symm (ol_comes _ _ e2).symm
theorem rch_in {l : List Stg} {n : Nd} (h : rch l n = true) : n = bgN l n.st.toNat ∨ ∃ lo ta, n ∈ outs (stpN l (bgN l n.st.toNat) lo ta) := by
  rcases rch_comes h with e | ⟨e, hl⟩
  · exact Or.inl e
  · refine Or.inr ⟨!n.lp, !n.tk, ?_⟩
    unfold outs stpN
    rw [← e, hl]
    simp
/-- A set that holds all beginnings, and what comes out of its own, holds all that comes out. -/
theorem rch_closed {l : List Stg} {S : Nd → Prop} (hb : ∀ s, 1 ≤ s → s ≤ l.length → S (bgN l s)) (hc : ∀ n, S n → ∀ x ∈ beh l n, S x) {n : Nd} (h : rch l n = true) : S n := by
  obtain ⟨h1, _⟩ := rch_split h
  obtain ⟨g1, g2⟩ := isS_iff.1 h1
  have h0 := hb n.st.toNat (by omega) (by omega)
  rcases rch_in h with e | ⟨lo, ta, hx⟩
  · rw [e]; exact h0
  · exact hc _ h0 _ (beh_has _ _ _ _ hx)
/-! All that could be told, in order. -/
def four (s : Nat) : List Nd := [⟨(s : Int), true, true⟩, ⟨(s : Int), true, false⟩, ⟨(s : Int), false, true⟩, ⟨(s : Int), false, false⟩]
def allN : Nat → List Nd
  | 0 => []
  | k + 1 => allN k ++ four (k + 1)
theorem allN_len (k : Nat) : (allN k).length = 4 * k := by
  induction k with
  | zero => rfl
  | succ k ih => rw [allN, List.length_append, ih]; simp [four]; omega
theorem four_has (n : Nd) (s : Nat) (h : n.st = (s : Int)) : n ∈ four s := by
  obtain ⟨st, lp, tk⟩ := n
  dsimp only at h
  subst h
  cases lp <;> cases tk <;> simp [four]
theorem allN_has {n : Nd} {k : Nat} (h1 : 1 ≤ n.st) (h2 : n.st ≤ (k : Int)) : n ∈ allN k := by
  induction k with
  | zero => omega
  | succ k ih =>
    rw [allN, List.mem_append]
    by_cases h : n.st ≤ (k : Int)
    · exact Or.inl (ih h)
    · exact Or.inr (four_has n _ (by omega))
/-- The nodes that a pattern tells. -/
def ndsR (l : List Stg) : List Nd := (allN l.length).filter (rch l)
theorem ndsR_len (l : List Stg) : (ndsR l).length ≤ 4 * l.length := by
  unfold ndsR
  have := List.length_filter_le (rch l) (allN l.length)
  rw [allN_len] at this
  exact this
/-- As many unlike nodes as come out are at most four a stage. -/
theorem rch_few {l : List Stg} {S : List Nd} (hn : S.Nodup) (h : ∀ n ∈ S, rch l n = true) : S.length ≤ 4 * l.length := by
  have : S.length ≤ (allN l.length).length := List.Nodup.length_le_of_subset hn (fun n hs => by
    obtain ⟨h1, _⟩ := rch_split (h n hs)
    obtain ⟨g1, g2⟩ := isS_iff.1 h1
    exact allN_has g1 g2)
  rw [allN_len] at this
  exact this
end Go.Proofs.YtjijhefmbmdbeaaGreatDoor
namespace Go.Proofs.YtjijhefmbmdbeaaGreatDoor

theorem emp_toList (s : ByteArray) : s.toList.isEmpty = emptyB s := emp_list s
theorem emp_str (s : ByteArray) : (s.toList == ([] : List UInt8)) = emptyB s := by
  rw [toList_data]
  unfold emptyB
  rw [Bool.eq_iff_iff, beq_iff_eq, beq_iff_eq]
  exact List.length_eq_zero_iff.symm
end Go.Proofs.YtjijhefmbmdbeaaGreatDoor
namespace Go.Proofs.YtjijhefmbmdbeaaGreatDoor
open Go.RowKit Go.Shelf

set_option maxHeartbeats 2000000 in
set_option maxRecDepth 100000 in
theorem stages_any (ad : Option Addr) (cap : Nat) (xs : List Pt) (w : World) (hc : PtsAt w ad xs) (hT : TbE w) (hfit : ∀ p ∈ xs, p.fit) :
    Calls Tryz.prog 82 #[.slice ad xs.length cap] w fun e w' => ∃ v, e = .returned (.tuple #[v, .int .i64 (if ckK xs = 0 then 110 else 0)]) ∧ OwnsW w.heap.size w' v (stgS xs) ∧ Below w.heap.size w w' := by
  have CK := hide (check_any ad cap xs w hc hT hfit)
  by_cases h0 : ckK xs = 0
  · have hs : stgS xs = [] := by unfold stgS; rw [if_pos h0]
    rw [hs]
    rw [h0, if_pos rfl] at CK
    rw [if_pos h0]
    clear hc hT hfit h0 hs
    go_enter Tryz.func82, Tryz.ntmps82
    go_wp2_with fail
    refine (unhide CK).mono ?_
    rintro e w1 ⟨rfl, hb⟩
    clear CK
    go_wp2
    exact bodyPost_ret (results_tmp2 rfl _ _ _) rfl ⟨_, rfl, OwnsW.nil _ _, hb⟩
  · have hs : stgS xs = stgL xs := by unfold stgS; rw [if_neg h0]
    rw [hs]
    rw [if_neg h0] at CK
    rw [if_neg h0]
    have HST := hide (ck_st h0)
    obtain ⟨_, _, _, _, _, hx, _⟩ := ckK_leaves h0
    have HC := hide hc
    have HTK := hide (fun k (hk : k < xs.length) => stgL_take xs k hk)
    have HLN := hide (fun k => Nat.le_trans (stgL_len (xs.take k)) (by rw [List.length_take]; omega : (xs.take k).length ≤ 200))
    have HEN : Hid (stgL (xs.take xs.length) = stgL xs) := hide (by rw [List.take_length])
    clear hc hT hfit h0 hs
    generalize ckK xs = ck at *
    obtain ⟨n, hn⟩ : ∃ n, xs.length = n := ⟨_, rfl⟩
    have HN := hide hn
    rw [hn] at hx CK HEN ⊢
    clear hn
    go_enter Tryz.func82, Tryz.ntmps82
    go_wp2_with fail
    refine (unhide CK).mono ?_
    rintro e w1 ⟨rfl, hb1⟩
    have HB1 := hide hb1
    clear CK hb1
    go_wp2_with fail
    go_loopw [6, 19] (fun v i wr => ∃ (k : Nat) (a : Option Addr) (c NL : Nat), k ≤ n ∧ i = .int .i64 (k : Int) ∧ v = .slice a NL c ∧ NL = (stgL (xs.take k)).length ∧ Hid (OwnsW w.heap.size wr (.slice a NL c) (stgL (xs.take k))) ∧ Below w.heap.size w wr) (fun _ i _ => n - (intOf i).toNat)
    case atStart => exact ⟨0, none, 0, 0, Nat.zero_le _, rfl, rfl, rfl, hide (OwnsW.nil _ _), unhide HB1⟩
    case round =>
      obtain ⟨k, a, c, NL, hk, rfl, rfl, hNL, HO, hb⟩ := hrel
      by_cases hlt : k < n
      · have hkx : k < xs.length := by rw [unhide HN]; exact hlt
        have hli : (k : Int) < (n : Int) := by omega
        obtain ⟨b, off, rfl, hbl, x0, x1, x2, x3, x4⟩ := ((unhide HC).kp (Kp.ofBelow hb)).at k hkx
        have HSG := hide (unhide HST _ (List.getElem_mem hkx))
        have HNX := hide (unhide HTK k hkx)
        have hl2 := unhide HLN k
        unfold stgA at HNX
        clear HTK HLN HST HEN HC HB1
        generalize xs[k] = p at *
        obtain ⟨pk, pn, ps, pt, pf⟩ := p
        dsimp only at x0 x1 x2 x3 x4 HSG HNX
        have hb2 : Below w.heap.size w (wr.alloc (.cells #[.int .i64 pk, .int .i64 pn, .string ps, .string pt, .int .i64 pf] 86)) := hb.alloc hb.size _
        have ho2 := (unhide HO).kp (Kp.alloc wr (.cells #[.int .i64 pk, .int .i64 pn, .string ps, .string pt, .int .i64 pf] 86))
        have c3 : (wr.alloc (.cells #[.int .i64 pk, .int .i64 pn, .string ps, .string pt, .int .i64 pf] 86)).cell? ⟨wr.heap.size, 3, none⟩ = some (.string pt) := (CBox.new wr _ _).cell rfl
        generalize stgL (xs.take k) = L at *
        obtain ⟨a', c', hv, hnm, _⟩ := ho2.at
        injection hv with e1 e2 e3
        subst e1 e3
        have CT := hide (contains_any a c L pt _ (by omega) hnm)
        rw [← hNL] at CT
        have HB2 := hide hb2
        have HO2 := hide ho2
        have HNL := hide hNL
        have hwl : wr.heap.size < (wr.alloc (.cells #[.int .i64 pk, .int .i64 pn, .string ps, .string pt, .int .i64 pf] 86)).heap.size := by simp
        clear hb hb2 ho2 HO hnm hNL e2
        have g1 := emp_toList pt
        have g2 := emp_str pt
        cases hE : emptyB pt with
        | true =>
          rw [hE] at g1 g2
          rw [hE, Bool.true_or, if_pos rfl] at HNX
          clear hE CT
          go_wp2_with fail
          go_roundw
          case rel => exact ⟨k + 1, a, c, NL, by omega, by go_num, rfl, by rw [unhide HNX]; exact unhide HNL, by rw [unhide HNX]; exact HO2, unhide HB2⟩
          case measure => simp [intOf]; omega
        | false =>
          rw [hE] at g1 g2
          rw [hE, Bool.false_or] at HNX
          clear hE
          cases hH : hasN L pt with
          | true =>
            rw [hH] at CT HNX
            rw [if_pos rfl] at HNX
            clear hH
            go_wp2_with fail
            refine (unhide CT).mono ?_
            rintro e w4 ⟨rfl, rfl⟩
            clear CT
            go_wp2
            go_roundw
            case rel => exact ⟨k + 1, a, c, NL, by omega, by go_num, rfl, by rw [unhide HNX]; exact unhide HNL, by rw [unhide HNX]; exact HO2, unhide HB2⟩
            case measure => simp [intOf]; omega
          | false =>
            rw [hH] at CT HNX
            rw [if_neg (by simp)] at HNX
            clear hH
            have hpz : pt.size ≤ 32 := (unhide HSG).2
            have CL := hide (fun W => clone_any pt W (by omega))
            go_wp2_with fail
            refine (unhide CT).mono ?_
            rintro e w4 ⟨rfl, rfl⟩
            clear CT
            generalize wr.alloc (.cells #[.int .i64 pk, .int .i64 pn, .string ps, .string pt, .int .i64 pf] 86) = W2 at *
            go_wp2_with fail
            refine (unhide CL _).mono ?_
            rintro e w5 ⟨rfl, hb5⟩
            have k5 := (Kp.ofBelow hb5).trans (Kp.alloc w5 (.cells #[.string pt] 9)) (by simp)
            have hb6 := (unhide HB2).trans (k5.below (unhide HB2).size (by simp))
            have ho6 := (unhide HO2).kp k5
            obtain ⟨g', cap', w', hrun, hO', hbw, _⟩ := OwnsW.app (c := 1) ho6 hb6.size pt (g := w5.heap.size) ((CBox.new w5 _ _).cell rfl) (by omega) 68
            rw [← unhide HNL] at hrun hO'
            have HRUN := hide hrun
            have HO' := hide hO'
            have HBW := hide (hb6.trans hbw)
            clear hrun hO' hbw hb6 ho6 k5 hb5 CL
            dsimp only
            go_wp2_with (at_builtin; refine wpList_app_run rfl _ _ _ rfl rfl rfl (unhide HRUN) ?_)
            go_roundw
            case rel => exact ⟨k + 1, _, cap', NL + 1, by omega, by go_num, rfl, by rw [unhide HNX, List.length_append, ← unhide HNL]; rfl, by rw [unhide HNX]; exact HO', unhide HBW⟩
            case measure => simp [intOf]; omega
      · obtain rfl : k = n := by omega
        have HE := unhide HEN
        rw [HE] at HO
        clear HE HEN HTK HLN HST HC HB1 hNL
        go_wp2
        exact bodyPost_ret (results_tmp2 rfl _ _ _) rfl ⟨_, rfl, unhide HO, hb⟩
end Go.Proofs.YtjijhefmbmdbeaaGreatDoor
