/-
  Links: a packet is taken.
  SameTexts of two slices that read the same texts returns true.
  A number from 0 to n - 1: the plain fact.
  Links: the chapter's example; a number from 0 to n - 1.
-/
import Derived.Test.YtiomngpfolkgpaaL17
import Derived.Test.YtiomngpfolkgpaaL14
import Derived.Deep.QuietTactic
import Derived.BigQuiet
import Derived.Test.YtiomngpfolkgpaaL01
import Derived.Test.YtiomngpfolkgpaaL06
namespace Go.Proofs.Ytiomngpfolkgpaa
open Go.RowKit Lk

theorem ltE_none {r : Rcv} {p : ByteArray} (h : lrD p = none) : ltE r p = 3 ∧ ltR r p = r ∧ ltO r p = [] ∧ ltA r p = ⟨#[]⟩ := by
  have e : ltE r p = 3 := by unfold ltE; rw [h]
  refine ⟨e, ?_, ?_, ?_⟩
  · unfold ltR; rw [if_neg (by rw [e]; decide)]
  · unfold ltO; rw [if_neg (by rw [e]; decide)]
  · unfold ltA; rw [if_neg (by rw [e]; decide)]
theorem ltE_stale {r : Rcv} {p : ByteArray} {e n : Int} {s : ByteArray} (h : lrD p = some (e, n, s)) (he : e ≠ r.ep) : ltE r p = 190 ∧ ltR r p = r ∧ ltO r p = [] ∧ ltA r p = ⟨#[]⟩ := by
  have e : ltE r p = 190 := by unfold ltE; rw [h]; dsimp only; rw [if_pos he]
  refine ⟨e, ?_, ?_, ?_⟩
  · unfold ltR; rw [if_neg (by rw [e]; decide)]
  · unfold ltO; rw [if_neg (by rw [e]; decide)]
  · unfold ltA; rw [if_neg (by rw [e]; decide)]
theorem ltE_ok {r : Rcv} {p : ByteArray} {n : Int} {s : ByteArray} (h : lrD p = some (r.ep, n, s)) : ltE r p = 0 ∧ ltR r p = lgR (lkR r n.toNat s) ∧ ltO r p = lgO (lkR r n.toNat s) ∧ ltA r p = ackB r.ep ((lgR (lkR r n.toNat s)).next : Int) := by
  have e : ltE r p = 0 := by unfold ltE; rw [h]; dsimp only; rw [if_neg (by simp)]
  have k : ltK r p = lkR r n.toNat s := by unfold ltK; rw [h]; dsimp only; rw [if_pos e]
  have q : ltR r p = lgR (lkR r n.toNat s) := by unfold ltR; rw [if_pos e, k]
  refine ⟨e, q, ?_, ?_⟩
  · unfold ltO; rw [if_pos e, k]
  · unfold ltA; rw [if_pos e, q]
theorem lkR_ep (r : Rcv) (n : Nat) (s : ByteArray) : (lkR r n s).ep = r.ep := by unfold lkR; split <;> rfl
theorem lgR_ep (r : Rcv) : (lgR r).ep = r.ep := rfl
theorem rc_step {B b q : Nat} {w w' : World} {r r' : Rcv} (h : RcV w b q r) (hB : B ≤ b) (hq : B ≤ q) (h' : RcV w' b q r') (hk : Kp [b, q] w w') : RcAt B w' b r' ∧ Ko rcO B w w' := by
  refine ⟨⟨q, h', hB, hq⟩, Ko.of hk (fun k hm _ => ?_)⟩
  simp only [List.mem_cons, List.not_mem_nil, or_false] at hm
  rcases hm with rfl | rfl
  · exact ⟨hB, _, h.box, rfl⟩
  · obtain ⟨es, c, hc⟩ := h.map.is
    exact ⟨hq, _, hc, rfl⟩
set_option maxHeartbeats 8000000 in
set_option maxRecDepth 100000 in
theorem lTake_any (B b : Nat) (r : Rcv) (p : ByteArray) (w : World) (h : RcAt B w b r) (hok : ROk r) (hp : p.size ≤ 9223372036854775807) :
    Calls Try.prog 17 #[.pointer (some ⟨b, 0, none⟩), .string p] w fun e w' => ∃ v, e = .returned (.tuple #[v, .string (ltA r p), .int .i64 (ltE r p)]) ∧ TxO w.heap.size w' v (ltO r p) ∧ RcAt B w' b (ltR r p) ∧ Ko rcO B w w' := by
  have RD := hide (lrD_any p w hp)
  obtain ⟨q, hv, hB, hq⟩ := h
  have HH : Hid (∀ w', Kp [] w w' → RcAt B w' b r ∧ Ko rcO B w w') := hide (fun w' hk => rc_step hv hB hq (hv.kp hk (by simp) (by simp)) (hk.mono (by simp)))
  cases hr : lrD p with
  | none =>
    rw [hr] at RD
    obtain ⟨e1, e2, e3, e4⟩ := ltE_none (r := r) hr
    rw [e1, e2, e3, e4]
    clear hv hok e1 e2 e3 e4 hr
    simp only [dEp, dNo, dTx, Option.isSome] at RD
    go_enter Try.func17, Try.ntmps17
    go_wp2_with fail
    refine (unhide RD).mono ?_
    rintro r w1 ⟨rfl, k1⟩
    have K1 := hide (unhide HH _ ((Kp.ofBelow k1).trans (Kp.alloc w1 (.cells #[.int .i64 0, .int .i64 0, .string ⟨#[]⟩] 72)) (by simp)))
    clear k1 HH RD
    go_wp2
    go_ret3
    exact ⟨_, rfl, TxO.nil _ _, unhide K1⟩
  | some x =>
    obtain ⟨e, n, s⟩ := x
    rw [hr] at RD
    obtain ⟨b0, b1, b2, b3, b4⟩ := lrD_bd hr
    obtain ⟨N, rfl⟩ : ∃ N : Nat, n = (N : Int) := ⟨n.toNat, by omega⟩
    simp only [dEp, dNo, dTx, Option.isSome] at RD
    have KK : Hid (∀ w1, Below w.heap.size w w1 → Kp [] w (w1.alloc (.cells #[.int .i64 e, .int .i64 (N : Int), .string s] 72))) := hide (fun w1 k1 => (Kp.ofBelow k1).trans (Kp.alloc w1 _) (by simp))
    have CE : Hid (∀ W, Kp [] w W → W.cell? ⟨b, 0, none⟩ = some (.int .i64 r.ep)) := hide (fun W hk => (hv.box.kp hk (by simp)).cell rfl)
    by_cases h1 : e = r.ep
    · subst h1
      obtain ⟨e1, e2, e3, e4⟩ := ltE_ok hr
      rw [Int.toNat_natCast] at e2 e3 e4
      rw [e1, e2, e3, e4]
      have ok1 := hok.lkR N s (by omega) b0
      have ok2 := ok1.lgR
      have KE := hide (fun W (hk : Kp [] w W) => lKeep_any b q r r.ep N s W (hv.kp hk (by simp) (by simp)) hok)
      have TE := hide (fun W (h : RcV W b q (lkR r N s)) => lTell_any b q _ W h ok1)
      have AE := hide (fun W (h : RcV W b q (lgR (lkR r N s))) => lAckR_any b q _ W h ok2)
      rw [lgR_ep, lkR_ep] at AE
      have FI : Hid (∀ W5 W6 W7 v, Kp [q] w W5 → Kp [b, q] W5 W6 → RcV W6 b q (lgR (lkR r N s)) → TxO W5.heap.size W6 v (lgO (lkR r N s)) → Kp [] W6 W7 → TxO w.heap.size W7 v (lgO (lkR r N s)) ∧ RcAt B W7 b (lgR (lkR r N s)) ∧ Ko rcO B w W7) := hide (fun W5 W6 W7 v h5 h6 h7 h8 h9 => ⟨(h8.lower h5.size).kp h9 (by simp), rc_step hv hB hq (h7.kp h9 (by simp) (by simp)) (((h5.mono (G := [b, q]) (by simp)).trans h6 (fun _ hx => Or.inl hx)).trans h9 (by simp))⟩)
      clear hv hok e1 e2 e3 e4 hr ok1 ok2 HH
      generalize ackB r.ep ((lgR (lkR r N s)).next : Int) = D at *
      generalize lgR (lkR r N s) = r2 at *
      generalize lgO (lkR r N s) = ts at *
      generalize lkR r N s = r1 at *
      go_enter Try.func17, Try.ntmps17
      go_wp2_with fail
      refine (unhide RD).mono ?_
      rintro r' w1 ⟨rfl, k1⟩
      go_upto_region 2 with fail
      obtain ⟨W, hW⟩ : ∃ W, W = w1.alloc (.cells #[.int .i64 r.ep, .int .i64 (N : Int), .string s] 72) := ⟨_, rfl⟩
      have KW := hide (unhide KK w1 k1)
      have pb : CBox w1.heap.size #[.int .i64 r.ep, .int .i64 (N : Int), .string s] 72 W := by rw [hW]; exact CBox.new _ _ _
      rw [← hW] at KW ⊢
      have p0 := pb.cell (i := 0) (v := .int .i64 r.ep) rfl
      have a0 := unhide CE W (unhide KW)
      have PB := hide pb
      clear hW pb k1 KK RD
      go_wp2
      go_quiet (fail)
      go_upto_region 6 with fail
      obtain ⟨W4, hW4⟩ : ∃ W4, W4 = W.drewN nq := ⟨_, rfl⟩
      have k4 : Kp [] W W4 := by rw [hW4]; exact Kp.drewQ _ _
      rw [← hW4]
      have KW4 := hide ((unhide KW).trans k4 (by simp))
      have pb4 := (unhide PB).kp k4 (by simp)
      have p0 := pb4.cell (i := 0) (v := .int .i64 r.ep) rfl
      have p1 := pb4.cell (i := 1) (v := .int .i64 (N : Int)) rfl
      have p2 := pb4.cell (i := 2) (v := .string s) rfl
      clear hW4 k4 PB pb4 a0 CE KW
      go_wp2_with fail
      refine (unhide KE W4 (unhide KW4)).mono ?_
      rintro e5 W5 ⟨⟨v5, rfl⟩, h5, k5⟩
      have K5 := hide (((unhide KW4).mono (G := [q]) (by simp)).trans k5 (fun _ hx => Or.inl hx))
      have H5 := hide h5
      clear h5 k5 KE KW4 p0 p1 p2
      go_wp2_with fail
      refine (unhide TE W5 (unhide H5)).mono ?_
      rintro e6 W6 ⟨v6, rfl, t6, h6, k6⟩
      have H6 := hide (And.intro t6 (And.intro h6 k6))
      clear t6 h6 k6 TE H5
      go_wp2_with fail
      refine (unhide AE W6 (unhide H6).2.1).mono ?_
      rintro e7 W7 ⟨rfl, k7⟩
      have HF := hide (unhide FI W5 W6 W7 v6 (unhide K5) (unhide H6).2.2 (unhide H6).2.1 (unhide H6).1 k7)
      clear k7 AE H6 K5 FI
      go_wp2
      go_ret3
      exact ⟨_, rfl, unhide HF⟩
    · obtain ⟨e1, e2, e3, e4⟩ := ltE_stale hr h1
      rw [e1, e2, e3, e4]
      have h1b : (e != r.ep) = true := bne_iff_ne.2 h1
      clear hv hok e1 e2 e3 e4 hr
      go_enter Try.func17, Try.ntmps17
      go_wp2_with fail
      refine (unhide RD).mono ?_
      rintro r' w1 ⟨rfl, k1⟩
      go_upto_region 2 with fail
      obtain ⟨W, hW⟩ : ∃ W, W = w1.alloc (.cells #[.int .i64 e, .int .i64 (N : Int), .string s] 72) := ⟨_, rfl⟩
      have KW := hide (unhide KK w1 k1)
      have pb : CBox w1.heap.size #[.int .i64 e, .int .i64 (N : Int), .string s] 72 W := by rw [hW]; exact CBox.new _ _ _
      rw [← hW] at KW ⊢
      have p0 := pb.cell (i := 0) (v := .int .i64 e) rfl
      have a0 := unhide CE W (unhide KW)
      have PB := hide pb
      clear hW pb k1 KK RD
      have HQ := hide (fun n => unhide HH (W.drewN n) ((unhide KW).trans (Kp.drewQ _ _) (by simp)))
      clear HH
      go_wp2
      go_quiet (fail)
      go_wp2
      go_ret3
      exact ⟨_, rfl, TxO.nil _ _, unhide HQ _⟩
end Go.Proofs.Ytiomngpfolkgpaa
namespace Go.Proofs.Ytiomngpfolkgpaa
open Go.RowKit

theorem strs_kp {w w' : World} {ad : Option Addr} {l : List ByteArray} (h : StrsAt w ad l) (hk : Kp [] w w') : StrsAt w' ad l := h.below (B := w.heap.size) (hk.below (Nat.le_refl _) (by simp)) (Nat.le_refl _)
set_option maxHeartbeats 1000000 in
theorem sameStrs_true (a1 a2 : Option Addr) (c1 c2 : Nat) (l : List ByteArray) (w : World) (h1 : StrsAt w a1 l) (h2 : StrsAt w a2 l) (hl : l.length ≤ 9223372036854775807) :
    Calls Try.prog 14 #[.slice a1 l.length c1, .slice a2 l.length c2] w fun e w' => e = .returned (.bool true) ∧ Kp [] w w' := by
  have H1 := hide h1
  have H2 := hide h2
  clear h1 h2
  go_enter Try.func14, Try.ntmps14
  go_wp2
  go_loopw [5] (fun i wr => ∃ k n : Nat, k ≤ l.length ∧ i = .int .i64 (k : Int) ∧ wr = w.drewN n) (fun i _ => l.length - (intOf i).toNat)
  case atStart => exact ⟨0, 0, Nat.zero_le _, rfl, rfl⟩
  case round =>
    obtain ⟨k, n, hk, rfl, rfl⟩ := hrel
    by_cases hlt : k < l.length
    · have hne : l ≠ [] := fun e => by rw [e] at hlt; simp at hlt
      obtain ⟨b1, o1, rfl, _, q1⟩ := unhide H1 hne
      obtain ⟨b2, o2, rfl, _, q2⟩ := unhide H2 hne
      have x0 := q1 k hlt
      have y0 := q2 k hlt
      have hli : (k : Int) < (l.length : Int) := by omega
      clear q1 q2 hne H1 H2
      generalize l[k] = x at *
      go_wp2
      go_quiet (fail)
      go_wp2
      go_roundw
      case rel => exact ⟨k + 1, _, by omega, by go_num, rfl⟩
      case measure => simp [intOf]; omega
    · go_wp2
      go_ret
      exact ⟨rfl, Kp.drewQ w n⟩
end Go.Proofs.Ytiomngpfolkgpaa
namespace Go.Proofs.Ytiomngpfolkgpaa

theorem among_eq (x n : Int) (hn : 0 < n) : (x.tmod n + n).tmod n = x % n := by
  rcases Int.lt_or_le x 0 with h | h
  · have h1 := Int.tmod_eq_emod (a := x) (b := n)
    have h2 := Int.emod_nonneg x (by omega : n ≠ 0)
    have h3 := Int.emod_lt_of_pos x hn
    by_cases hd : n ∣ x
    · have e : x % n = 0 := Int.emod_eq_zero_of_dvd hd
      rw [h1, if_pos (Or.inr hd), e]
      simp
    · rw [h1, if_neg (by omega), show (n.natAbs : Int) = n by omega, show x % n - n + n = x % n by omega, Int.tmod_eq_emod_of_nonneg h2, Int.emod_emod_of_dvd x (Int.dvd_refl n)]
  · rw [Int.tmod_eq_emod_of_nonneg h, Int.tmod_eq_emod_of_nonneg (by have := Int.emod_nonneg x (by omega : n ≠ 0); omega)]
    simp
end Go.Proofs.Ytiomngpfolkgpaa
namespace Go.Proofs.Ytiomngpfolkgpaa
open Go.RowKit Lk

set_option maxHeartbeats 400000 in
theorem lAmong_any (x n : Int) (w : World) (hn : 0 < n) (hn1 : n ≤ 1099511627776) :
    Calls Try.prog 9 #[.int .i64 x, .int .i64 n] w fun e w' => e = .returned (.int .i64 (x % n)) ∧ w' = w := by
  have hne : (n == 0) = false := beq_eq_false_iff_ne.2 (by omega)
  have e1 := among_eq x n hn
  have b1 : -n < x.tmod n := Int.lt_tmod_of_pos x hn
  have b2 : x.tmod n < n := Int.tmod_lt_of_pos x hn
  go_enter Try.func9, Try.ntmps9
  go_wp2
  go_ret
  exact ⟨rfl, rfl⟩
/-- The links of the chapter's example, one by one. -/
def xA : ByteArray := ⟨#[97]⟩
def xB : ByteArray := ⟨#[98]⟩
def x0 : Snd := sd0 3 8 5
def x1 : Snd := luS x0 xA
def x2 : Snd := luS x1 xB
def x3 : Snd := ldS x2 0
def p0 : Rcv := rc0 3 8
def p1 : Rcv := ltR p0 (dataB 3 1 xB)
def p2 : Rcv := ltR p1 (dataB 3 0 xA)
def x4 : Snd := lhS x3 (ackB 3 2)
theorem xr0 : lrD (dataB 3 1 xB) = some (3, 1, xB) := lrD_data (by decide) (by decide) (by decide) (by decide) (by decide)
theorem xr1 : lrD (dataB 3 0 xA) = some (3, 0, xA) := lrD_data (by decide) (by decide) (by decide) (by decide) (by decide)
theorem xr2 : lrA (ackB 3 2) = some (3, 2) := lrA_ack (by decide) (by decide) (by decide) (by decide)
theorem xo0 : SOk x0 := sd0_ok (by decide)
theorem xo1 : SOk x1 := xo0.luS _
theorem xo2 : SOk x2 := xo1.luS _
theorem xo3 : SOk x3 := xo2.ldS _
theorem po0 : ROk p0 := rc0_ok (by decide)
theorem po1 : ROk p1 := po0.ltR _
theorem xa1 : luE x0 xA = 0 := by rfl
theorem xa2 : luE x1 xB = 0 := by rfl
theorem xa3 : ldE x2 0 = 0 ∧ ldO x2 0 = [dataB 3 0 xA, dataB 3 1 xB] := ⟨by rfl, by rfl⟩
theorem xa4 : ltE p0 (dataB 3 1 xB) = 0 ∧ ltO p0 (dataB 3 1 xB) = [] ∧ p1 = ⟨3, 8, 0, [(1, xB)]⟩ := by
  obtain ⟨e1, e2, e3, _⟩ := ltE_ok (r := p0) xr0
  refine ⟨e1, by rw [e3]; rfl, ?_⟩
  unfold p1
  rw [e2]
  rfl
theorem xa5 : ltE p1 (dataB 3 0 xA) = 0 ∧ ltO p1 (dataB 3 0 xA) = [xA, xB] ∧ ltA p1 (dataB 3 0 xA) = ackB 3 2 := by
  rw [xa4.2.2]
  obtain ⟨e1, e2, e3, e4⟩ := ltE_ok (r := ⟨3, 8, 0, [(1, xB)]⟩) xr1
  refine ⟨e1, by rw [e3]; rfl, ?_⟩
  rw [e4]
  rfl
theorem xa6 : lhE x3 (ackB 3 2) = 0 ∧ x4.left.length = 0 := by
  obtain ⟨e1, e2⟩ := lhE_some (s := x3) xr2
  have h1 : lhE x3 (ackB 3 2) = 0 := by rw [e1]; rfl
  refine ⟨h1, ?_⟩
  unfold x4
  rw [e2, h1]
  rfl
/-- What stays of a world while links of the call's own go on. -/
theorem ko_lk {P : Obj → Bool} {B B' : Nat} {w W W' : World} (h : Ko lkO B w W) (k : Ko P B' W W') (hB : B ≤ B') (hP : ∀ o, P o = true → lkO o = true) : Ko lkO B w W' := h.trans (k.mono hB hP)
theorem sdO_lk (o : Obj) (h : sdO o = true) : lkO o = true := by unfold lkO; rw [h]; rfl
theorem rcO_lk (o : Obj) (h : rcO o = true) : lkO o = true := by unfold lkO; rw [h, Bool.or_true]
theorem ko_kp {P : Obj → Bool} {w w' : World} (h : Ko P w.heap.size w w') : Kp [] w w' := Kp.ofBelow (h.below (Nat.le_refl _))
theorem sdO_rc (o : Obj) (h : rcO o = true) : sdO o = false := by
  cases o with
  | cells cs t f =>
    have ht : (t == 63) = true := h
    rw [beq_iff_eq] at ht
    subst ht
    rfl
  | _ => rfl
theorem rcO_sd (o : Obj) (h : sdO o = true) : rcO o = false := by
  cases hr : rcO o with
  | false => rfl
  | true => rw [sdO_rc o hr] at h; cases h
/-- A row of texts is of no link. -/
theorem TxO.ko {P : Obj → Bool} {B B' : Nat} {w w' : World} {v : Value} {l : List ByteArray} (h : TxO B w v l) (hk : Ko P B' w w') (hP : B' = w.heap.size ∨ ∀ o, P o = true → lkO o = true) : TxO B w' v l := by
  obtain ⟨h1, h2 | ⟨g, cp, cur, rfl, hb, hh, r⟩⟩ := h
  · exact ⟨h1, Or.inl h2⟩
  · refine ⟨h1, Or.inr ⟨g, cp, cur, rfl, hb, hk.block g _ hh ?_, r⟩⟩
    rcases hP with rfl | hP
    · exact Or.inl (Array.getElem?_eq_some_iff.1 hh).1
    · cases hp : P (.cells cur 9 (0, 0)) with
      | false => exact Or.inr rfl
      | true =>
        have hn : lkO (.cells cur 9 (0, 0)) = false := rfl
        rw [hP _ hp] at hn
        cases hn
set_option maxHeartbeats 4000000 in
set_option maxRecDepth 100000 in
theorem lworks_any (w : World) : Calls Try.prog 8 #[] w fun e w' => e = .returned (.bool true) ∧ Kp [] w w' := by
  have N1 := hide (newSender_ok 3 8 5 w (by decide))
  have N2 := hide (fun W => newReceiver_ok 3 8 W (by decide))
  have S1 := hide (fun W b (h : SdAt w.heap.size W b x0) => lPush_any _ b x0 xA W h xo0 (by decide))
  have S2 := hide (fun W b (h : SdAt w.heap.size W b x1) => lPush_any _ b x1 xB W h xo1 (by decide))
  have S3 := hide (fun W b (h : SdAt w.heap.size W b x2) => lDue_any _ b x2 0 W h xo2)
  have S4 := hide (fun W b (h : RcAt w.heap.size W b p0) => lTake_any _ b p0 (dataB 3 1 xB) W h po0 (by have := dataB_size (ep := 3) (n := 1) (b := xB) (by decide) (by decide) (by decide) (by decide) (by decide); omega))
  have S5 := hide (fun W b (h : RcAt w.heap.size W b p1) => lTake_any _ b p1 (dataB 3 0 xA) W h po1 (by have := dataB_size (ep := 3) (n := 0) (b := xA) (by decide) (by decide) (by decide) (by decide) (by decide); omega))
  have S6 := hide (fun W b (h : SdAt w.heap.size W b x3) => lHeard_any _ b x3 (ackB 3 2) W h xo3 (by have := ackB_size (ep := 3) (n := 2) (by decide) (by decide) (by decide) (by decide); omega))
  have S7 := hide (fun W b (h : SdAt w.heap.size W b x4) => h.elim fun v h => lLeft_any b v x4 W h.1)
  rw [xa1] at S1
  rw [xa2] at S2
  rw [xa3.1, xa3.2] at S3
  rw [xa4.1, xa4.2.1, show ltR p0 (dataB 3 1 xB) = p1 from rfl] at S4
  rw [xa5.1, xa5.2.1, xa5.2.2] at S5
  rw [xa6.1, show lhS x3 (ackB 3 2) = x4 from rfl] at S6
  rw [xa6.2] at S7
  have HXA : Hid (xA = ⟨#[97]⟩) := hide rfl
  have HXB : Hid (xB = ⟨#[98]⟩) := hide rfl
  unfold xA at S1
  unfold xB at S2
  generalize dataB 3 0 xA = d0 at *
  generalize dataB 3 1 xB = d1 at *
  generalize ackB 3 2 = ak at *
  generalize ltA p0 d1 = ak0 at *
  go_enter Try.func8, Try.ntmps8
  go_wp2_with fail
  refine (unhide N1).mono ?_
  rintro r w1 ⟨b, rfl, h1, k1⟩
  have H1 := hide h1
  have K1 : Hid (Ko lkO w.heap.size w w1) := hide (Ko.nil k1)
  clear N1 h1 k1
  go_wp2_with fail
  refine (unhide N2 _).mono ?_
  rintro r w2 ⟨c, rfl, h2, k2⟩
  have H2 : Hid (SdAt w.heap.size w2 b x0) := hide ((unhide H1).kp k2)
  have R2 : Hid (RcAt w.heap.size w2 c p0) := hide (by
    obtain ⟨q, g1, g2, g3⟩ := h2
    have := (unhide K1).size
    exact ⟨q, g1, by omega, by omega⟩)
  have K2 : Hid (Ko lkO w.heap.size w w2) := hide ((unhide K1).trans (Ko.nil k2))
  clear N2 h2 k2 H1 K1
  go_wp2_with fail
  refine (unhide S1 _ _ (unhide H2)).mono ?_
  rintro r w3 ⟨rfl, h3, k3⟩
  have H3 : Hid (SdAt w.heap.size w3 b x1) := hide h3
  have R3 : Hid (RcAt w.heap.size w3 c p0) := hide ((unhide R2).ko k3 (Or.inr sdO_rc))
  have K3 := hide (ko_lk (unhide K2) k3 (Nat.le_refl _) sdO_lk)
  clear S1 h3 k3 H2 R2 K2
  go_wp2_with fail
  refine (unhide S2 _ _ (unhide H3)).mono ?_
  rintro r w4 ⟨rfl, h3, k3⟩
  have H4 : Hid (SdAt w.heap.size w4 b x2) := hide h3
  have R4 : Hid (RcAt w.heap.size w4 c p0) := hide ((unhide R3).ko k3 (Or.inr sdO_rc))
  have K4 := hide (ko_lk (unhide K3) k3 (Nat.le_refl _) sdO_lk)
  clear S2 h3 k3 H3 R3 K3
  go_wp2_with fail
  refine (unhide S3 _ _ (unhide H4)).mono ?_
  rintro r w5 ⟨v5, rfl, t5, h3, k3⟩
  have H5 : Hid (SdAt w.heap.size w5 b x3) := hide h3
  have R5 : Hid (RcAt w.heap.size w5 c p0) := hide ((unhide R4).ko k3 (Or.inr sdO_rc))
  have K5 := hide (ko_lk (unhide K4) k3 (Nat.le_refl _) sdO_lk)
  have T5 := hide t5
  obtain ⟨ad, cp, rfl, hcp, ts⟩ := t5.strs
  obtain ⟨sb, so, rfl, _, hc⟩ := ts (by simp)
  have c0 := hc 0 (by simp)
  have c1 := hc 1 (by simp)
  simp only [List.getElem_cons_zero, List.getElem_cons_succ, Nat.add_zero] at c0 c1
  have CC : Hid (∀ W, Ko rcO w.heap.size w5 W → W.cell? ⟨sb, so, none⟩ = some (.string d0)) := hide (fun W hk => by
    obtain ⟨ad', cp', e, _, ts'⟩ := (t5.ko hk (Or.inr rcO_lk)).strs
    injection e with e
    obtain ⟨_, _, e2, _, hc'⟩ := ts' (by simp)
    rw [← e] at e2
    injection e2 with e2
    injection e2 with e3 e4
    subst e3 e4
    have := hc' 0 (by simp)
    simpa using this)
  clear S3 h3 k3 H4 R4 K4 hc ts t5 T5 hcp
  go_wp2_with fail
  refine (unhide S4 _ _ (unhide R5)).mono ?_
  rintro r w6 ⟨v6, rfl, t6, h3, k3⟩
  have c0 := unhide CC w6 k3
  have H6 : Hid (SdAt w.heap.size w6 b x3) := hide ((unhide H5).ko k3 (Or.inr rcO_sd))
  have R6 : Hid (RcAt w.heap.size w6 c p1) := hide h3
  have K6 := hide (ko_lk (unhide K5) k3 (Nat.le_refl _) rcO_lk)
  obtain ⟨ad6, cp6, rfl, _⟩ := t6.form
  clear S4 h3 k3 H5 R5 K5 CC t6 c1
  go_wp2_with fail
  refine (unhide S5 _ _ (unhide R6)).mono ?_
  rintro r w7 ⟨v7, rfl, t7, h3, k3⟩
  have H7 : Hid (SdAt w.heap.size w7 b x3) := hide ((unhide H6).ko k3 (Or.inr rcO_sd))
  have K7 := hide (ko_lk (unhide K6) k3 (Nat.le_refl _) rcO_lk)
  obtain ⟨ad7, cp7, rfl, _, ts7⟩ := t7.strs
  have ka := Kp.alloc w7 (.cells #[.string ⟨#[97]⟩, .string ⟨#[98]⟩] 9)
  have SM := hide (sameStrs_true ad7 (some ⟨w7.heap.size, 0, none⟩) cp7 2 [xA, xB] (w7.alloc (.cells #[.string ⟨#[97]⟩, .string ⟨#[98]⟩] 9)) (strs_kp ts7 ka) (fun _ => ⟨_, 0, rfl, by simp, fun i hi => by
    have hb := CBox.new w7 #[.string ⟨#[97]⟩, .string ⟨#[98]⟩] 9
    match i, hi with
    | 0, _ => exact hb.cell rfl
    | 1, _ => exact hb.cell rfl⟩) (by simp))
  have H8 := hide ((unhide H7).kp ka)
  have K8 : Hid (Ko lkO w.heap.size w (w7.alloc (.cells #[.string ⟨#[97]⟩, .string ⟨#[98]⟩] 9))) := hide ((unhide K7).trans (Ko.nil ka))
  clear S5 h3 k3 H6 R6 K6 c0 t7 ts7 ka H7 K7
  go_wp2_with fail
  refine (unhide SM).mono ?_
  rintro r w8 ⟨rfl, k8⟩
  have H9 := hide ((unhide H8).kp k8)
  have K9 := hide ((unhide K8).trans (Ko.nil k8))
  clear SM k8 H8 K8
  go_wp2_with fail
  refine (unhide S6 _ _ (unhide H9)).mono ?_
  rintro r w9 ⟨rfl, h3, k3⟩
  have H10 : Hid (SdAt w.heap.size w9 b x4) := hide h3
  have K10 := hide (ko_lk (unhide K9) k3 (Nat.le_refl _) sdO_lk)
  clear S6 h3 k3 H9 K9
  go_wp2_with fail
  refine (unhide S7 _ _ (unhide H10)).mono ?_
  rintro r w10 ⟨rfl, rfl⟩
  clear S7 H10
  go_wp2
  go_ret
  exact ⟨rfl, ko_kp (unhide K10)⟩
end Go.Proofs.Ytiomngpfolkgpaa
