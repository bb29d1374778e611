/-
  Links: a packet is taken.
  Plain facts: what is encoded is decoded as the list; what is decoded is encoded as just those bytes.
  Links, plainly: packets there and back. Of no program.
  SameTexts of two slices that read the same texts returns true.
  A number from 0 to n - 1: the plain fact.
-/
import Derived.Test.YtjacedlfkimlhaaLk14
import Derived.Test.YtjacedlfkimlhaaLk04
import Derived.Test.YtjacedlfkimlhaaLk05
import Derived.Test.YtjacedlfkimlhaaLk11
import Derived.Deep.QuietTactic
import Derived.BigQuiet
import Derived.Test.YtjacedlfkimlhaaLk01
namespace Go.Proofs.Ytjacedlfkimlhaa
open Go.RowKit Lk

theorem ltE_none {r : Rcv} {p : ByteArray} (h : lrD p = none) : ltE r p = 3 ∧ ltR r p = r ∧ ltO r p = [] ∧ ltA r p = ⟨#[]⟩ := by
  have e : ltE r p = 3 := by unfold ltE; rw [h]
  refine ⟨e, ?_, ?_, ?_⟩
  · unfold ltR; rw [if_neg (by rw [e]; decide)]
  · unfold ltO; rw [if_neg (by rw [e]; decide)]
  · unfold ltA; rw [if_neg (by rw [e]; decide)]
theorem ltE_stale {r : Rcv} {p : ByteArray} {e n : Int} {s : ByteArray} (h : lrD p = some (e, n, s)) (he : e ≠ r.ep) : ltE r p = 190 ∧ ltR r p = r ∧ ltO r p = [] ∧ ltA r p = ⟨#[]⟩ := by
  have e : ltE r p = 190 := by unfold ltE; rw [h]; dsimp only; rw [if_pos he]
  refine ⟨e, ?_, ?_, ?_⟩
  · unfold ltR; rw [if_neg (by rw [e]; decide)]
  · unfold ltO; rw [if_neg (by rw [e]; decide)]
  · unfold ltA; rw [if_neg (by rw [e]; decide)]
theorem ltE_ok {r : Rcv} {p : ByteArray} {n : Int} {s : ByteArray} (h : lrD p = some (r.ep, n, s)) : ltE r p = 0 ∧ ltR r p = lgR (lkR r n.toNat s) ∧ ltO r p = lgO (lkR r n.toNat s) ∧ ltA r p = ackB r.ep ((lgR (lkR r n.toNat s)).next : Int) := by
  have e : ltE r p = 0 := by unfold ltE; rw [h]; dsimp only; rw [if_neg (by simp)]
  have k : ltK r p = lkR r n.toNat s := by unfold ltK; rw [h]; dsimp only; rw [if_pos e]
  have q : ltR r p = lgR (lkR r n.toNat s) := by unfold ltR; rw [if_pos e, k]
  refine ⟨e, q, ?_, ?_⟩
  · unfold ltO; rw [if_pos e, k]
  · unfold ltA; rw [if_pos e, q]
theorem lkR_ep (r : Rcv) (n : Nat) (s : ByteArray) : (lkR r n s).ep = r.ep := by unfold lkR; split <;> rfl
theorem lgR_ep (r : Rcv) : (lgR r).ep = r.ep := rfl
theorem rc_step {B b q : Nat} {w w' : World} {r r' : Rcv} (h : RcV w b q r) (hB : B ≤ b) (hq : B ≤ q) (h' : RcV w' b q r') (hk : Kp [b, q] w w') : RcAt B w' b r' ∧ Ko rcO B w w' := by
  refine ⟨⟨q, h', hB, hq⟩, Ko.of hk (fun k hm _ => ?_)⟩
  simp only [List.mem_cons, List.not_mem_nil, or_false] at hm
  rcases hm with rfl | rfl
  · exact ⟨hB, _, h.box, rfl⟩
  · obtain ⟨es, c, hc⟩ := h.map.is
    exact ⟨hq, _, hc, rfl⟩
set_option maxHeartbeats 8000000 in
set_option maxRecDepth 100000 in
theorem lTake_any (B b : Nat) (r : Rcv) (p : ByteArray) (w : World) (h : RcAt B w b r) (hok : ROk r) (hp : p.size ≤ 9223372036854775807) :
    Calls Try.prog 20 #[.pointer (some ⟨b, 0, none⟩), .string p] w fun e w' => ∃ v, e = .returned (.tuple #[v, .string (ltA r p), .int .i64 (ltE r p)]) ∧ TxO w.heap.size w' v (ltO r p) ∧ RcAt B w' b (ltR r p) ∧ Ko rcO B w w' := by
  have RD := hide (lrD_any p w hp)
  obtain ⟨q, hv, hB, hq⟩ := h
  have HH : Hid (∀ w', Kp [] w w' → RcAt B w' b r ∧ Ko rcO B w w') := hide (fun w' hk => rc_step hv hB hq (hv.kp hk (by simp) (by simp)) (hk.mono (by simp)))
  cases hr : lrD p with
  | none =>
    rw [hr] at RD
    obtain ⟨e1, e2, e3, e4⟩ := ltE_none (r := r) hr
    rw [e1, e2, e3, e4]
    clear hv hok e1 e2 e3 e4 hr
    simp only [dEp, dNo, dTx, Option.isSome] at RD
    go_enter Try.func20, Try.ntmps20
    go_wp2_with fail
    refine (unhide RD).mono ?_
    rintro r w1 ⟨rfl, k1⟩
    have K1 := hide (unhide HH _ ((Kp.ofBelow k1).trans (Kp.alloc w1 (.cells #[.int .i64 0, .int .i64 0, .string ⟨#[]⟩] 77)) (by simp)))
    clear k1 HH RD
    go_wp2
    go_ret3
    exact ⟨_, rfl, TxO.nil _ _, unhide K1⟩
  | some x =>
    obtain ⟨e, n, s⟩ := x
    rw [hr] at RD
    obtain ⟨b0, b1, b2, b3, b4⟩ := lrD_bd hr
    obtain ⟨N, rfl⟩ : ∃ N : Nat, n = (N : Int) := ⟨n.toNat, by omega⟩
    simp only [dEp, dNo, dTx, Option.isSome] at RD
    have KK : Hid (∀ w1, Below w.heap.size w w1 → Kp [] w (w1.alloc (.cells #[.int .i64 e, .int .i64 (N : Int), .string s] 77))) := hide (fun w1 k1 => (Kp.ofBelow k1).trans (Kp.alloc w1 _) (by simp))
    have CE : Hid (∀ W, Kp [] w W → W.cell? ⟨b, 0, none⟩ = some (.int .i64 r.ep)) := hide (fun W hk => (hv.box.kp hk (by simp)).cell rfl)
    by_cases h1 : e = r.ep
    · subst h1
      obtain ⟨e1, e2, e3, e4⟩ := ltE_ok hr
      rw [Int.toNat_natCast] at e2 e3 e4
      rw [e1, e2, e3, e4]
      have ok1 := hok.lkR N s (by omega) b0
      have ok2 := ok1.lgR
      have KE := hide (fun W (hk : Kp [] w W) => lKeep_any b q r r.ep N s W (hv.kp hk (by simp) (by simp)) hok)
      have TE := hide (fun W (h : RcV W b q (lkR r N s)) => lTell_any b q _ W h ok1)
      have AE := hide (fun W (h : RcV W b q (lgR (lkR r N s))) => lAckR_any b q _ W h ok2)
      rw [lgR_ep, lkR_ep] at AE
      have FI : Hid (∀ W5 W6 W7 v, Kp [q] w W5 → Kp [b, q] W5 W6 → RcV W6 b q (lgR (lkR r N s)) → TxO W5.heap.size W6 v (lgO (lkR r N s)) → Kp [] W6 W7 → TxO w.heap.size W7 v (lgO (lkR r N s)) ∧ RcAt B W7 b (lgR (lkR r N s)) ∧ Ko rcO B w W7) := hide (fun W5 W6 W7 v h5 h6 h7 h8 h9 => ⟨(h8.lower h5.size).kp h9 (by simp), rc_step hv hB hq (h7.kp h9 (by simp) (by simp)) (((h5.mono (G := [b, q]) (by simp)).trans h6 (fun _ hx => Or.inl hx)).trans h9 (by simp))⟩)
      clear hv hok e1 e2 e3 e4 hr ok1 ok2 HH
      generalize ackB r.ep ((lgR (lkR r N s)).next : Int) = D at *
      generalize lgR (lkR r N s) = r2 at *
      generalize lgO (lkR r N s) = ts at *
      generalize lkR r N s = r1 at *
      go_enter Try.func20, Try.ntmps20
      go_wp2_with fail
      refine (unhide RD).mono ?_
      rintro r' w1 ⟨rfl, k1⟩
      go_upto_region 2 with fail
      obtain ⟨W, hW⟩ : ∃ W, W = w1.alloc (.cells #[.int .i64 r.ep, .int .i64 (N : Int), .string s] 77) := ⟨_, rfl⟩
      have KW := hide (unhide KK w1 k1)
      have pb : CBox w1.heap.size #[.int .i64 r.ep, .int .i64 (N : Int), .string s] 77 W := by rw [hW]; exact CBox.new _ _ _
      rw [← hW] at KW ⊢
      have p0 := pb.cell (i := 0) (v := .int .i64 r.ep) rfl
      have a0 := unhide CE W (unhide KW)
      have PB := hide pb
      clear hW pb k1 KK RD
      go_wp2
      go_quiet (fail)
      go_upto_region 6 with fail
      obtain ⟨W4, hW4⟩ : ∃ W4, W4 = W.drewN nq := ⟨_, rfl⟩
      have k4 : Kp [] W W4 := by rw [hW4]; exact Kp.drewQ _ _
      rw [← hW4]
      have KW4 := hide ((unhide KW).trans k4 (by simp))
      have pb4 := (unhide PB).kp k4 (by simp)
      have p0 := pb4.cell (i := 0) (v := .int .i64 r.ep) rfl
      have p1 := pb4.cell (i := 1) (v := .int .i64 (N : Int)) rfl
      have p2 := pb4.cell (i := 2) (v := .string s) rfl
      clear hW4 k4 PB pb4 a0 CE KW
      go_wp2_with fail
      refine (unhide KE W4 (unhide KW4)).mono ?_
      rintro e5 W5 ⟨⟨v5, rfl⟩, h5, k5⟩
      have K5 := hide (((unhide KW4).mono (G := [q]) (by simp)).trans k5 (fun _ hx => Or.inl hx))
      have H5 := hide h5
      clear h5 k5 KE KW4 p0 p1 p2
      go_wp2_with fail
      refine (unhide TE W5 (unhide H5)).mono ?_
      rintro e6 W6 ⟨v6, rfl, t6, h6, k6⟩
      have H6 := hide (And.intro t6 (And.intro h6 k6))
      clear t6 h6 k6 TE H5
      go_wp2_with fail
      refine (unhide AE W6 (unhide H6).2.1).mono ?_
      rintro e7 W7 ⟨rfl, k7⟩
      have HF := hide (unhide FI W5 W6 W7 v6 (unhide K5) (unhide H6).2.2 (unhide H6).2.1 (unhide H6).1 k7)
      clear k7 AE H6 K5 FI
      go_wp2
      go_ret3
      exact ⟨_, rfl, unhide HF⟩
    · obtain ⟨e1, e2, e3, e4⟩ := ltE_stale hr h1
      rw [e1, e2, e3, e4]
      have h1b : (e != r.ep) = true := bne_iff_ne.2 h1
      clear hv hok e1 e2 e3 e4 hr
      go_enter Try.func20, Try.ntmps20
      go_wp2_with fail
      refine (unhide RD).mono ?_
      rintro r' w1 ⟨rfl, k1⟩
      go_upto_region 2 with fail
      obtain ⟨W, hW⟩ : ∃ W, W = w1.alloc (.cells #[.int .i64 e, .int .i64 (N : Int), .string s] 77) := ⟨_, rfl⟩
      have KW := hide (unhide KK w1 k1)
      have pb : CBox w1.heap.size #[.int .i64 e, .int .i64 (N : Int), .string s] 77 W := by rw [hW]; exact CBox.new _ _ _
      rw [← hW] at KW ⊢
      have p0 := pb.cell (i := 0) (v := .int .i64 e) rfl
      have a0 := unhide CE W (unhide KW)
      have PB := hide pb
      clear hW pb k1 KK RD
      have HQ := hide (fun n => unhide HH (W.drewN n) ((unhide KW).trans (Kp.drewQ _ _) (by simp)))
      clear HH
      go_wp2
      go_quiet (fail)
      go_wp2
      go_ret3
      exact ⟨_, rfl, TxO.nil _ _, unhide HQ _⟩
end Go.Proofs.Ytjacedlfkimlhaa
namespace Go.Proofs.Ytjacedlfkimlhaa

theorem u8_ofNat (C : Nat) (h : C < 256) : (UInt8.ofNat C).toNat = C := by rw [UInt8.toNat_ofNat']; omega
/-- The bytes ahead of the last one are read. -/
theorem rdN_hi (v : Nat) (r : List UInt8) (hv : v < 144115188075855872) : rdN (hiB v ++ r) 0 0 = rdN r v (hiB v).length := by
  induction v using Nat.strongRecOn generalizing r with
  | ind v ih =>
    by_cases h0 : v = 0
    · subst h0; rw [hiB_zero]; rfl
    · rw [hiB_step h0, List.append_assoc, ih (v / 128) (by omega) _ (by omega), List.singleton_append, rdN]
      have hc : (UInt8.ofNat (v % 128 + 128)).toNat = v % 128 + 128 := u8_ofNat _ (by omega)
      have hk : (hiB (v / 128)).length = 0 → v / 128 = 0 := fun h => by
        by_cases hz : v / 128 = 0
        · exact hz
        · rw [hiB_step hz] at h; simp at h
      have hnb : ¬ (((hiB (v / 128)).length = 0 ∧ v % 128 + 128 = 128) ∨ 144115188075855872 ≤ v / 128) := by
        rintro (⟨a, b⟩ | a)
        · have := hk a; omega
        · omega
      rw [hc, if_neg hnb, if_neg (by omega), List.length_append]
      congr 1
      omega
theorem rdN_numB (u : Nat) (r : List UInt8) (hu : u < 18446744073709551616) : rdN (numB u ++ r) 0 0 = (u, (numB u).length, 0) := by
  unfold numB
  rw [List.append_assoc, rdN_hi _ _ (by omega), List.singleton_append, rdN]
  have hc : (UInt8.ofNat (u % 128)).toNat = u % 128 := u8_ofNat _ (by omega)
  rw [hc, if_neg (by rintro (⟨_, b⟩ | a) <;> omega), if_pos (by omega), List.length_append]
  refine Prod.ext ?_ rfl
  show u / 128 * 128 + u % 128 % 128 = u
  omega
/-- What is read as a number is its bytes. -/
theorem rdN_inv (l : List UInt8) (U k V m : Nat) (hk : k = (hiB U).length) (h : rdN l U k = (V, m, 0)) : k < m ∧ m - k ≤ l.length ∧ hiB U ++ l.take (m - k) = numB V := by
  induction l generalizing U k with
  | nil => simp [rdN] at h
  | cons c r ih =>
    rw [rdN] at h
    have hc := c.toNat_lt
    split at h
    · simp at h
    · rename_i hbad
      split at h
      · rename_i hlow
        simp only [Prod.mk.injEq] at h
        obtain ⟨rfl, rfl, _⟩ := h
        refine ⟨by omega, by simp only [List.length_cons]; omega, ?_⟩
        rw [show k + 1 - k = 1 by omega]
        unfold numB
        rw [show (U * 128 + c.toNat % 128) / 128 = U by omega, show (U * 128 + c.toNat % 128) % 128 = c.toNat by omega]
        simp
      · rename_i hhi
        have hne : U * 128 + c.toNat % 128 ≠ 0 := fun e => by
          have hU : U = 0 := by omega
          refine hbad (Or.inl ⟨?_, by omega⟩)
          rw [hk, hU, hiB_zero]; rfl
        have hst : hiB (U * 128 + c.toNat % 128) = hiB U ++ [c] := by
          rw [hiB_step hne, show (U * 128 + c.toNat % 128) / 128 = U by omega, show (U * 128 + c.toNat % 128) % 128 + 128 = c.toNat by omega]
          simp
        obtain ⟨a, b, d⟩ := ih _ _ (by rw [hst, List.length_append, ← hk]; rfl) h
        refine ⟨by omega, by simp only [List.length_cons]; omega, ?_⟩
        rw [hst] at d
        rw [show m - k = (m - (k + 1)) + 1 by omega, List.take_succ_cons, ← d]
        simp
theorem ba_eta (s : ByteArray) : ({ data := s.data.toList.toArray } : ByteArray) = s := rfl
/-- An item's bytes are read as it. -/
theorem rdI_b (x : It) (r : List UInt8) (hm : x.may = true) (hok : x.ok) (hs : x.s.size ≤ 262144) : rdI (x.b ++ r) = (x, x.b.length, 0) := by
  obtain ⟨t, n, s⟩ := x
  obtain ⟨h0, h1, _⟩ := hok
  dsimp only at h0 h1 hs
  unfold It.may mayB at hm
  unfold It.b itemB
  cases t
  · rw [if_neg (by simp)] at hm ⊢
    have hse : s = ⟨#[]⟩ := by
      have e : s.data.toList = [] := by rw [← ByteArray.toList_eq]; simpa using hm
      rw [← ba_eta s, e]
    subst hse
    rw [List.cons_append, rdI, rdN_numB _ _ (zig_lt h0 h1)]
    dsimp only
    rw [if_neg (by decide), if_neg (by simp), if_pos (by decide), unzig_zig]
    simp only [List.length_cons, Nat.add_comm]
  · rw [if_pos rfl] at hm ⊢
    have hn : n = 0 := by simpa using hm
    subst hn
    have hz : unzig (zig (s.size : Int)) = (s.size : Int) := unzig_zig _
    rw [List.cons_append, List.append_assoc, rdI, rdN_numB _ _ (zig_lt (by omega) (by omega))]
    dsimp only
    have hlen : s.data.toList.length = s.size := Array.length_toList
    rw [if_neg (by decide), if_neg (by simp), if_neg (by decide), hz, if_neg (by omega), if_neg (by rw [List.length_append, List.length_append, hlen]; omega), List.drop_left, Int.toNat_natCast, ← hlen, List.take_left, ba_eta]
    rw [List.length_cons, List.length_append, hlen]
    refine Prod.ext rfl (Prod.ext ?_ rfl)
    dsimp only
    omega
theorem It.b_pos (x : It) : 1 ≤ x.b.length := by unfold It.b itemB; split <;> simp
theorem decF_list (l : List It) (f at_ : Nat) (acc : List It) (hf : (listB l).length ≤ f) (hn : acc.length + l.length ≤ 4096) (hl : (listB l).length ≤ 262144) (h : ∀ x ∈ l, x.may = true ∧ x.ok) : decF f (listB l) at_ acc = (acc ++ l, 0, 0) := by
  induction l generalizing f at_ acc with
  | nil => rw [show listB [] = [] from rfl, decF_nil, List.append_nil]
  | cons x r ih =>
    have hb : listB (x :: r) = x.b ++ listB r := by unfold listB; rw [List.flatMap_cons]
    have hp := x.b_pos
    obtain ⟨hm, hok⟩ := h x (List.mem_cons_self)
    have hs := It.b_ge x hm
    rw [hb, List.length_append] at hf hl
    obtain ⟨f, rfl⟩ : ∃ g, f = g + 1 := ⟨f - 1, by omega⟩
    simp only [List.length_cons] at hn
    rw [hb, decF, if_neg (fun e => by rw [(List.append_eq_nil_iff.1 e).1] at hp; simp at hp), if_neg (by omega), rdI_b x _ hm hok (by omega)]
    dsimp only
    rw [if_neg (by simp), List.drop_left, ih _ _ _ (by omega) (by rw [List.length_append]; simp only [List.length_cons, List.length_nil]; omega) (by omega) (fun y hy => h y (List.mem_cons_of_mem _ hy)), List.append_assoc]
    rfl
/-- What is encoded is decoded. -/
theorem dec_enc (l : List It) (h0 : encE l = 0) (hok : ∀ x ∈ l, x.ok) : decS (encS l).data.toList = (l, 0, 0) := by
  unfold encS
  rw [if_pos h0]
  unfold encE at h0
  by_cases a : 4096 < l.length
  · rw [if_pos a] at h0; simp at h0
  · rw [if_neg a] at h0
    by_cases b : l.all It.may = false
    · rw [if_pos b] at h0; simp at h0
    · rw [if_neg b] at h0
      by_cases c : 262144 < (listB l).length
      · rw [if_pos c] at h0; simp at h0
      · have hall : l.all It.may = true := by simpa using b
        show decS (listB l) = _
        unfold decS
        rw [if_neg c, decF_list l _ 0 [] (Nat.le_refl _) (by simp; omega) (by omega) (fun x hx => ⟨List.all_eq_true.1 hall x hx, hok x hx⟩)]
        rfl
/-- What is read as an item is its bytes. -/
theorem rdI_inv (l : List UInt8) (hc : (rdI l).2.2 = 0) (hl : l.length ≤ 262144) : l.take (rdI l).2.1 = (rdI l).1.b ∧ (rdI l).1.may = true ∧ (rdI l).1.ok := by
  cases l with
  | nil => simp [rdI] at hc
  | cons c r =>
    have hq : (rdN r 0 0).2.2 = 0 → _ := fun h0 => rdN_inv r 0 0 (rdN r 0 0).1 (rdN r 0 0).2.1 (by rw [hiB_zero]; rfl) (by rw [← h0])
    have hq2 : (rdN r 0 0).2.2 = 0 → _ := fun h0 => rdN_ok r 0 0 (rdN r 0 0).1 (rdN r 0 0).2.1 (by omega) (by rw [← h0])
    rw [rdI] at hc ⊢
    generalize rdN r 0 0 = Q at *
    obtain ⟨V, m, code⟩ := Q
    dsimp only at hc hq hq2 ⊢
    simp only [List.length_cons] at hl
    by_cases a : c.toNat ≠ 1 ∧ c.toNat ≠ 2
    · rw [if_pos a] at hc; simp at hc
    · rw [if_neg a] at hc ⊢
      by_cases b : code ≠ 0
      · rw [if_pos b] at hc; exact absurd hc b
      · rw [if_neg b] at hc ⊢
        obtain ⟨k1, k2, k3⟩ := hq (by simpa using b)
        obtain ⟨_, _, k4⟩ := hq2 (by simpa using b)
        have hub := unzig_lo k4
        rw [hiB_zero, List.nil_append, Nat.sub_zero] at k3
        rw [Nat.sub_zero] at k2
        have hme : (⟨#[]⟩ : ByteArray).toList.isEmpty = true := by rw [ByteArray.toList_eq]; rfl
        by_cases d : c.toNat = 1
        · rw [if_pos d]
          dsimp only
          have hc1 : c = 1 := UInt8.toNat_inj.1 d
          refine ⟨?_, ?_, hub.1, hub.2, Nat.zero_le _⟩
          · unfold It.b itemB
            rw [if_neg (by simp), zig_unzig, ← k3, hc1, Nat.add_comm, List.take_succ_cons]
          · unfold It.may mayB; rw [if_neg (by simp)]; exact hme
        · rw [if_neg d] at hc ⊢
          by_cases e : unzig V < 0 ∨ 262144 < unzig V
          · rw [if_pos e] at hc; simp at hc
          · rw [if_neg e] at hc ⊢
            by_cases f : (r.length : Int) - m < unzig V
            · rw [if_pos f] at hc; simp at hc
            · rw [if_neg f]
              dsimp only
              have hc2 : c = 2 := UInt8.toNat_inj.1 (by show c.toNat = 2; omega)
              obtain ⟨N, hN⟩ := Int.eq_ofNat_of_zero_le (by omega : 0 ≤ unzig V)
              have hV : zig (N : Int) = V := by rw [← hN, zig_unzig]
              rw [hN, Int.toNat_natCast]
              have hsz : ({ data := ((r.drop m).take N).toArray } : ByteArray).size = N := by
                show (List.toArray _).size = N
                rw [List.size_toArray, List.length_take, List.length_drop]; omega
              refine ⟨?_, ?_, (by decide : (-9223372036854775808 : Int) ≤ 0), (by decide : (0 : Int) < 9223372036854775808), ?_⟩
              · unfold It.b itemB
                dsimp only
                rw [if_pos rfl, hsz, hV, ← k3, hc2, show 1 + m + N = (m + N) + 1 by omega, List.take_succ_cons, List.take_add]
              · unfold It.may mayB; rfl
              · show ({ data := ((r.drop m).take N).toArray } : ByteArray).size ≤ _
                rw [hsz]; omega
theorem decF_inv (f : Nat) (b : List UInt8) (at_ : Nat) (acc l : List It) (hf : b.length ≤ f) (hl : b.length ≤ 262144) (hacc : acc.length ≤ 4096) (h : decF f b at_ acc = (l, 0, 0)) :
    ∃ r, l = acc ++ r ∧ listB r = b ∧ l.length ≤ 4096 ∧ ∀ x ∈ r, x.may = true ∧ x.ok := by
  induction f generalizing b at_ acc with
  | zero =>
    obtain rfl : b = [] := List.eq_nil_of_length_eq_zero (by omega)
    simp only [decF, Prod.mk.injEq] at h
    exact ⟨[], by rw [List.append_nil]; exact h.1.symm, rfl, by rw [← h.1]; exact hacc, by simp⟩
  | succ f ih =>
    rw [decF] at h
    by_cases hb : b = []
    · rw [if_pos hb] at h
      simp only [Prod.mk.injEq] at h
      exact ⟨[], by rw [List.append_nil]; exact h.1.symm, by rw [hb]; rfl, by rw [← h.1]; exact hacc, by simp⟩
    · rw [if_neg hb] at h
      by_cases hfl : acc.length = 4096
      · rw [if_pos hfl] at h; simp at h
      · rw [if_neg hfl] at h
        by_cases hc : (rdI b).2.2 ≠ 0
        · rw [if_pos hc] at h
          simp only [Prod.mk.injEq] at h
          exact absurd h.2.2 hc
        · rw [if_neg hc] at h
          have hc0 : (rdI b).2.2 = 0 := by simpa using hc
          obtain ⟨i1, i2, i3⟩ := rdI_inv b hc0 hl
          obtain ⟨m1, m2⟩ := rdI_ok b hc0
          obtain ⟨r, e1, e2, e3, e4⟩ := ih _ _ _ (by rw [List.length_drop]; omega) (by rw [List.length_drop]; omega) (by rw [List.length_append]; simp only [List.length_cons, List.length_nil]; omega) h
          refine ⟨(rdI b).1 :: r, by rw [e1, List.append_assoc]; rfl, ?_, e3, ?_⟩
          · unfold listB
            rw [List.flatMap_cons]
            show (rdI b).1.b ++ listB r = b
            rw [← i1, e2, List.take_append_drop]
          · intro x hx
            rcases List.mem_cons.1 hx with rfl | hx
            · exact ⟨i2, i3⟩
            · exact e4 x hx
/-- What is decoded is encoded. -/
theorem enc_dec (b : List UInt8) (l : List It) (h : decS b = (l, 0, 0)) : encE l = 0 ∧ (encS l).data.toList = b ∧ (∀ x ∈ l, x.ok) ∧ l.length ≤ 4096 := by
  unfold decS at h
  by_cases hb : 262144 < b.length
  · rw [if_pos hb] at h; simp at h
  · rw [if_neg hb] at h
    obtain ⟨r, e1, e2, e3, e4⟩ := decF_inv _ b 0 [] l (Nat.le_refl _) (by omega) (by simp) h
    rw [List.nil_append] at e1
    subst e1
    have he : encE l = 0 := by
      unfold encE
      rw [if_neg (by omega), if_neg (by rw [List.all_eq_true.2 (fun x hx => (e4 x hx).1)]; simp), e2, if_neg hb]
    refine ⟨he, ?_, fun x hx => (e4 x hx).2, e3⟩
    unfold encS
    rw [if_pos he]
    exact e2
end Go.Proofs.Ytjacedlfkimlhaa
namespace Go.Proofs.Ytjacedlfkimlhaa
open Go.RowKit Lk

theorem emp_list : (ByteArray.toList ⟨#[]⟩ : List UInt8) = [] := by rw [ByteArray.toList_eq]
theorem pkN_may (n : Int) : (pkN n).may = true := by
  show mayB false n ⟨#[]⟩ = true
  unfold mayB
  simp [ByteArray.toList_eq]
theorem pkT_may (b : ByteArray) : (pkT b).may = true := by
  show mayB true 0 b = true
  unfold mayB
  simp
theorem pkN_len {n : Int} (h0 : -9223372036854775808 ≤ n) (h1 : n < 9223372036854775808) : (pkN n).b.length ≤ 11 := by
  show (itemB false n ⟨#[]⟩).length ≤ 11
  unfold itemB
  have := (numB_length (u := zig n) (zig_lt h0 h1)).2
  simp
  omega
theorem pkT_len {b : ByteArray} (h : b.size ≤ 1000000) : (pkT b).b.length ≤ b.size + 11 := by
  show (itemB true 0 b).length ≤ _
  unfold itemB
  have := (numB_length (u := zig (b.size : Int)) (zig_lt (by omega) (by omega))).2
  have e : b.data.toList.length = b.size := Array.length_toList
  simp only [if_true, List.length_cons, List.length_append]
  omega
theorem listB_cons (x : It) (r : List It) : listB (x :: r) = x.b ++ listB r := by unfold listB; rw [List.flatMap_cons]
theorem dataL_len {ep n : Int} {b : ByteArray} (e0 : 0 ≤ ep) (e1 : ep ≤ 1073741824) (n0 : 0 ≤ n) (n1 : n ≤ 1073741825) (hb : b.size ≤ 70000) : (listB (dataL ep n b)).length ≤ b.size + 44 := by
  unfold dataL
  rw [listB_cons, listB_cons, listB_cons, listB_cons]
  have h1 := pkN_len (n := 0) (by decide) (by decide)
  have h2 := pkN_len (n := ep) (by omega) (by omega)
  have h3 := pkN_len (n := n) (by omega) (by omega)
  have h4 := pkT_len (b := b) (by omega)
  simp only [List.length_append]
  have h5 : (listB []).length = 0 := rfl
  omega
theorem ackL_len {ep n : Int} (e0 : 0 ≤ ep) (e1 : ep ≤ 1073741824) (n0 : 0 ≤ n) (n1 : n ≤ 1073741825) : (listB (ackL ep n)).length ≤ 33 := by
  unfold ackL
  rw [listB_cons, listB_cons, listB_cons]
  have h1 := pkN_len (n := 1) (by decide) (by decide)
  have h2 := pkN_len (n := ep) (by omega) (by omega)
  have h3 := pkN_len (n := n) (by omega) (by omega)
  simp only [List.length_append]
  have h5 : (listB []).length = 0 := rfl
  omega
theorem dataL_enc {ep n : Int} {b : ByteArray} (e0 : 0 ≤ ep) (e1 : ep ≤ 1073741824) (n0 : 0 ≤ n) (n1 : n ≤ 1073741825) (hb : b.size ≤ 70000) : encE (dataL ep n b) = 0 := by
  unfold encE
  have h := dataL_len e0 e1 n0 n1 hb
  rw [if_neg (by simp [dataL]), if_neg (by simp [dataL, pkN_may, pkT_may]), if_neg (by omega)]
theorem ackL_enc {ep n : Int} (e0 : 0 ≤ ep) (e1 : ep ≤ 1073741824) (n0 : 0 ≤ n) (n1 : n ≤ 1073741825) : encE (ackL ep n) = 0 := by
  unfold encE
  have h := ackL_len e0 e1 n0 n1
  rw [if_neg (by simp [ackL]), if_neg (by simp [ackL, pkN_may]), if_neg (by omega)]
theorem dataB_size {ep n : Int} {b : ByteArray} (e0 : 0 ≤ ep) (e1 : ep ≤ 1073741824) (n0 : 0 ≤ n) (n1 : n ≤ 1073741825) (hb : b.size ≤ 70000) : (dataB ep n b).size ≤ 70044 := by
  unfold dataB encS
  rw [if_pos (dataL_enc e0 e1 n0 n1 hb)]
  have h := dataL_len e0 e1 n0 n1 hb
  show (listB (dataL ep n b)).toArray.size ≤ _
  rw [List.size_toArray]
  omega
theorem ackB_size {ep n : Int} (e0 : 0 ≤ ep) (e1 : ep ≤ 1073741824) (n0 : 0 ≤ n) (n1 : n ≤ 1073741825) : (ackB ep n).size ≤ 33 := by
  unfold ackB encS
  rw [if_pos (ackL_enc e0 e1 n0 n1)]
  have h := ackL_len e0 e1 n0 n1
  show (listB (ackL ep n)).toArray.size ≤ _
  rw [List.size_toArray]
  omega
theorem pkN_okk {n : Int} (h0 : -9223372036854775808 ≤ n) (h1 : n < 9223372036854775808) : (pkN n).ok := ⟨h0, h1, by show (0 : Nat) ≤ 9223372036854775807; decide⟩
theorem isNum_pk {n m : Int} (h0 : 0 ≤ n) (h1 : n ≤ m) : isNum (pkN n) m = true := isNum_iff.2 ⟨rfl, h0, h1⟩
theorem isKind_pk (k : Int) : isKind (pkN k) k = true := by
  unfold isKind pkN
  simp [ByteArray.toList_eq]
/-- A data packet is read as what it says. -/
theorem lrD_data {ep n : Int} {b : ByteArray} (e0 : 0 ≤ ep) (e1 : ep ≤ 1073741824) (n0 : 0 ≤ n) (n1 : n ≤ 1073741824) (hb : b.size ≤ 60000) : lrD (dataB ep n b) = some (ep, n, b) := by
  have h := dec_enc (dataL ep n b) (dataL_enc e0 e1 n0 (by omega) (by omega)) (fun x hx => by
    unfold dataL at hx
    simp only [List.mem_cons, List.not_mem_nil, or_false] at hx
    rcases hx with rfl | rfl | rfl | rfl
    · exact pkN_okk (by decide) (by decide)
    · exact pkN_okk (by omega) (by omega)
    · exact pkN_okk (by omega) (by omega)
    · exact ⟨by show (-9223372036854775808 : Int) ≤ 0; decide, by show (0 : Int) < 9223372036854775808; decide, by show b.size ≤ _; omega⟩)
  unfold lrD dataB
  rw [h]
  dsimp only
  rw [if_pos rfl]
  have hh : headB [pkN 0, pkN ep, pkN n] 0 1073741824 = true := by
    show (isKind (pkN 0) 0 && (isNum (pkN ep) 1073741824 && isNum (pkN n) 1073741824)) = true
    rw [isKind_pk, isNum_pk e0 e1, isNum_pk n0 n1]
    rfl
  have hd : decide ((pkT b).s.size ≤ 60000) = true := decide_eq_true hb
  unfold dataL dataOf
  dsimp only
  rw [if_pos (by rw [hh, hd]; rfl)]
  rfl
/-- An acknowledgement is read as what it says. -/
theorem lrA_ack {ep n : Int} (e0 : 0 ≤ ep) (e1 : ep ≤ 1073741824) (n0 : 0 ≤ n) (n1 : n ≤ 1073741825) : lrA (ackB ep n) = some (ep, n) := by
  have h := dec_enc (ackL ep n) (ackL_enc e0 e1 n0 n1) (fun x hx => by
    unfold ackL at hx
    simp only [List.mem_cons, List.not_mem_nil, or_false] at hx
    rcases hx with rfl | rfl | rfl
    · exact pkN_okk (by decide) (by decide)
    · exact pkN_okk (by omega) (by omega)
    · exact pkN_okk (by omega) (by omega))
  unfold lrA ackB
  rw [h]
  dsimp only
  rw [if_pos rfl]
  have hh : headB [pkN 1, pkN ep, pkN n] 1 1073741825 = true := by
    show (isKind (pkN 1) 1 && (isNum (pkN ep) 1073741824 && isNum (pkN n) 1073741825)) = true
    rw [isKind_pk, isNum_pk e0 e1, isNum_pk n0 n1]
    rfl
  unfold ackL ackOf
  dsimp only
  rw [if_pos hh]
  rfl
end Go.Proofs.Ytjacedlfkimlhaa
namespace Go.Proofs.Ytjacedlfkimlhaa
open Go.RowKit

theorem strs_kp {w w' : World} {ad : Option Addr} {l : List ByteArray} (h : StrsAt w ad l) (hk : Kp [] w w') : StrsAt w' ad l := h.below (B := w.heap.size) (hk.below (Nat.le_refl _) (by simp)) (Nat.le_refl _)
set_option maxHeartbeats 1000000 in
theorem sameStrs_true (a1 a2 : Option Addr) (c1 c2 : Nat) (l : List ByteArray) (w : World) (h1 : StrsAt w a1 l) (h2 : StrsAt w a2 l) (hl : l.length ≤ 9223372036854775807) :
    Calls Try.prog 17 #[.slice a1 l.length c1, .slice a2 l.length c2] w fun e w' => e = .returned (.bool true) ∧ Kp [] w w' := by
  have H1 := hide h1
  have H2 := hide h2
  clear h1 h2
  go_enter Try.func17, Try.ntmps17
  go_wp2
  go_loopw [5] (fun i wr => ∃ k n : Nat, k ≤ l.length ∧ i = .int .i64 (k : Int) ∧ wr = w.drewN n) (fun i _ => l.length - (intOf i).toNat)
  case atStart => exact ⟨0, 0, Nat.zero_le _, rfl, rfl⟩
  case round =>
    obtain ⟨k, n, hk, rfl, rfl⟩ := hrel
    by_cases hlt : k < l.length
    · have hne : l ≠ [] := fun e => by rw [e] at hlt; simp at hlt
      obtain ⟨b1, o1, rfl, _, q1⟩ := unhide H1 hne
      obtain ⟨b2, o2, rfl, _, q2⟩ := unhide H2 hne
      have x0 := q1 k hlt
      have y0 := q2 k hlt
      have hli : (k : Int) < (l.length : Int) := by omega
      clear q1 q2 hne H1 H2
      generalize l[k] = x at *
      go_wp2
      go_quiet (fail)
      go_wp2
      go_roundw
      case rel => exact ⟨k + 1, _, by omega, by go_num, rfl⟩
      case measure => simp [intOf]; omega
    · go_wp2
      go_ret
      exact ⟨rfl, Kp.drewQ w n⟩
end Go.Proofs.Ytjacedlfkimlhaa
namespace Go.Proofs.Ytjacedlfkimlhaa

theorem among_eq (x n : Int) (hn : 0 < n) : (x.tmod n + n).tmod n = x % n := by
  rcases Int.lt_or_le x 0 with h | h
  · have h1 := Int.tmod_eq_emod (a := x) (b := n)
    have h2 := Int.emod_nonneg x (by omega : n ≠ 0)
    have h3 := Int.emod_lt_of_pos x hn
    by_cases hd : n ∣ x
    · have e : x % n = 0 := Int.emod_eq_zero_of_dvd hd
      rw [h1, if_pos (Or.inr hd), e]
      simp
    · rw [h1, if_neg (by omega), show (n.natAbs : Int) = n by omega, show x % n - n + n = x % n by omega, Int.tmod_eq_emod_of_nonneg h2, Int.emod_emod_of_dvd x (Int.dvd_refl n)]
  · rw [Int.tmod_eq_emod_of_nonneg h, Int.tmod_eq_emod_of_nonneg (by have := Int.emod_nonneg x (by omega : n ≠ 0); omega)]
    simp
end Go.Proofs.Ytjacedlfkimlhaa
