/-
  LinkOrder: the walk.
-/
import Derived.Test.YtjacedlfkimlhaaLk19
import Derived.Test.YtjacedlfkimlhaaLk08
namespace Go.Proofs.Ytjacedlfkimlhaa
open Go.RowKit Lk

/-- All that lies there between two moves. -/
def Lyi (B : Nat) (W : World) (b c : Nat) (pv wv av : Value) (P ways acks : List ByteArray) (s : Snd) (r : Rcv) : Prop := SdAt B W b s ∧ RcAt B W c r ∧ Rws B W pv wv av P ways acks
theorem Lyi.kp {B : Nat} {W W' : World} {b c : Nat} {pv wv av : Value} {P ways acks : List ByteArray} {s : Snd} {r : Rcv} (h : Lyi B W b c pv wv av P ways acks s r) (hk : Kp [] W W') : Lyi B W' b c pv wv av P ways acks s r := ⟨h.1.kp hk, h.2.1.kp hk, h.2.2.kp hk⟩
theorem Lyi.sd {B : Nat} {W W' : World} {b c : Nat} {pv wv av : Value} {P ways acks : List ByteArray} {s s' : Snd} {r : Rcv} (h : Lyi B W b c pv wv av P ways acks s r) (hs : SdAt B W' b s') (hk : Ko sdO B W W') : Lyi B W' b c pv wv av P ways acks s' r := ⟨hs, h.2.1.ko hk (Or.inr sdO_rc), h.2.2.ko hk (Or.inr sdO_lk)⟩
theorem Lyi.rc {B : Nat} {W W' : World} {b c : Nat} {pv wv av : Value} {P ways acks : List ByteArray} {s : Snd} {r r' : Rcv} (h : Lyi B W b c pv wv av P ways acks s r) (hr : RcAt B W' c r') (hk : Ko rcO B W W') : Lyi B W' b c pv wv av P ways acks s r' := ⟨h.1.ko hk (Or.inr rcO_sd), hr, h.2.2.ko hk (Or.inr rcO_lk)⟩
theorem Lyi.rows {B : Nat} {W W' : World} {b c : Nat} {pv wv av pv' wv' av' : Value} {P ways acks P' ways' acks' : List ByteArray} {s : Snd} {r : Rcv} (h : Lyi B W b c pv wv av P ways acks s r) (hr : Rws B W' pv' wv' av' P' ways' acks') {F : List Nat} (hF : ∀ k ∈ F, ∃ cur, W.heap[k]? = some (.cells cur 9 (0, 0))) (hk : Kp F W W') : Lyi B W' b c pv' wv' av' P' ways' acks' s r :=
  ⟨h.1.ko (str_ne hF hk) (Or.inr fun o ho => lk_str o (Or.inl ho)), h.2.1.ko (str_ne hF hk) (Or.inr fun o ho => lk_str o (Or.inr ho)), hr⟩
theorem Lyi.other {B B' : Nat} {W W' : World} {b c : Nat} {pv wv av : Value} {P ways acks : List ByteArray} {s : Snd} {r : Rcv} (h : Lyi B W b c pv wv av P ways acks s r) (hk : Ko sdO B' W W') (hB : B' = W.heap.size) : Lyi B W' b c pv wv av P ways acks s r := ⟨h.1.ko hk (Or.inl hB), h.2.1.ko hk (Or.inl hB), h.2.2.ko hk (Or.inl hB)⟩
theorem own_str {B : Nat} {W : World} {v : Value} {l : List ByteArray} (h : TxO B W v l) : ∀ k ∈ v.ownBlock.toList, ∃ cur, W.heap[k]? = some (.cells cur 9 (0, 0)) := fun k hk => (h.block (by simpa using hk)).2
theorem ownq_str {B : Nat} {W : World} {v : Value} {l : List ByteArray} (h : TxQ B W v l) : ∀ k ∈ v.ownBlock.toList, ∃ cur, W.heap[k]? = some (.cells cur 9 (0, 0)) := fun k hk => (h.block (by simpa using hk)).2
theorem move_str {W : World} {F : List Nat} {g : Nat} {cs : Array Value} {t : TypeId} (h : CBox g cs t W) (ht : t ≠ 9) (hF : ∀ k ∈ F, ∃ cur, W.heap[k]? = some (.cells cur 9 (0, 0))) : g ∉ F := fun hm => by
  obtain ⟨cur, hc⟩ := hF g hm
  unfold CBox at h
  rw [hc] at h
  injection h with e
  injection e with _ e
  exact ht e.symm
set_option maxHeartbeats 16000000 in
set_option maxRecDepth 100000 in
theorem lorder_walk (x0 x1 : Int) (ad : Option Addr) (cap : Nat) (l : List M19) (w : World) (_hl : l.length ≤ 9223372036854775807) (hA : M19At w ad l) (hok : ∀ y ∈ l, y.ok) :
    Calls Try.prog 4 #[.int .i64 x0, .int .i64 x1, .slice ad l.length cap] w fun e w' => e = .returned (.bool true) ∧ Below w.heap.size w w' := by
  have WK := hide (lworks_any w)
  have AM0 := hide (fun W => lAmong_any x0 20 W (by decide) (by decide))
  have AM1 := hide (fun W => lAmong_any x1 10 W (by decide) (by decide))
  have AMA := hide (fun x n W (h0 : 0 < n) (h1 : n ≤ 1099511627776) => lAmong_any x n W h0 h1)
  obtain ⟨wn, hwn⟩ : ∃ wn : Nat, x0 % 20 = (wn : Int) := ⟨(x0 % 20).toNat, by have := Int.emod_nonneg x0 (show (20 : Int) ≠ 0 by decide); omega⟩
  obtain ⟨pn, hpn⟩ : ∃ pn : Nat, x1 % 10 = (pn : Int) := ⟨(x1 % 10).toNat, by have := Int.emod_nonneg x1 (show (10 : Int) ≠ 0 by decide); omega⟩
  have hwl : wn < 20 := by have := Int.emod_lt_of_pos x0 (show (0 : Int) < 20 by decide); omega
  have hpl : pn < 10 := by have := Int.emod_lt_of_pos x1 (show (0 : Int) < 10 by decide); omega
  rw [hwn] at AM0
  rw [hpn] at AM1
  have HL := hide hA
  have HOK := hide hok
  clear hA hok hwn hpn
  obtain ⟨WN, hWN⟩ : ∃ WN : Nat, WN = 1 + wn := ⟨_, rfl⟩
  obtain ⟨PN, hPN⟩ : ∃ PN : Nat, PN = 1 + pn := ⟨_, rfl⟩
  have hW0 : (1 : Int) + (wn : Int) = (WN : Int) := by omega
  have hP0 : (1 : Int) + (pn : Int) = (PN : Int) := by omega
  have NS := hide (fun W => newSender_ok 5 (WN : Int) (PN : Int) W (by unfold lepB lstB; simp; omega))
  have NR := hide (fun W => newReceiver_ok 5 (WN : Int) W (by unfold lepB lstB; simp; omega))
  have LS := hide (Lo.start (W := WN) (P := PN) (by omega) (by omega) (by omega) (by omega))
  clear hWN hPN
  go_enter Try.func4, Try.ntmps4
  go_wp2_with fail
  refine (unhide WK).mono ?_
  rintro r w1 ⟨rfl, k1⟩
  have K1 := hide k1
  clear WK k1
  go_wp2_with fail
  refine (unhide AM0 _).mono ?_
  rintro r w1' ⟨rfl, rfl⟩
  go_wp2_with fail
  refine (unhide AM1 _).mono ?_
  rintro r w1' ⟨rfl, rfl⟩
  clear AM0 AM1
  go_wp2_with fail
  refine (unhide NS _).mono ?_
  rintro r w2 ⟨b, rfl, h2, k2⟩
  have HS : Hid (SdAt w.heap.size w2 b (sd0 5 (WN : Int) (PN : Int)) ∧ Ko lkO w.heap.size w w2) := hide (by
    have hz := (unhide K1).size
    obtain ⟨v, g1, g2, g3⟩ := h2
    exact ⟨⟨v, g1, by omega, fun k hk => by have := g3 k hk; omega⟩, (Ko.nil (unhide K1)).trans (Ko.nil k2)⟩)
  clear NS h2 k2 K1
  go_wp2_with fail
  refine (unhide NR _).mono ?_
  rintro r w3 ⟨c, rfl, h3, k3⟩
  have HS3 : Hid (Lyi w.heap.size w3 b c (.slice none 0 0) (.slice none 0 0) (.slice none 0 0) [] [] [] (sd0 5 (WN : Int) (PN : Int)) (rc0 5 (WN : Int)) ∧ Below w.heap.size w w3) := hide (by
    have hz := (unhide HS).2.size
    obtain ⟨q, g1, g2, g3⟩ := h3
    exact ⟨⟨(unhide HS).1.kp k3, ⟨q, g1, by omega, by omega⟩, Rws.nil _ _⟩, ((unhide HS).2.trans (Ko.nil k3)).below (Nat.le_refl _)⟩)
  clear NR h3 k3 HS
  go_wp2_with fail
  go_loopw [11, 12, 13, 14, 15, 16] (fun pv wv av tv nv iv wr => ∃ (i told now : Nat) (P ways acks : List ByteArray) (s : Snd) (r : Rcv), i ≤ l.length ∧ i ≤ 300 ∧ tv = .int .i64 (told : Int) ∧ nv = .int .i64 (now : Int) ∧ iv = .int .i64 (i : Int) ∧ P.length ≤ i ∧ acks.length ≤ i ∧ ways.length ≤ 800 ∧ now ≤ 8 * i ∧ Hid (Lo P ways acks told now s r) ∧ Hid (Lyi w.heap.size wr b c pv wv av P ways acks s r ∧ Below w.heap.size w wr)) (fun _ _ _ _ _ iv _ => l.length - (intOf iv).toNat)
  case atStart => exact ⟨0, 0, 0, [], [], [], _, _, Nat.zero_le _, by decide, rfl, rfl, rfl, Nat.le_refl _, Nat.le_refl _, by decide, Nat.le_refl _, LS, HS3⟩
  case round =>
    clear HS3 LS
    obtain ⟨i, told, now, P, ways, acks, s, r, hil, hi3, rfl, rfl, rfl, hPl, hAl, hWl, hNl, HLo, HR⟩ := hrel
    by_cases h1 : i < l.length ∧ i < 300
    · obtain ⟨h1, h2⟩ := h1
      have h1i : (i : Int) < (l.length : Int) := by omega
      have h2i : (i : Int) < 300 := by omega
      obtain ⟨lb, lo, rfl, c0, c1, c2⟩ := mcell (unhide HL) (unhide HR).2 i h1
      have hyo := unhide HOK l[i] (List.getElem_mem h1)
      obtain ⟨pad, pcp, hpf, _⟩ := (unhide HR).1.2.2.p.form
      obtain ⟨wad, wcp, hwf, hwc, hwm⟩ := (unhide HR).1.2.2.w.form
      obtain ⟨aad, acp, haf, _⟩ := (unhide HR).1.2.2.a.form
      obtain ⟨pv, hpv⟩ : ∃ pv, pv = u11 := ⟨_, rfl⟩
      subst hpv
      obtain ⟨wv, hwv⟩ : ∃ wv, wv = u12 := ⟨_, rfl⟩
      subst hwv
      obtain ⟨av, hav⟩ : ∃ av, av = u13 := ⟨_, rfl⟩
      subst hav
      subst hpf hwf haf
      generalize l[i] = y at *
      obtain ⟨yk, yn, yb⟩ := y
      obtain ⟨_, _, hyb⟩ := hyo
      dsimp only at c0 c1 c2 hyb
      go_upto_region 14 with fail
      obtain ⟨W1, hW1⟩ : ∃ W1, W1 = wr.alloc (.cells #[.int .i64 yk, .int .i64 yn, .string yb] 59) := ⟨_, rfl⟩
      have k1 : Kp [] wr W1 := by rw [hW1]; exact Kp.alloc _ _
      have MB : Hid (CBox wr.heap.size #[.int .i64 yk, .int .i64 yn, .string yb] 59 W1) := hide (by rw [hW1]; exact CBox.new _ _ _)
      rw [← hW1]
      have HY : Hid (Lyi w.heap.size W1 b c (.slice pad P.length pcp) (.slice wad ways.length wcp) (.slice aad acks.length acp) P ways acks s r ∧ Below w.heap.size w W1) := hide ⟨(unhide HR).1.kp k1, (unhide HR).2.trans (k1.below (unhide HR).2.size (by simp))⟩
      clear hW1 k1 HR c0 c1 c2
      generalize wr.heap.size = gm at *
      obtain ⟨m0, m1, m2⟩ : W1.cell? ⟨gm, 0, none⟩ = some (.int .i64 yk) ∧ W1.cell? ⟨gm, 1, none⟩ = some (.int .i64 yn) ∧ W1.cell? ⟨gm, 2, none⟩ = some (.string yb) := ⟨(unhide MB).cell rfl, (unhide MB).cell rfl, (unhide MB).cell rfl⟩
      have hBW : Hid (w.heap.size ≤ W1.heap.size) := hide (unhide HY).2.size
      have hz0 : 0 ≤ yk % 7 := Int.emod_nonneg _ (by decide)
      have hz1 : yk % 7 < 7 := Int.emod_lt_of_pos _ (by decide)
      have hz : yk % 7 = 0 ∨ yk % 7 = 1 ∨ yk % 7 = 2 ∨ yk % 7 = 3 ∨ yk % 7 = 4 ∨ yk % 7 = 5 ∨ yk % 7 = 6 := by omega
      have AM := hide (fun W => unhide AMA yk 7 W (by decide) (by decide))
      clear hz0 hz1
      rcases hz with hz | hz | hz | hz | hz | hz | hz
      · as_aux_lemma =>
          rw [hz] at AM
          go_wp2_with fail
          refine (unhide AM _).mono ?_
          rintro r' w1' ⟨rfl, rfl⟩
          clear AM AMA hz
          by_cases h5 : 500 < yb.size
          · have h5i : (500 : Int) < (yb.size : Int) := by omega
            go_wp2
            go_roundw
            case rel => exact ⟨i + 1, told, now, P, ways, acks, s, r, by omega, by omega, rfl, rfl, by go_num, by omega, by omega, by omega, by omega, HLo, HY⟩
            case measure => simp [intOf]; omega
          · have h5i : ¬ (500 : Int) < (yb.size : Int) := by omega
            obtain ⟨f1, f2⟩ := (unhide HLo).push yb (by omega) (by omega)
            have PU := hide (lPush_any _ b s yb w1' (unhide HY).1.1 (unhide HLo).so hyb)
            rw [f1] at PU
            have HL2 := hide f2
            clear f1 f2 HLo
            generalize luS s yb = s2 at *
            go_wp2_with fail
            refine (unhide PU).mono ?_
            rintro r' w2 ⟨rfl, a1, a2⟩
            have m2 := ((unhide MB).ko a2 (Or.inr rfl)).cell (i := 2) (v := .string yb) rfl
            have hB2 := Nat.le_trans (unhide hBW) a2.size
            have HY2 := hide ((unhide HY).1.sd a1 a2)
            have HB2 := hide ((unhide HY).2.trans (a2.below (unhide HY).2.size))
            obtain ⟨v', W', hrun, g1, g2⟩ := (unhide HY2).2.2.push yb hB2 (by omega) 39
            have HY3 := hide (And.intro ((unhide HY2).rows g1 (own_str (unhide HY2).2.2.p) g2) ((unhide HB2).trans (g2.below hB2 (unhide HY2).2.2.p.own)))
            obtain ⟨vad, vcp, rfl, _⟩ := g1.p.form
            have hP2 : (P ++ [yb]).length ≤ i + 1 := by rw [List.length_append]; simp; omega
            clear a1 a2 PU HY HY2 HB2 hB2 g1 g2 m0 m1 MB
            generalize P ++ [yb] = P2 at *
            go_wp2_with (at_builtin; refine wpList_app_run rfl _ _ 39 rfl rfl rfl hrun ?_)
            clear hrun m2
            have NX := hide ((unhide HY3).1.2.1.elim fun q h => lNextR_any c q r W' h.1)
            have LF := hide ((unhide HY3).1.1.elim fun v h => lLeft_any b v s2 W' h.1)
            rw [(unhide HL2).nx] at NX
            have hl9 := (unhide HL2).len
            have hf9 := (unhide HL2).fs
            have hp9 := (unhide HL2).pl
            have hsub : (P2.length : Int) - (s2.left.length : Int) = (s2.first : Int) := by omega
            have hle : ¬ (told : Int) < (s2.first : Int) := by omega
            have hfb : s2.first ≤ 300 := by omega
            clear hl9 hf9 hp9
            go_wp2_with fail
            refine (unhide NX).mono ?_
            rintro r9 w9 ⟨rfl, rfl⟩
            go_wp2_with fail
            refine (unhide LF).mono ?_
            rintro r9 w9 ⟨rfl, rfl⟩
            clear NX LF
            go_wp2
            go_roundw
            case rel => exact ⟨i + 1, told, now, P2, ways, acks, s2, r, by omega, by omega, rfl, rfl, by go_num, by omega, by omega, by omega, by omega, HL2, HY3⟩
            case measure => simp [intOf]; omega
      · as_aux_lemma =>
          rw [hz] at AM
          go_wp2_with fail
          refine (unhide AM _).mono ?_
          rintro r' w1' ⟨rfl, rfl⟩
          clear AM hz
          obtain ⟨q, hq⟩ : ∃ q : Nat, yn % 8 = (q : Int) := ⟨(yn % 8).toNat, by have := Int.emod_nonneg yn (show (8 : Int) ≠ 0 by decide); omega⟩
          have hq8 : q < 8 := by have := Int.emod_lt_of_pos yn (show (0 : Int) < 8 by decide); omega
          have AN := hide (fun W => unhide AMA yn 8 W (by decide) (by decide))
          rw [hq] at AN
          obtain ⟨t2, ht2⟩ : ∃ t2 : Nat, t2 = now + q := ⟨_, rfl⟩
          have hnq : (now : Int) + (q : Int) = (t2 : Int) := by omega
          have ht3 : t2 ≤ 8 * (i + 1) := by omega
          have ht4 : t2 ≤ 3000 := by omega
          obtain ⟨f1, f2, f3, f4⟩ := (unhide HLo).due t2 (by omega) (by omega)
          have DU := hide (lDue_any _ b s (t2 : Int) w1' (unhide HY).1.1 (unhide HLo).so)
          rw [f1] at DU
          have HLN := hide f2
          have HWY := hide f3
          have HL2 := hide f4
          clear f1 f2 f3 f4 HLo hq ht2
          generalize ldS s (t2 : Int) = s2 at *
          generalize ldO s (t2 : Int) = L at *
          go_wp2_with fail
          refine (unhide AN _).mono ?_
          rintro r' w2' ⟨rfl, rfl⟩
          clear AN AMA
          go_wp2_with fail
          refine (unhide DU).mono ?_
          rintro r' w2 ⟨v, rfl, tx, a1, a2⟩
          have hB2 := Nat.le_trans (unhide hBW) a2.size
          have HY2 := hide ((unhide HY).1.sd a1 a2)
          have HB2 := hide ((unhide HY).2.trans (a2.below (unhide HY).2.size))
          obtain ⟨vad, vcp, rfl, _⟩ := tx.form
          have TX := hide (tx.lower (Nat.zero_le _))
          clear a1 a2 DU HY tx m0 m1 m2 MB
          by_cases h5 : ways.length < 500
          · have h5i : (ways.length : Int) < 500 := by omega
            have hll := unhide HLN
            obtain ⟨wad2, wcp2, W', hrun, g1, g2⟩ := (unhide HY2).2.2.app hB2 (unhide TX) (by omega) 39
            have hwl2 : (ways ++ L).length = ways.length + L.length := List.length_append
            rw [← hwl2] at hrun g1
            have HY3 := hide (And.intro ((unhide HY2).rows g1 (ownq_str (unhide HY2).2.2.w) g2) ((unhide HB2).trans (g2.below hB2 (unhide HY2).2.2.w.own)))
            have HL3 := hide ((unhide HL2).ways (ways' := ways ++ L) (fun d hd => (List.mem_append.1 hd).elim ((unhide HL2).wy d) (unhide HWY d)))
            have hW2 : (ways ++ L).length ≤ 800 := by omega
            clear HY2 HB2 hB2 g1 g2 HL2 HWY TX hwl2 hll HLN
            generalize ways ++ L = ways2 at *
            go_wp2_with (at_builtin; refine wpList_app_run rfl _ _ 39 rfl rfl rfl hrun ?_)
            clear hrun
            have NX := hide ((unhide HY3).1.2.1.elim fun q h => lNextR_any c q r W' h.1)
            have LF := hide ((unhide HY3).1.1.elim fun v h => lLeft_any b v s2 W' h.1)
            rw [(unhide HL3).nx] at NX
            have hl9 := (unhide HL3).len
            have hf9 := (unhide HL3).fs
            have hp9 := (unhide HL3).pl
            have hsub : (P.length : Int) - (s2.left.length : Int) = (s2.first : Int) := by omega
            have hle : ¬ (told : Int) < (s2.first : Int) := by omega
            have hfb : s2.first ≤ 300 := by omega
            clear hl9 hf9 hp9
            go_wp2_with fail
            refine (unhide NX).mono ?_
            rintro r9 w9 ⟨rfl, rfl⟩
            go_wp2_with fail
            refine (unhide LF).mono ?_
            rintro r9 w9 ⟨rfl, rfl⟩
            clear NX LF
            go_wp2
            go_roundw
            case rel => exact ⟨i + 1, told, t2, P, ways2, acks, s2, r, by omega, by omega, rfl, rfl, by go_num, by omega, by omega, by omega, by omega, HL3, HY3⟩
            case measure => simp [intOf]; omega
          · have h5i : ¬ (ways.length : Int) < 500 := by omega
            have HY3 := hide (And.intro (unhide HY2) (unhide HB2))
            clear HY2 HB2 hB2 HWY TX HLN
            have NX := hide ((unhide HY3).1.2.1.elim fun q h => lNextR_any c q r w2 h.1)
            have LF := hide ((unhide HY3).1.1.elim fun v h => lLeft_any b v s2 w2 h.1)
            rw [(unhide HL2).nx] at NX
            have hl9 := (unhide HL2).len
            have hf9 := (unhide HL2).fs
            have hp9 := (unhide HL2).pl
            have hsub : (P.length : Int) - (s2.left.length : Int) = (s2.first : Int) := by omega
            have hle : ¬ (told : Int) < (s2.first : Int) := by omega
            have hfb : s2.first ≤ 300 := by omega
            clear hl9 hf9 hp9
            go_wp2_with fail
            refine (unhide NX).mono ?_
            rintro r9 w9 ⟨rfl, rfl⟩
            go_wp2_with fail
            refine (unhide LF).mono ?_
            rintro r9 w9 ⟨rfl, rfl⟩
            clear NX LF
            go_wp2
            go_roundw
            case rel => exact ⟨i + 1, told, t2, P, ways, acks, s2, r, by omega, by omega, rfl, rfl, by go_num, by omega, by omega, by omega, by omega, HL2, HY3⟩
            case measure => simp [intOf]; omega
      · as_aux_lemma =>
          rw [hz] at AM
          go_wp2_with fail
          refine (unhide AM _).mono ?_
          rintro r' w1' ⟨rfl, rfl⟩
          clear AM
          by_cases h5 : ways.length = 0
          · have hwe : ways = [] := List.eq_nil_of_length_eq_zero h5
            subst hwe
            clear AMA hz h5
            rw [List.length_nil] at *
            go_wp2
            go_roundw
            case rel => exact ⟨i + 1, told, now, P, [], acks, s, r, by omega, by omega, rfl, rfl, by go_num, by omega, by omega, by omega, by omega, HLo, HY⟩
            case measure => simp [intOf]; omega
          · have h5b : ((ways.length : Int) == 0) = false := beq_eq_false_iff_ne.2 (by omega)
            have h5i : (0 : Int) < (ways.length : Int) := by omega
            have hne : (ways.length : Int) ≠ 0 := by omega
            obtain ⟨q, hq⟩ : ∃ q : Nat, yn % (ways.length : Int) = (q : Int) := ⟨(yn % (ways.length : Int)).toNat, by have := Int.emod_nonneg yn hne; omega⟩
            have hql : q < ways.length := by have := Int.emod_lt_of_pos yn h5i; omega
            have hqi : (q : Int) < (ways.length : Int) := by omega
            have AN := hide (fun W => unhide AMA yn (ways.length : Int) W h5i (by omega))
            rw [hq] at AN
            have AM2 := hide (fun W => unhide AMA yk 7 W (by decide) (by decide))
            rw [hz] at AM2
            obtain ⟨g, off, cp, e, _, hgl, hcp, hcm, hcs⟩ := (unhide HY).1.2.2.w.cells (by omega)
            injection e with e1 e2 e3
            subst e1 e3
            have cq := hcs q hql
            have hwq : ways[q] ∈ ways := List.getElem_mem hql
            obtain ⟨z1, cc, z2, z3, z4, z5⟩ := (unhide HLo).take ((unhide HLo).wy _ hwq)
            have TA := hide (lTake_any _ c r ways[q] w1' (unhide HY).1.2.1 (unhide HLo).ro (((unhide HLo).wy _ hwq).size (unhide HLo).pl (unhide HLo).sz))
            rw [z1, z3, z4] at TA
            have HL2 := hide z5
            have hPL : P.length ≤ 300 := (unhide HLo).pl
            have hAL2 : (acks ++ [ackB 5 ((told + cc : Nat) : Int)]).length ≤ i + 1 := by rw [List.length_append]; simp; omega
            clear z1 z3 z4 z5 HLo hq AMA hne hcs hwq hz
            generalize ltR r ways[q] = r2 at *
            generalize ackB 5 ((told + cc : Nat) : Int) = ak at *
            generalize ways[q] = d at *
            go_wp2_with fail
            refine (unhide AN _).mono ?_
            rintro r' w2' ⟨rfl, rfl⟩
            clear AN
            go_wp2_with fail
            refine (unhide TA).mono ?_
            rintro r' w2 ⟨v, rfl, tx, a1, a2⟩
            have hB2 := Nat.le_trans (unhide hBW) a2.size
            have HY2 := hide ((unhide HY).1.rc a1 a2)
            have HB2 := hide ((unhide HY).2.trans (a2.below (unhide HY).2.size))
            have MB2 := hide ((unhide MB).ko a2 (Or.inr rfl))
            obtain ⟨vad, vcp, rfl, _⟩ := tx.form
            have TX := hide tx
            have hTl : ((P.drop told).take cc).length = cc := by rw [List.length_take, List.length_drop]; omega
            clear a1 a2 TA HY tx m0 m1 m2 MB cq
            go_wp2_with fail
            go_loopw [14, 182] (fun tv jv wr3 => ∃ j : Nat, j ≤ cc ∧ tv = .int .i64 ((told + j : Nat) : Int) ∧ jv = .int .i64 (j : Int) ∧ wr3 = w2) (fun _ jv _ => cc - (intOf jv).toNat)
            case atStart => exact ⟨0, Nat.zero_le _, rfl, rfl, rfl⟩
            case round =>
              obtain ⟨j, hjc, rfl, rfl, hw⟩ := hrel
              obtain rfl := hw.symm
              by_cases hj : j < cc
              · have hji : (j : Int) < (((P.drop told).take cc).length : Int) := by omega
                have hjl : j < ((P.drop told).take cc).length := by omega
                have hpl2 : told + j < P.length := by omega
                have hpi : ¬ (P.length : Int) ≤ ((told + j : Nat) : Int) := by omega
                have hpi2 : ((told + j : Nat) : Int) < (P.length : Int) := by omega
                obtain ⟨g3, cp3, e, cg⟩ := row_get (unhide TX) (List.getElem?_eq_getElem hjl)
                obtain ⟨g4, cp4, e4, cg4⟩ := row_get (unhide HY2).2.2.p (List.getElem?_eq_getElem hpl2)
                have hsm : ((P.drop told).take cc)[j] = P[told + j] := by rw [List.getElem_take, List.getElem_drop]
                rw [hsm] at cg
                injection e with e1 e2 e3
                injection e4 with e5 e6 e7
                subst e1 e3 e5 e7
                generalize P[told + j] = z at *
                have HTJ : Hid (((told + (j + 1) : Nat) : Int) = ((told + j : Nat) : Int) + 1) := hide (by omega)
                generalize told + j = tj at *
                have hnn : ¬ (P.length : Int) ≤ (tj : Int) := by omega
                clear hpi hsm hjl
                generalize ((P.drop told).take cc).length = TL at *
                go_wp2
                go_roundw
                case rel => exact ⟨j + 1, by omega, by rw [unhide HTJ], by go_num, trivial⟩
                case measure => simp [intOf]; omega
              · obtain rfl : j = cc := by omega
                have hji : ¬ (j : Int) < (((P.drop told).take j).length : Int) := by omega
                obtain ⟨v', W', hrun, g1, g2⟩ := (unhide HY2).2.2.ack ak hB2 (by omega) 39
                have hoa := own_str (unhide HY2).2.2.a
                have HY3 := hide (And.intro ((unhide HY2).rows g1 hoa g2) ((unhide HB2).trans (g2.below hB2 (unhide HY2).2.2.a.own)))
                have hB3 := Nat.le_trans hB2 g2.size
                have MB3 := (unhide MB2).kp g2 (move_str (unhide MB2) (by decide) hoa)
                have m0 := MB3.cell (i := 0) (v := .int .i64 yk) rfl
                obtain ⟨vad', vcp', rfl, _⟩ := g1.a.form
                have hgl3 : g < W'.heap.size := g1.w.lt (k := g) rfl
                clear HY2 HB2 hB2 g1 g2 MB2 MB3 hoa TX
                generalize acks ++ [ak] = acks2 at *
                generalize told + j = t2 at *
                generalize ((P.drop told).take j).length = TL at *
                go_wp2_with (at_builtin; refine wpList_app_run rfl _ _ 39 rfl rfl rfl hrun ?_)
                clear hrun
                go_wp2_with fail
                refine (unhide AM2 _).mono ?_
                rintro r' w4 ⟨rfl, rfl⟩
                clear AM2
                go_upto_region 51 with fail
                obtain ⟨V, hV⟩ : ∃ V, V = w4.drew := ⟨_, rfl⟩
                have kV : Kp [] w4 V := by rw [hV]; exact Kp.drew _
                have hB4 := Nat.le_trans hB3 kV.size
                have HYV := hide (And.intro ((unhide HY3).1.kp kV) ((unhide HY3).2.trans (kV.below hB3 (by simp))))
                obtain ⟨g1, c1, X1, r1, g2, c2, X2, r2x, hr, hk⟩ := (unhide HYV).1.2.2.cut rfl q hql hB4 (by omega) hcp (fun i hi => by
                  obtain ⟨_, _, _, e, _, _, _, _, hx⟩ := (unhide HYV).1.2.2.w.cells (by omega)
                  injection e with e1 e2 e3
                  injection e1 with e1
                  injection e1 with e1 e4
                  subst e1 e4
                  exact hx i hi) 39
                have HY4 := hide (And.intro ((unhide HYV).1.rows (F := []) hr (fun k hk => by cases hk) hk) ((unhide HYV).2.trans (hk.below hB4 (by simp))))
                have hwe : (ways.eraseIdx q).length ≤ 800 := by
                  have := List.length_eraseIdx_le ways q
                  omega
                have HL3 := hide ((unhide HL2).ways (ways' := ways.eraseIdx q) (fun d hd => (unhide HL2).wy d (List.mem_of_mem_eraseIdx hd)))
                have hqc : (q : Int) ≤ (wcp : Int) := by omega
                obtain ⟨J, hJ⟩ : ∃ J, J = q + 1 := ⟨_, rfl⟩
                have hJw : IntKind.i64.wrap ((q : Int) + 1) = (J : Int) := by rw [hJ]; unfold IntKind.wrap; simp [IntKind.signed, go_sem]; omega
                have hJb : (0 ≤ (J : Int) ∧ (J : Int) ≤ (ways.length : Int)) = True := eq_true (by omega)
                have hJn : J ≤ ways.length := by omega
                have hqn : q ≤ wcp := by omega
                rw [← hJ] at r2x
                obtain ⟨nad, hnad⟩ : ∃ nad : Option Addr, nad = if wcp = J then some ⟨g, off, none⟩ else some ⟨g, off + J, none⟩ := ⟨_, rfl⟩
                rw [← hnad] at r2x
                have hnad2 : (if wcp = J then some (⟨g, off, none⟩ : Addr) else some ⟨g, off + J, none⟩) = nad := hnad.symm
                clear hnad
                clear hr hk HY3 HYV HL2 hB3 hB4 kV hJ
                generalize ways.eraseIdx q = ways2 at *
                refine wp_region_held_drew (S := fun _ => True) (by kernel_rfl) trivial (fun hHeld => ?_)
                rw [← hV]
                clear hV
                show wpAnyH _ _ _ _ _ 11 (Array.replicate 11 false) _ _
                refine wpAnyH_take (i := 1) (oi := { dst := some 210, op := Op.move (Operand.tmp 12), type := 39, pos := "theorems.go:83", after := #[], guard := none }) (v := ?_) rfl (by kernel_rfl) (by kernel_rfl) (by kernel_rfl) (fun _ _ _ h => h) (Or.inl ⟨by rfl, ?_⟩) (by assumption) ?_
                rotate_left 1
                · intro w0 hSw
                  (try dsimp only at hSw)
                  go_simp
                  (try with_reducible rfl)
                try simp only [Act.put, List.setIfInBounds_toArray, List.set_cons_zero, List.set_cons_succ]
                refine wpAnyH_take (i := 2) (oi := { dst := some 211, op := Op.move (Operand.tmp 20), type := 3, pos := "theorems.go:83", after := #[], guard := none }) (v := ?_) rfl (by kernel_rfl) (by kernel_rfl) (by kernel_rfl) (fun _ _ _ h => h) (Or.inl ⟨by rfl, ?_⟩) (by assumption) ?_
                rotate_left 1
                · intro w0 hSw
                  (try dsimp only at hSw)
                  go_simp
                  (try with_reducible rfl)
                try simp only [Act.put, List.setIfInBounds_toArray, List.set_cons_zero, List.set_cons_succ]
                refine wpAnyH_take (i := 3) (oi := { dst := some 212, op := Op.slice 39 (Operand.tmp 210) none (some (Operand.tmp 211)) none, type := 39, pos := "theorems.go:83", after := #[{ on := 1, ground := Ground.data }, { on := 2, ground := Ground.data }], guard := none }) (v := ?_) rfl (by kernel_rfl) (by kernel_rfl) (by kernel_rfl) (fun _ _ _ h => h) (Or.inl ⟨by rfl, ?_⟩) (by assumption) ?_
                rotate_left 1
                · intro w0 hSw
                  (try dsimp only at hSw)
                  go_simp
                  (try with_reducible rfl)
                try simp only [Act.put, List.setIfInBounds_toArray, List.set_cons_zero, List.set_cons_succ]
                refine wpAnyH_take (i := 5) (oi := { dst := some 214, op := Op.move (Operand.tmp 12), type := 39, pos := "theorems.go:83", after := #[], guard := none }) (v := ?_) rfl (by kernel_rfl) (by kernel_rfl) (by kernel_rfl) (fun _ _ _ h => h) (Or.inl ⟨by rfl, ?_⟩) (by assumption) ?_
                rotate_left 1
                · intro w0 hSw
                  (try dsimp only at hSw)
                  go_simp
                  (try with_reducible rfl)
                try simp only [Act.put, List.setIfInBounds_toArray, List.set_cons_zero, List.set_cons_succ]
                refine wpAnyH_take (i := 6) (oi := { dst := some 215, op := Op.move (Operand.tmp 20), type := 3, pos := "theorems.go:83", after := #[], guard := none }) (v := ?_) rfl (by kernel_rfl) (by kernel_rfl) (by kernel_rfl) (fun _ _ _ h => h) (Or.inl ⟨by rfl, ?_⟩) (by assumption) ?_
                rotate_left 1
                · intro w0 hSw
                  (try dsimp only at hSw)
                  go_simp
                  (try with_reducible rfl)
                try simp only [Act.put, List.setIfInBounds_toArray, List.set_cons_zero, List.set_cons_succ]
                refine wpAnyH_take (i := 7) (oi := { dst := some 216, op := Op.binOp BinOp.add 3 (Operand.tmp 215) (Operand.const (Value.int IntKind.i64 1)) 3, type := 3, pos := "theorems.go:83", after := #[{ on := 6, ground := Ground.data }], guard := none }) (v := ?_) rfl (by kernel_rfl) (by kernel_rfl) (by kernel_rfl) (fun _ _ _ h => h) (Or.inl ⟨by rfl, ?_⟩) (by assumption) ?_
                rotate_left 1
                · intro w0 hSw
                  (try dsimp only at hSw)
                  go_simp
                  (try with_reducible rfl)
                try simp only [Act.put, List.setIfInBounds_toArray, List.set_cons_zero, List.set_cons_succ]
                refine wpAnyH_take (i := 8) (oi := { dst := some 217, op := Op.slice 39 (Operand.tmp 214) (some (Operand.tmp 216)) none none, type := 39, pos := "theorems.go:83", after := #[{ on := 5, ground := Ground.data }, { on := 7, ground := Ground.data }], guard := none }) (v := ?_) rfl (by kernel_rfl) (by kernel_rfl) (by kernel_rfl) (fun _ _ _ h => h) (Or.inl ⟨by rfl, ?_⟩) (by assumption) ?_
                rotate_left 1
                · intro w0 hSw
                  (try dsimp only at hSw)
                  go_simp
                  (try with_reducible rfl)
                try simp only [Act.put, List.setIfInBounds_toArray, List.set_cons_zero, List.set_cons_succ]
                refine wpAnyH_ready (rs := [0]) (by kernel_rfl) (by simp) ?_
                refine AllReadyH.cons (o := { dst := some 209, op := Op.buildSlice 39 0 #[], type := 39, pos := "theorems.go:83", after := #[], guard := none }) rfl (fun K hK => ?_) (AllReadyH.nil)
                go_simp
                refine hK.out _ _ trivial (fun hHeld => ?_)
                clear hK K
                try simp only [Act.put, List.setIfInBounds_toArray, List.set_cons_zero, List.set_cons_succ]
                refine wpAnyH_ready (rs := [4]) (by kernel_rfl) (by simp) ?_
                refine AllReadyH.cons (o := { dst := some 213, op := Op.call { callee := Callee.builtin Builtin.append, args := #[Operand.tmp 209, Operand.tmp 212], argTypes := #[39, 39] }, type := 39, pos := "theorems.go:83", after := #[{ on := 0, ground := Ground.data }, { on := 3, ground := Ground.data }], guard := none }) rfl (fun K hK => ?_) (AllReadyH.nil)
                refine step_app_run rfl (.tmp 209) (.tmp 212) 39 rfl rfl rfl r1 ?_
                refine hK.out _ _ trivial (fun hHeld => ?_)
                clear hK K
                try simp only [Act.put, List.setIfInBounds_toArray, List.set_cons_zero, List.set_cons_succ]
                refine wpAnyH_ready (rs := [9]) (by kernel_rfl) (by simp) ?_
                refine AllReadyH.cons (o := { dst := some 218, op := Op.call { callee := Callee.builtin Builtin.append, args := #[Operand.tmp 213, Operand.tmp 217], argTypes := #[39, 39] }, type := 39, pos := "theorems.go:83", after := #[{ on := 4, ground := Ground.data }, { on := 8, ground := Ground.data }, { on := 4, ground := Ground.chain }], guard := none }) rfl (fun K hK => ?_) (AllReadyH.nil)
                refine step_app_run rfl (.tmp 213) (.tmp 217) 39 rfl rfl rfl r2x ?_
                refine hK.out _ _ trivial (fun hHeld => ?_)
                clear hK K
                try simp only [Act.put, List.setIfInBounds_toArray, List.set_cons_zero, List.set_cons_succ]
                refine wpAnyH_take (i := 10) (oi := { dst := some 12, op := Op.assign (Operand.tmp 218), type := 39, pos := "theorems.go:83", after := #[{ on := 9, ground := Ground.data }, { on := 9, ground := Ground.chain }, { on := 0, ground := Ground.phase }, { on := 1, ground := Ground.phase }, { on := 2, ground := Ground.phase }, { on := 3, ground := Ground.phase }, { on := 4, ground := Ground.phase }, { on := 5, ground := Ground.phase }, { on := 6, ground := Ground.phase }, { on := 7, ground := Ground.phase }, { on := 8, ground := Ground.phase }, { on := 9, ground := Ground.phase }], guard := none }) (v := ?_) rfl (by kernel_rfl) (by kernel_rfl) (by kernel_rfl) (fun _ _ _ h => h) (Or.inl ⟨by rfl, ?_⟩) (by assumption) ?_
                rotate_left 1
                · intro w0 hSw
                  (try dsimp only at hSw)
                  go_simp
                  (try with_reducible rfl)
                try simp only [Act.put, List.setIfInBounds_toArray, List.set_cons_zero, List.set_cons_succ]
                refine wpAnyH_done (by kernel_rfl) ?_ _
                clear r1 r2x
                have NX := hide ((unhide HY4).1.2.1.elim fun q h => lNextR_any c q r2 X2 h.1)
                have LF := hide ((unhide HY4).1.1.elim fun v h => lLeft_any b v s X2 h.1)
                rw [(unhide HL3).nx] at NX
                have hl9 := (unhide HL3).len
                have hf9 := (unhide HL3).fs
                have hp9 := (unhide HL3).pl
                have hsub : (P.length : Int) - (s.left.length : Int) = (s.first : Int) := by omega
                have hle : ¬ (t2 : Int) < (s.first : Int) := by omega
                have hfb : s.first ≤ 300 := by omega
                clear hl9 hf9 hp9
                go_wp2_with fail
                refine (unhide NX).mono ?_
                rintro r9 w9 ⟨rfl, rfl⟩
                go_wp2_with fail
                refine (unhide LF).mono ?_
                rintro r9 w9 ⟨rfl, rfl⟩
                clear NX LF
                go_wp2
                go_roundw
                case rel => exact ⟨i + 1, t2, now, P, ways2, acks2, s, r2, by omega, by omega, rfl, rfl, by go_num, by omega, by omega, by omega, by omega, HL3, HY4⟩
                case measure => simp [intOf]; omega
      · as_aux_lemma =>
          rw [hz] at AM
          go_wp2_with fail
          refine (unhide AM _).mono ?_
          rintro r' w1' ⟨rfl, rfl⟩
          clear AM hz
          by_cases h5 : 0 < acks.length
          · have h5i : (0 : Int) < (acks.length : Int) := by omega
            have hne : (acks.length : Int) ≠ 0 := by omega
            obtain ⟨q, hq⟩ : ∃ q : Nat, yn % (acks.length : Int) = (q : Int) := ⟨(yn % (acks.length : Int)).toNat, by have := Int.emod_nonneg yn hne; omega⟩
            have hql : q < acks.length := by have := Int.emod_lt_of_pos yn h5i; omega
            have hqi : (q : Int) < (acks.length : Int) := by omega
            have AN := hide (fun W => unhide AMA yn (acks.length : Int) W h5i (by omega))
            rw [hq] at AN
            obtain ⟨g, cp, e, cg⟩ := row_get (unhide HY).1.2.2.a (List.getElem?_eq_getElem hql)
            obtain ⟨z1, z2, z3⟩ := (unhide HLo).heard (List.getElem_mem hql)
            have HE := hide (lHeard_any _ b s acks[q] w1' (unhide HY).1.1 (unhide HLo).so (by omega))
            rw [z2] at HE
            have HL2 := hide z3
            injection e with e1 e2 e3
            subst e1 e3
            clear z1 z2 z3 HLo hq AMA hne
            generalize lhS s acks[q] = s2 at *
            generalize acks[q] = a at *
            go_wp2_with fail
            refine (unhide AN _).mono ?_
            rintro r' w2' ⟨rfl, rfl⟩
            clear AN
            go_wp2_with fail
            refine (unhide HE).mono ?_
            rintro r' w2 ⟨rfl, a1, a2⟩
            have HY2 := hide (And.intro ((unhide HY).1.sd a1 a2) ((unhide HY).2.trans (a2.below (unhide HY).2.size)))
            clear a1 a2 HE HY m0 m1 m2 MB cg
            have NX := hide ((unhide HY2).1.2.1.elim fun q h => lNextR_any c q r w2 h.1)
            have LF := hide ((unhide HY2).1.1.elim fun v h => lLeft_any b v s2 w2 h.1)
            rw [(unhide HL2).nx] at NX
            have hl9 := (unhide HL2).len
            have hf9 := (unhide HL2).fs
            have hp9 := (unhide HL2).pl
            have hsub : (P.length : Int) - (s2.left.length : Int) = (s2.first : Int) := by omega
            have hle : ¬ (told : Int) < (s2.first : Int) := by omega
            have hfb : s2.first ≤ 300 := by omega
            clear hl9 hf9 hp9
            go_wp2_with fail
            refine (unhide NX).mono ?_
            rintro r9 w9 ⟨rfl, rfl⟩
            go_wp2_with fail
            refine (unhide LF).mono ?_
            rintro r9 w9 ⟨rfl, rfl⟩
            clear NX LF
            go_wp2
            go_roundw
            case rel => exact ⟨i + 1, told, now, P, ways, acks, s2, r, by omega, by omega, rfl, rfl, by go_num, by omega, by omega, by omega, by omega, HL2, HY2⟩
            case measure => simp [intOf]; omega
          · have h5i : ¬ (0 : Int) < (acks.length : Int) := by omega
            clear AMA
            have NX := hide ((unhide HY).1.2.1.elim fun q h => lNextR_any c q r w1' h.1)
            have LF := hide ((unhide HY).1.1.elim fun v h => lLeft_any b v s w1' h.1)
            rw [(unhide HLo).nx] at NX
            have hl9 := (unhide HLo).len
            have hf9 := (unhide HLo).fs
            have hp9 := (unhide HLo).pl
            have hsub : (P.length : Int) - (s.left.length : Int) = (s.first : Int) := by omega
            have hle : ¬ (told : Int) < (s.first : Int) := by omega
            have hfb : s.first ≤ 300 := by omega
            clear hl9 hf9 hp9
            go_wp2_with fail
            refine (unhide NX).mono ?_
            rintro r9 w9 ⟨rfl, rfl⟩
            go_wp2_with fail
            refine (unhide LF).mono ?_
            rintro r9 w9 ⟨rfl, rfl⟩
            clear NX LF
            go_wp2
            go_roundw
            case rel => exact ⟨i + 1, told, now, P, ways, acks, s, r, by omega, by omega, rfl, rfl, by go_num, by omega, by omega, by omega, by omega, HLo, HY⟩
            case measure => simp [intOf]; omega
      · as_aux_lemma =>
          rw [hz] at AM
          go_wp2_with fail
          refine (unhide AM _).mono ?_
          rintro r' w1' ⟨rfl, rfl⟩
          clear AM AMA hz
          cases ways with
          | nil =>
            rw [List.length_nil] at *
            have NX := hide ((unhide HY).1.2.1.elim fun q h => lNextR_any c q r w1' h.1)
            have LF := hide ((unhide HY).1.1.elim fun v h => lLeft_any b v s w1' h.1)
            rw [(unhide HLo).nx] at NX
            have hl9 := (unhide HLo).len
            have hf9 := (unhide HLo).fs
            have hp9 := (unhide HLo).pl
            have hsub : (P.length : Int) - (s.left.length : Int) = (s.first : Int) := by omega
            have hle : ¬ (told : Int) < (s.first : Int) := by omega
            have hfb : s.first ≤ 300 := by omega
            clear hl9 hf9 hp9
            go_wp2_with fail
            refine (unhide NX).mono ?_
            rintro r9 w9 ⟨rfl, rfl⟩
            go_wp2_with fail
            refine (unhide LF).mono ?_
            rintro r9 w9 ⟨rfl, rfl⟩
            clear NX LF
            go_wp2
            go_roundw
            case rel => exact ⟨i + 1, told, now, P, [], acks, s, r, by omega, by omega, rfl, rfl, by go_num, by omega, by omega, by omega, by omega, HLo, HY⟩
            case measure => simp [intOf]; omega
          | cons d rest =>
            obtain ⟨g, off, cp, e, _, _, hcp, hcm, _⟩ := (unhide HY).1.2.2.w.cells (by simp)
            injection e with e1 e2 e3
            subst e1 e3
            rw [List.length_cons] at *
            have h5i : (0 : Int) < ((rest.length + 1 : Nat) : Int) := by omega
            have hc1 : (1 : Int) ≤ ((rest.length + 1 : Nat) : Int) := by omega
            obtain ⟨nad, hnad⟩ : ∃ nad : Option Addr, nad = if wcp = 1 then some ⟨g, off, none⟩ else some ⟨g, off + 1, none⟩ := ⟨_, rfl⟩
            have HY2 : Hid (Lyi w.heap.size w1' b c (.slice pad P.length pcp) (.slice nad rest.length (wcp - 1)) (.slice aad acks.length acp) P rest acks s r ∧ Below w.heap.size w w1') := hide ⟨⟨(unhide HY).1.1, (unhide HY).1.2.1, (unhide HY).1.2.2.way ((Kp.refl [] w1').mono (by simp)) (by rw [hnad]; exact (unhide HY).1.2.2.w.tail) (Or.inl (by rw [hnad]; split <;> rfl))⟩, (unhide HY).2⟩
            have HL2 := hide ((unhide HLo).ways (ways' := rest) (fun x hx => (unhide HLo).wy x (List.mem_cons_of_mem _ hx)))
            have hwr : rest.length ≤ 800 := by omega
            have hnad2 : (if wcp = 1 then some (⟨g, off, none⟩ : Addr) else some ⟨g, off + 1, none⟩) = nad := hnad.symm
            have hrn : rest.length + 1 - 1 = rest.length := by omega
            clear HY HLo m0 m1 m2 MB hnad
            have NX := hide ((unhide HY2).1.2.1.elim fun q h => lNextR_any c q r w1' h.1)
            have LF := hide ((unhide HY2).1.1.elim fun v h => lLeft_any b v s w1' h.1)
            rw [(unhide HL2).nx] at NX
            have hl9 := (unhide HL2).len
            have hf9 := (unhide HL2).fs
            have hp9 := (unhide HL2).pl
            have hsub : (P.length : Int) - (s.left.length : Int) = (s.first : Int) := by omega
            have hle : ¬ (told : Int) < (s.first : Int) := by omega
            have hfb : s.first ≤ 300 := by omega
            clear hl9 hf9 hp9
            go_wp2_with fail
            refine (unhide NX).mono ?_
            rintro r9 w9 ⟨rfl, rfl⟩
            go_wp2_with fail
            refine (unhide LF).mono ?_
            rintro r9 w9 ⟨rfl, rfl⟩
            clear NX LF
            go_wp2
            go_roundw
            case rel => exact ⟨i + 1, told, now, P, rest, acks, s, r, by omega, by omega, rfl, rfl, by go_num, by omega, by omega, by omega, by omega, HL2, HY2⟩
            case measure => simp [intOf]; omega
      · as_aux_lemma =>
          rw [hz] at AM
          go_wp2_with fail
          refine (unhide AM _).mono ?_
          rintro r' w1' ⟨rfl, rfl⟩
          clear AM
          by_cases h5 : ways.length = 0
          · have hwe : ways = [] := List.eq_nil_of_length_eq_zero h5
            subst hwe
            clear AMA hz h5
            rw [List.length_nil] at *
            go_wp2
            go_roundw
            case rel => exact ⟨i + 1, told, now, P, [], acks, s, r, by omega, by omega, rfl, rfl, by go_num, by omega, by omega, by omega, by omega, HLo, HY⟩
            case measure => simp [intOf]; omega
          · have h5b : ((ways.length : Int) == 0) = false := beq_eq_false_iff_ne.2 (by omega)
            have h5i : (0 : Int) < (ways.length : Int) := by omega
            have hne : (ways.length : Int) ≠ 0 := by omega
            obtain ⟨q, hq⟩ : ∃ q : Nat, yn % (ways.length : Int) = (q : Int) := ⟨(yn % (ways.length : Int)).toNat, by have := Int.emod_nonneg yn hne; omega⟩
            have hql : q < ways.length := by have := Int.emod_lt_of_pos yn h5i; omega
            have hqi : (q : Int) < (ways.length : Int) := by omega
            have AN := hide (fun W => unhide AMA yn (ways.length : Int) W h5i (by omega))
            rw [hq] at AN
            have AM2 := hide (fun W => unhide AMA yk 7 W (by decide) (by decide))
            rw [hz] at AM2
            obtain ⟨g, off, cp, e, _, hgl, hcp, hcm, hcs⟩ := (unhide HY).1.2.2.w.cells (by omega)
            injection e with e1 e2 e3
            subst e1 e3
            have cq := hcs q hql
            have hwq : ways[q] ∈ ways := List.getElem_mem hql
            obtain ⟨z1, cc, z2, z3, z4, z5⟩ := (unhide HLo).take ((unhide HLo).wy _ hwq)
            have TA := hide (lTake_any _ c r ways[q] w1' (unhide HY).1.2.1 (unhide HLo).ro (((unhide HLo).wy _ hwq).size (unhide HLo).pl (unhide HLo).sz))
            rw [z1, z3, z4] at TA
            have HL2 := hide z5
            have hPL : P.length ≤ 300 := (unhide HLo).pl
            have hAL2 : (acks ++ [ackB 5 ((told + cc : Nat) : Int)]).length ≤ i + 1 := by rw [List.length_append]; simp; omega
            clear z1 z3 z4 z5 HLo hq AMA hne hcs hwq hz
            generalize ltR r ways[q] = r2 at *
            generalize ackB 5 ((told + cc : Nat) : Int) = ak at *
            generalize ways[q] = d at *
            go_wp2_with fail
            refine (unhide AN _).mono ?_
            rintro r' w2' ⟨rfl, rfl⟩
            clear AN
            go_wp2_with fail
            refine (unhide TA).mono ?_
            rintro r' w2 ⟨v, rfl, tx, a1, a2⟩
            have hB2 := Nat.le_trans (unhide hBW) a2.size
            have HY2 := hide ((unhide HY).1.rc a1 a2)
            have HB2 := hide ((unhide HY).2.trans (a2.below (unhide HY).2.size))
            have MB2 := hide ((unhide MB).ko a2 (Or.inr rfl))
            obtain ⟨vad, vcp, rfl, _⟩ := tx.form
            have TX := hide tx
            have hTl : ((P.drop told).take cc).length = cc := by rw [List.length_take, List.length_drop]; omega
            clear a1 a2 TA HY tx m0 m1 m2 MB cq
            go_wp2_with fail
            go_loopw [14, 182] (fun tv jv wr3 => ∃ j : Nat, j ≤ cc ∧ tv = .int .i64 ((told + j : Nat) : Int) ∧ jv = .int .i64 (j : Int) ∧ wr3 = w2) (fun _ jv _ => cc - (intOf jv).toNat)
            case atStart => exact ⟨0, Nat.zero_le _, rfl, rfl, rfl⟩
            case round =>
              obtain ⟨j, hjc, rfl, rfl, hw⟩ := hrel
              obtain rfl := hw.symm
              by_cases hj : j < cc
              · have hji : (j : Int) < (((P.drop told).take cc).length : Int) := by omega
                have hjl : j < ((P.drop told).take cc).length := by omega
                have hpl2 : told + j < P.length := by omega
                have hpi : ¬ (P.length : Int) ≤ ((told + j : Nat) : Int) := by omega
                have hpi2 : ((told + j : Nat) : Int) < (P.length : Int) := by omega
                obtain ⟨g3, cp3, e, cg⟩ := row_get (unhide TX) (List.getElem?_eq_getElem hjl)
                obtain ⟨g4, cp4, e4, cg4⟩ := row_get (unhide HY2).2.2.p (List.getElem?_eq_getElem hpl2)
                have hsm : ((P.drop told).take cc)[j] = P[told + j] := by rw [List.getElem_take, List.getElem_drop]
                rw [hsm] at cg
                injection e with e1 e2 e3
                injection e4 with e5 e6 e7
                subst e1 e3 e5 e7
                generalize P[told + j] = z at *
                have HTJ : Hid (((told + (j + 1) : Nat) : Int) = ((told + j : Nat) : Int) + 1) := hide (by omega)
                generalize told + j = tj at *
                have hnn : ¬ (P.length : Int) ≤ (tj : Int) := by omega
                clear hpi hsm hjl
                generalize ((P.drop told).take cc).length = TL at *
                go_wp2
                go_roundw
                case rel => exact ⟨j + 1, by omega, by rw [unhide HTJ], by go_num, trivial⟩
                case measure => simp [intOf]; omega
              · obtain rfl : j = cc := by omega
                have hji : ¬ (j : Int) < (((P.drop told).take j).length : Int) := by omega
                obtain ⟨v', W', hrun, g1, g2⟩ := (unhide HY2).2.2.ack ak hB2 (by omega) 39
                have hoa := own_str (unhide HY2).2.2.a
                have HY3 := hide (And.intro ((unhide HY2).rows g1 hoa g2) ((unhide HB2).trans (g2.below hB2 (unhide HY2).2.2.a.own)))
                have hB3 := Nat.le_trans hB2 g2.size
                have MB3 := (unhide MB2).kp g2 (move_str (unhide MB2) (by decide) hoa)
                have m0 := MB3.cell (i := 0) (v := .int .i64 yk) rfl
                obtain ⟨vad', vcp', rfl, _⟩ := g1.a.form
                have hgl3 : g < W'.heap.size := g1.w.lt (k := g) rfl
                clear HY2 HB2 hB2 g1 g2 MB2 MB3 hoa TX
                generalize acks ++ [ak] = acks2 at *
                generalize told + j = t2 at *
                generalize ((P.drop told).take j).length = TL at *
                go_wp2_with (at_builtin; refine wpList_app_run rfl _ _ 39 rfl rfl rfl hrun ?_)
                clear hrun
                go_wp2_with fail
                refine (unhide AM2 _).mono ?_
                rintro r' w4 ⟨rfl, rfl⟩
                clear AM2
                have NX := hide ((unhide HY3).1.2.1.elim fun q h => lNextR_any c q r2 w4 h.1)
                have LF := hide ((unhide HY3).1.1.elim fun v h => lLeft_any b v s w4 h.1)
                rw [(unhide HL2).nx] at NX
                have hl9 := (unhide HL2).len
                have hf9 := (unhide HL2).fs
                have hp9 := (unhide HL2).pl
                have hsub : (P.length : Int) - (s.left.length : Int) = (s.first : Int) := by omega
                have hle : ¬ (t2 : Int) < (s.first : Int) := by omega
                have hfb : s.first ≤ 300 := by omega
                clear hl9 hf9 hp9
                go_wp2_with fail
                refine (unhide NX).mono ?_
                rintro r9 w9 ⟨rfl, rfl⟩
                go_wp2_with fail
                refine (unhide LF).mono ?_
                rintro r9 w9 ⟨rfl, rfl⟩
                clear NX LF
                go_wp2
                go_roundw
                case rel => exact ⟨i + 1, t2, now, P, ways, acks2, s, r2, by omega, by omega, rfl, rfl, by go_num, by omega, by omega, by omega, by omega, HL2, HY3⟩
                case measure => simp [intOf]; omega
      · as_aux_lemma =>
          rw [hz] at AM
          go_wp2_with fail
          refine (unhide AM _).mono ?_
          rintro r' w1' ⟨rfl, rfl⟩
          clear AM hz
          obtain ⟨q, hq⟩ : ∃ q : Nat, yn % 5 = (q : Int) := ⟨(yn % 5).toNat, by have := Int.emod_nonneg yn (show (5 : Int) ≠ 0 by decide); omega⟩
          have hq4 : q ≤ 4 := by have := Int.emod_lt_of_pos yn (show (0 : Int) < 5 by decide); omega
          have AN := hide (fun W => unhide AMA yn 5 W (by decide) (by decide))
          rw [hq] at AN
          have NO := hide (fun W => newSender_ok (q : Int) 4 1 W (by unfold lepB lstB; simp; omega))
          obtain ⟨o1, o2, o3⟩ := other_due q hq4
          have so0 : SOk (sd0 (q : Int) 4 1) := sd0_ok (by unfold lepB lstB; simp; omega)
          have so1 := so0.luS xO
          obtain ⟨t1, t2, t3, t4⟩ := (unhide HLo).stale q hq4
          have PU := hide (fun B W o (h : SdAt B W o (sd0 (q : Int) 4 1)) => lPush_any B o _ xO W h so0 (by decide))
          have DU := hide (fun B W o (h : SdAt B W o (luS (sd0 (q : Int) 4 1) xO)) => lDue_any B o _ 0 W h so1)
          have TA := hide (fun W (h : RcAt w.heap.size W c r) => lTake_any _ c r (dataB (q : Int) 0 xO) W h (unhide HLo).ro (by have := dataB_size (ep := (q : Int)) (n := 0) (b := xO) (by omega) (by omega) (by decide) (by decide) (by decide); omega))
          rw [o1] at PU
          rw [o2, o3] at DU
          rw [t1, t2, t3, t4] at TA
          have HX : Hid (xO = ⟨#[97, 110, 111, 116, 104, 101, 114]⟩) := hide rfl
          clear o1 o2 o3 t1 t2 t3 t4 so0 so1 hq AMA
          generalize luS (sd0 (q : Int) 4 1) xO = q1 at *
          generalize dataB (q : Int) 0 xO = d at *
          rw [unhide HX] at PU
          clear HX
          go_wp2_with fail
          refine (unhide AN _).mono ?_
          rintro r' w2' ⟨rfl, rfl⟩
          clear AN
          go_wp2_with fail
          refine (unhide NO _).mono ?_
          rintro r' w2 ⟨o, rfl, h2, k2⟩
          have HO := hide h2
          have KO : Hid (Ko sdO w2'.heap.size w2' w2) := hide (Ko.nil k2)
          clear h2 k2 NO
          go_wp2_with fail
          refine (unhide PU _ _ _ (unhide HO)).mono ?_
          rintro r' w4 ⟨rfl, a1, a2⟩
          have HO4 := hide a1
          have KO4 := hide ((unhide KO).trans a2)
          clear a1 a2 PU HO KO
          go_wp2_with fail
          refine (unhide DU _ _ _ (unhide HO4)).mono ?_
          rintro r' w5 ⟨v, rfl, tx, a1, a2⟩
          have KO5 := hide ((unhide KO4).trans a2)
          obtain ⟨g, cp, rfl, cg⟩ := row_get tx (i := 0) (d := d) rfl
          have HY5 := hide (And.intro ((unhide HY).1.other (unhide KO5) rfl) ((unhide HY).2.trans (((unhide KO5).below (Nat.le_refl _)).mono (unhide HY).2.size)))
          clear a1 a2 DU HO4 KO4 KO5 tx HY m0 m1 m2 MB
          have hl1 : ([d].length : Int) = 1 := rfl
          have hl1n : [d].length = 1 := rfl
          rw [hl1n]
          go_wp2_with fail
          refine (unhide TA _ (unhide HY5).1.2.1).mono ?_
          rintro r' w6 ⟨v6, rfl, tx6, a1, a2⟩
          have HY6 := hide (And.intro ((unhide HY5).1.rc a1 a2) ((unhide HY5).2.trans (a2.below (unhide HY5).2.size)))
          obtain ⟨ad6, cp6, rfl, _⟩ := tx6.form
          clear a1 a2 TA HY5 tx6 cg
          rw [List.length_nil]
          have NX := hide ((unhide HY6).1.2.1.elim fun q h => lNextR_any c q r w6 h.1)
          have LF := hide ((unhide HY6).1.1.elim fun v h => lLeft_any b v s w6 h.1)
          rw [(unhide HLo).nx] at NX
          have hl9 := (unhide HLo).len
          have hf9 := (unhide HLo).fs
          have hp9 := (unhide HLo).pl
          have hsub : (P.length : Int) - (s.left.length : Int) = (s.first : Int) := by omega
          have hle : ¬ (told : Int) < (s.first : Int) := by omega
          have hfb : s.first ≤ 300 := by omega
          clear hl9 hf9 hp9
          go_wp2_with fail
          refine (unhide NX).mono ?_
          rintro r9 w9 ⟨rfl, rfl⟩
          go_wp2_with fail
          refine (unhide LF).mono ?_
          rintro r9 w9 ⟨rfl, rfl⟩
          clear NX LF
          go_wp2
          go_roundw
          case rel => exact ⟨i + 1, told, now, P, ways, acks, s, r, by omega, by omega, rfl, rfl, by go_num, by omega, by omega, by omega, by omega, HLo, HY6⟩
          case measure => simp [intOf]; omega
    · have HF := hide (unhide HR).2
      have hout : ¬ (i : Int) < (l.length : Int) ∨ ¬ (i : Int) < 300 := by omega
      clear HR HLo
      by_cases h5 : (i : Int) < (l.length : Int)
      · have h6 : ¬ (i : Int) < 300 := hout.resolve_left (fun h => h h5)
        clear hout
        go_wp2
        go_ret
        exact ⟨rfl, unhide HF⟩
      · clear hout
        go_wp2
        go_ret
        exact ⟨rfl, unhide HF⟩
end Go.Proofs.Ytjacedlfkimlhaa
