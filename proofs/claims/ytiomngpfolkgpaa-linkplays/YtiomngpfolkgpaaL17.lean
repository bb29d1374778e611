/-
  Links: a text that came is kept.
  Links: what is told; the acknowledgement.
-/
import Derived.Test.YtiomngpfolkgpaaL16
namespace Go.Proofs.Ytiomngpfolkgpaa
open Go.RowKit Lk

/-- A number out of the window? -/
def outB (r : Rcv) (n : Nat) : Bool := decide (n < r.next) || decide (r.next + r.wd ≤ n)
theorem lkR_out {r : Rcv} {n : Nat} {t : ByteArray} (h : outB r n = true) : lkR r n t = r := by
  unfold outB at h
  rw [Bool.or_eq_true, decide_eq_true_iff, decide_eq_true_iff] at h
  unfold lkR
  rw [if_neg (by omega)]
theorem lkR_in {r : Rcv} {n : Nat} {t : ByteArray} (h : outB r n = false) : lkR r n t = if erl r.early n = none then ⟨r.ep, r.wd, r.next, r.early ++ [(n, t)]⟩ else r := by
  unfold outB at h
  rw [Bool.or_eq_false_iff, decide_eq_false_iff_not, decide_eq_false_iff_not] at h
  unfold lkR
  by_cases e : erl r.early n = none
  · rw [if_pos ⟨by omega, by omega, e⟩, if_pos e]
  · rw [if_neg (by rintro ⟨_, _, h⟩; exact e h), if_neg e]
theorem RcV.kp {F : List Nat} {w w' : World} {b q : Nat} {r : Rcv} (h : RcV w b q r) (hk : Kp F w w') (hb : b ∉ F) (hq : q ∉ F) : RcV w' b q r := ⟨h.box.kp hk hb, h.map.kp hk hq⟩
set_option maxHeartbeats 8000000 in
set_option maxRecDepth 100000 in
theorem lKeep_any (b q : Nat) (r : Rcv) (ep : Int) (n : Nat) (t : ByteArray) (w : World) (h : RcV w b q r) (hok : ROk r) :
    Calls Try.prog 31 #[.pointer (some ⟨b, 0, none⟩), .agg #[.int .i64 ep, .int .i64 (n : Int), .string t]] w fun e w' => (∃ v, e = .returned v) ∧ RcV w' b q (lkR r n t) ∧ Kp [q] w w' := by
  obtain ⟨W1, hW1⟩ : ∃ W1, W1 = w.alloc (.cells #[.int .i64 ep, .int .i64 (n : Int), .string t] 72) := ⟨_, rfl⟩
  have k1 : Kp [] w W1 := by rw [hW1]; exact Kp.alloc _ _
  have pb : CBox w.heap.size #[.int .i64 ep, .int .i64 (n : Int), .string t] 72 W1 := by rw [hW1]; exact CBox.new _ _ _
  have hqb := h.ne
  have PB := hide pb
  have H1 := hide (h.kp k1 (by simp) (by simp))
  have K1 := hide k1
  have hn1 := hok.n1
  have hw1 := hok.w1
  have CE : Hid (∀ W, Kp [] W1 W → W.cell? ⟨b, 1, none⟩ = some (.int .i64 (r.wd : Int)) ∧ W.cell? ⟨b, 2, none⟩ = some (.int .i64 (r.next : Int)) ∧ W.cell? ⟨b, 3, none⟩ = some (.map (some q)) ∧ W.cell? ⟨w.heap.size, 1, none⟩ = some (.int .i64 (n : Int)) ∧ W.cell? ⟨w.heap.size, 2, none⟩ = some (.string t)) := hide (fun W hk => by
    have h2 := (unhide H1).box.kp hk (by simp)
    have p2 := pb.kp hk (by simp)
    exact ⟨h2.cell rfl, h2.cell rfl, h2.cell rfl, p2.cell rfl, p2.cell rfl⟩)
  have HL : Hid (∀ W, Kp [] W1 W → (Instr.lookup 61 (.map (some q)) (.int .i64 (n : Int)) true).run Try.prog W = .ok (.tuple #[.agg #[.string ((erl r.early n).getD ⟨#[]⟩)], .bool (erl r.early n).isSome]) W) := hide (fun W hk => ((unhide H1).map.kp hk (by simp)).look n)
  have HOUT := hide (fun (hq : outB r n = true) => (lkR_out (t := t) hq))
  have HIN := hide (fun (hq : outB r n = false) => (lkR_in (t := t) hq))
  have HO : Hid (outB r n = (decide (n < r.next) || decide (r.next + r.wd ≤ n))) := hide rfl
  have HST : Hid (∀ W, Kp [] W1 W → erl r.early n = none → ∃ w', (Instr.mapUpdate 61 (.map (some q)) (.int .i64 (n : Int)) (.agg #[.string t])).run Try.prog W = .ok () w' ∧ RcV w' b q ⟨r.ep, r.wd, r.next, r.early ++ [(n, t)]⟩ ∧ Kp [q] w w') := hide (fun W hk he => by
    obtain ⟨w', h1, h2, h3⟩ := ((unhide H1).map.kp hk (by simp)).store n t he
    exact ⟨w', h1, ⟨((unhide H1).box.kp hk (by simp)).kp h3 (by simpa using fun e => hqb e.symm), h2.congr (fun m => (erl_app t he m).symm)⟩, (((unhide K1).trans hk (by simp)).mono (G := [q]) (by simp)).trans h3 (fun _ hx => Or.inl hx)⟩)
  have HE : Hid (∀ W, Kp [] W1 W → RcV W b q r ∧ Kp [q] w W) := hide (fun W hk => ⟨(unhide H1).kp hk (by simp) (by simp), ((unhide K1).trans hk (by simp)).mono (by simp)⟩)
  obtain ⟨c1, c2, c3, p1, p2⟩ := unhide CE W1 (Kp.refl _ _)
  clear h hok k1 pb
  generalize outB r n = Q at *
  generalize hE : erl r.early n = E at *
  have HEE := hide hE
  clear hE
  go_enter Try.func31, Try.ntmps31
  go_upto_region 1 with fail
  rw [← hW1]
  clear hW1
  go_cut [26] (fun qv wc => qv = .bool Q ∧ Kp [] W1 wc)
  case first =>
    by_cases hx : n < r.next
    · have hxi : (n : Int) < (r.next : Int) := by omega
      have HQ : Hid (Q = true) := hide (by rw [unhide HO, decide_eq_true hx]; rfl)
      clear HOUT HIN
      go_quiet (fail)
      go_wp2
      go_meet
      exact ⟨by rw [unhide HQ], Kp.drewQ _ _⟩
    · have hxi : ¬ (n : Int) < (r.next : Int) := by omega
      have hwr : IntKind.i64.wrap ((r.next : Int) + (r.wd : Int)) = ((r.next + r.wd : Nat) : Int) := by unfold IntKind.wrap; simp [IntKind.signed, go_sem]; omega
      by_cases hy : r.next + r.wd ≤ n
      · have HQ : Hid (Q = true) := hide (by rw [unhide HO, decide_eq_true hy, Bool.or_true])
        have hyi : ((r.next + r.wd : Nat) : Int) ≤ (n : Int) := by omega
        generalize r.next + r.wd = T at *
        clear HOUT HIN
        go_quiet (fail)
        go_wp2
        go_meet
        exact ⟨by rw [unhide HQ], Kp.drewQ _ _⟩
      · have HQ : Hid (Q = false) := hide (by rw [unhide HO, decide_eq_false hx, decide_eq_false hy]; rfl)
        have hyi : ¬ ((r.next + r.wd : Nat) : Int) ≤ (n : Int) := by omega
        generalize r.next + r.wd = T at *
        clear HOUT HIN
        go_quiet (fail)
        go_wp2
        go_meet
        exact ⟨by rw [unhide HQ], Kp.drewQ _ _⟩
  case rest =>
    obtain ⟨rfl, kc⟩ := hcut
    cases Q with
    | true =>
      have HF := hide (unhide HE wc kc)
      have HR := hide (unhide HOUT rfl)
      clear HOUT HIN kc HE CE HL HST
      go_wp2
      exact bodyPost_ret (results_none rfl _ _ _) rfl ⟨⟨_, rfl⟩, by rw [unhide HR]; exact (unhide HF).1, (unhide HF).2⟩
    | false =>
      have HR := hide (unhide HIN rfl)
      have KC := hide kc
      obtain ⟨c1, c2, c3, p1, p2⟩ := unhide CE wc kc
      have kd := kc.trans (Kp.drew wc) (by simp)
      have ka := kc.trans (Kp.alloc wc (.cells #[.string ⟨#[]⟩] 97)) (by simp)
      have l1 := unhide HL _ kd
      have l2 := unhide HL _ (ka.trans (Kp.drew _) (by simp))
      obtain ⟨d1, d2, d3, r1, r2⟩ := unhide CE _ ka
      clear HOUT HIN kc kd ka
      go_upto_region 2 with fail
      go_cut [5] (fun ov wd => ov = .bool E.isSome ∧ Kp [] wc wd)
      case first =>
        go_region
        all_goals (go_wp2; go_meet; exact ⟨rfl, (Kp.alloc wc _).trans (Kp.drew _) (by simp)⟩)
      case rest =>
        obtain ⟨rfl, kd⟩ := hcut
        have KD := hide ((unhide KC).trans kd (by simp))
        clear kd KC l1 l2 c1 c2 c3 p1 p2 d1 d2 d3 r1 r2
        cases E with
        | some y =>
          have HF := hide (unhide HE _ (unhide KD))
          clear HE CE HL HST KD
          go_wp2
          go_end0
          exact ⟨⟨_, rfl⟩, by rw [unhide HR, if_neg (by simp)]; exact (unhide HF).1, (unhide HF).2⟩
        | none =>
          obtain ⟨c1, c2, c3, p1, p2⟩ := unhide CE _ ((unhide KD).trans (Kp.drew _) (by simp))
          obtain ⟨w', hmu, hv, hk⟩ := unhide HST _ ((unhide KD).trans (Kp.drew _) (by simp)) rfl
          have HV := hide hv
          have HK := hide hk
          clear hv hk CE HE HL HST
          go_upto_region 4 with fail
          go_region
          all_goals (go_wp2; go_end0; exact ⟨⟨_, rfl⟩, by rw [unhide HR, if_pos trivial]; exact unhide HV, unhide HK⟩)
end Go.Proofs.Ytiomngpfolkgpaa
namespace Go.Proofs.Ytiomngpfolkgpaa
open Go.RowKit Lk

/-- A receiver on its way through what it tells. -/
structure TlS (w : World) (b q : Nat) (r : Rcv) (tv : Value) (ts : List ByteArray) (r2 : Rcv) (W : World) : Prop where
  rc : RcV W b q r2
  tx : TxO w.heap.size W tv ts
  kp : Kp [b, q] w W
  ok : ROk r2
  o : lgO r = ts ++ lgO r2
  e : lgR r = lgR r2
  n : ts.length + r2.early.length ≤ 256
theorem TlS.al {w : World} {b q : Nat} {r : Rcv} {tv : Value} {ts : List ByteArray} {r2 : Rcv} {W W' : World} (h : TlS w b q r tv ts r2 W) (hk : Kp [] W W') : TlS w b q r tv ts r2 W' :=
  ⟨h.rc.kp hk (by simp) (by simp), h.tx.kp hk (by simp), h.kp.trans hk (by simp), h.ok, h.o, h.e, h.n⟩
def lenV : Value → Nat
  | .slice _ n _ => n
  | _ => 0
/-- A text told: behind the deletion, the append and the count. -/
theorem TlS.next {w W3 V3 W4 : World} {b q : Nat} {r r2 : Rcv} {tv tv' : Value} {ts : List ByteArray} {y : ByteArray} {W : World} (h : TlS w b q r tv ts r2 W) (hy : erl r2.early r2.next = some y) (hm : MpIs W3 q (fun m => if m = r2.next then none else erl r2.early m)) (k3 : Kp [q] W W3) (k4 : Kp [] W3 V3) (ht : TxO w.heap.size W4 tv' (ts ++ [y])) (k5 : Kp tv.ownBlock.toList V3 W4) (hlt : b < w.heap.size ∧ q < w.heap.size) :
    W4.cell? ⟨b, 2, none⟩ = some (.int .i64 (r2.next : Int)) ∧ W4.frozen? ⟨b, 2, none⟩ = false ∧ TlS w b q r tv' (ts ++ [y]) ⟨r2.ep, r2.wd, r2.next + 1, erd r2.early r2.next⟩ (W4.setCell ⟨b, 2, none⟩ (.int .i64 ((r2.next + 1 : Nat) : Int))) := by
  have hqb := h.rc.ne
  have hp : ∀ j, tv.ownBlock = some j → w.heap.size ≤ j := fun j hj => (h.tx.block hj).1
  have hb5 : b ∉ tv.ownBlock.toList := fun hm => by have := hp b (by simpa using hm); omega
  have hq5 : q ∉ tv.ownBlock.toList := fun hm => by have := hp q (by simpa using hm); omega
  have b4 := ((h.rc.box.kp k3 (by simpa using fun e => hqb e.symm)).kp k4 (by simp)).kp k5 hb5
  have m4 := (hm.kp k4 (by simp)).kp k5 hq5
  have hset := Kp.set W4 b 2 (.int .i64 ((r2.next + 1 : Nat) : Int))
  have ka : Kp [b, q] w W4 := ((h.kp.trans (k3.mono (G := [b, q]) (by simp)) (fun _ hx => Or.inl hx)).trans k4 (by simp)).trans k5 (fun j hj => Or.inr (hp j (by simpa using hj)))
  obtain ⟨o1, o2⟩ := h.ok.step hy
  obtain ⟨g1, g2⟩ := lgR_go hy
  refine ⟨b4.cell rfl, b4.froz 2, ⟨b4.set 2 _, (m4.kp hset (by simpa using hqb)).congr (fun m => (erl_erd _ _ _).symm)⟩, ?_, ka.trans (hset.mono (G := [b, q]) (by simp)) (fun _ hx => Or.inl hx), o1, ?_, by rw [h.e, g1], ?_⟩
  · refine ht.kp hset (fun j hj hm => ?_)
    have := (ht.block hj).1
    simp at hm
    omega
  · rw [h.o, g2, List.append_assoc]
    rfl
  · have := erd_len hy
    have := h.n
    rw [List.length_append]
    dsimp only
    simp
    omega
set_option maxHeartbeats 8000000 in
set_option maxRecDepth 100000 in
theorem lTell_any (b q : Nat) (r : Rcv) (w : World) (h : RcV w b q r) (hok : ROk r) :
    Calls Try.prog 32 #[.pointer (some ⟨b, 0, none⟩)] w fun e w' => ∃ v, e = .returned v ∧ TxO w.heap.size w' v (lgO r) ∧ RcV w' b q (lgR r) ∧ Kp [b, q] w w' := by
  have HBQ : Hid (b < w.heap.size ∧ q < w.heap.size) := hide ⟨(Array.getElem?_eq_some_iff.1 h.box).1, h.map.lt⟩
  have hqb := h.ne
  have H0 : Hid (TlS w b q r (.slice none 0 0) [] r w) := hide ⟨h, TxO.nil _ _, Kp.refl _ _, hok, rfl, rfl, by have := hok.few; simpa using this⟩
  clear h hok
  go_enter Try.func32, Try.ntmps32
  go_wp2_with fail
  go_loopw [3] (fun tv wr => ∃ (ts : List ByteArray) (r2 : Rcv), Hid (TlS w b q r tv ts r2 wr)) (fun tv _ => 300 - lenV tv)
  case atStart => exact ⟨[], r, H0⟩
  case round =>
    clear H0
    obtain ⟨ts, r2, HT⟩ := hrel
    obtain ⟨tv, htv⟩ : ∃ tv, tv = u3 := ⟨_, rfl⟩
    subst htv
    obtain ⟨y, hy⟩ : ∃ y, y = erl r2.early r2.next := ⟨_, rfl⟩
    have HY : Hid (erl r2.early r2.next = y) := hide hy.symm
    have CE : Hid (∀ W, Kp [] wr W → W.cell? ⟨b, 2, none⟩ = some (.int .i64 (r2.next : Int)) ∧ W.cell? ⟨b, 3, none⟩ = some (.map (some q))) := hide (fun W hk => by
      have h2 := (unhide HT).rc.box.kp hk (by simp)
      exact ⟨h2.cell rfl, h2.cell rfl⟩)
    have HL : Hid (∀ W, Kp [] wr W → (Instr.lookup 61 (.map (some q)) (.int .i64 (r2.next : Int)) true).run Try.prog W = .ok (.tuple #[.agg #[.string (y.getD ⟨#[]⟩)], .bool y.isSome]) W) := hide (fun W hk => by
      rw [hy]
      exact ((unhide HT).rc.map.kp hk (by simp)).look r2.next)
    clear hy
    have kd := Kp.drew wr
    have ka := Kp.alloc wr (.cells #[.string ⟨#[]⟩] 97)
    have l1 := unhide HL _ kd
    have l2 := unhide HL _ (ka.trans (Kp.drew _) (by simp))
    obtain ⟨c2, c3⟩ := unhide CE _ (Kp.refl [] wr)
    obtain ⟨d2, d3⟩ := unhide CE _ ka
    clear kd ka
    have hsz := (unhide HT).kp.size
    go_upto_region 2 with fail
    go_cut [4, 5] (fun pv ov wd => ∃ g, pv = .pointer (some ⟨g, 0, none⟩) ∧ ov = .bool y.isSome ∧ Kp [] wr wd ∧ CBox g #[.string (y.getD ⟨#[]⟩)] 97 wd ∧ w.heap.size ≤ g)
    case first =>
      go_region
      all_goals (go_wp2; go_meet; exact ⟨_, rfl, rfl, (Kp.alloc wr _).trans (Kp.drew _) (by simp), (CBox.new wr _ _).kp (Kp.drew _) (by simp), hsz⟩)
    case rest =>
      obtain ⟨g, rfl, rfl, kd, gb, hgw⟩ := hcut
      clear l1 l2 c2 c3 d2 d3 hsz
      cases y with
      | none =>
        obtain ⟨s1, s2⟩ := lgR_stop (unhide HY)
        have HF := hide (show TxO w.heap.size wc tv (lgO r) ∧ RcV wc b q (lgR r) ∧ Kp [b, q] w wc from by
          have h2 := (unhide HT).al kd
          refine ⟨?_, ?_, h2.kp⟩
          · rw [h2.o, s2, List.append_nil]; exact h2.tx
          · rw [h2.e, s1]; exact h2.rc)
        clear kd gb CE HL HT HY s1 s2
        go_wp2
        go_ret
        exact ⟨_, rfl, unhide HF⟩
      | some y =>
        have kdd := kd.trans (Kp.drew wc) (by simp)
        obtain ⟨c2, c3⟩ := unhide CE _ kd
        obtain ⟨W3, hdl, hmp, k3⟩ := ((unhide HT).rc.map.kp kdd (by simp)).drop r2.next 0
        have HN := hide (fun V3 W4 tv' h1 h2 h3 => TlS.next (V3 := V3) (W4 := W4) (tv' := tv') ((unhide HT).al kdd) (unhide HY) hmp k3 h1 h2 h3 (unhide HBQ))
        have GB3 := hide ((gb.kp (Kp.drew wc) (by simp)).kp k3 (by
          have := (unhide HBQ).2
          simp
          omega))
        have HX := hide (show TxO w.heap.size W3 tv ts ∧ w.heap.size ≤ W3.heap.size ∧ ts.length ≤ 1000000 from by
          have h2 := (unhide HT).al kdd
          have := h2.n
          exact ⟨h2.tx.kp k3 (fun j hj hm => by
            have := (h2.tx.block hj).1
            have := (unhide HBQ).2
            simp at hm
            omega), Nat.le_trans h2.kp.size k3.size, by omega⟩)
        have hn1 := (unhide HT).ok.n1
        have hln := (unhide HT).n
        obtain ⟨tad, tcp, rfl, _⟩ := (unhide HT).tx.form
        clear kd gb CE HL HT HY kdd hmp k3
        go_upto_region 5 with fail
        go_region
        all_goals
          have gy := (unhide GB3).cell (i := 0) (v := .string y) rfl
          have k4 := Kp.alloc W3 (.cells #[.string y] 9)
          obtain ⟨x1, x2, x3⟩ := unhide HX
          obtain ⟨tv', W4, hrun, tx4, k5, _⟩ := (x1.kp k4 (by simp)).push (g := W3.heap.size) (x := y) (Nat.le_trans x2 k4.size) (CBox.new W3 _ _) x3 39
          obtain ⟨n1, n2, n3⟩ := unhide HN _ W4 tv' k4 tx4 k5
          rw [show ((r2.next + 1 : Nat) : Int) = (r2.next : Int) + 1 by omega] at n3
          obtain ⟨tad', tcp', rfl, _⟩ := tx4.form
          have H4 := hide n3
          have hl2 : (ts ++ [y]).length = ts.length + 1 := by simp
          rw [hl2] at hrun H4
          clear n3 x1 x2 x3 tx4 k5 k4 HN GB3 HX c2 c3 hdl hl2
          go_wp2_with (at_builtin; refine wpList_app_run rfl _ _ 39 rfl rfl rfl hrun ?_)
          clear hrun
          go_wp2
          go_roundw
          case rel => exact ⟨_, _, H4⟩
          case measure => simp [lenV]; omega
/-- The acknowledgement. -/
theorem ackB_kp {b q : Nat} {r : Rcv} {w W : World} (h : RcV w b q r) (hk : Kp [] w W) : W.cell? ⟨b, 0, none⟩ = some (.int .i64 r.ep) ∧ W.cell? ⟨b, 2, none⟩ = some (.int .i64 (r.next : Int)) := by
  have h2 := h.box.kp hk (by simp)
  exact ⟨h2.cell rfl, h2.cell rfl⟩
set_option maxHeartbeats 8000000 in
set_option maxRecDepth 100000 in
theorem lAckR_any (b q : Nat) (r : Rcv) (w : World) (h : RcV w b q r) (hok : ROk r) :
    Calls Try.prog 33 #[.pointer (some ⟨b, 0, none⟩)] w fun e w' => e = .returned (.string (ackB r.ep (r.next : Int))) ∧ Kp [] w w' := by
  have HSS : Hid (∀ W, Kp [] w W → W.cell? ⟨b, 0, none⟩ = some (.int .i64 r.ep) ∧ W.cell? ⟨b, 2, none⟩ = some (.int .i64 (r.next : Int))) := hide (fun W hk => ackB_kp h hk)
  have e0 := hok.e0
  have e1 := hok.e1
  have n1 := hok.n1
  have LA := hide (fun W => lAck_any r.ep (r.next : Int) ⟨#[]⟩ W (by omega) (by omega) (by omega) (by omega))
  clear h hok
  generalize ackB r.ep (r.next : Int) = D at *
  go_enter Try.func33, Try.ntmps33
  go_upto_region 1 with fail
  obtain ⟨V, hV⟩ : ∃ V, V = w.drew := ⟨_, rfl⟩
  have KV : Hid (Kp [] w V) := hide (by rw [hV]; exact Kp.drew _)
  refine wp_region_held_drew (S := fun W => W.cell? ⟨b, 0, none⟩ = some (.int .i64 r.ep) ∧ W.cell? ⟨b, 2, none⟩ = some (.int .i64 (r.next : Int))) (by kernel_rfl) (by rw [← hV]; exact unhide HSS V (unhide KV)) (fun hHeld => ?_)
  rw [← hV] at hHeld ⊢
  clear hV
  show wpAnyH _ _ _ _ _ 11 (Array.replicate 11 false) _ _
  refine wpAnyH_take (i := 0) (oi := { dst := some 3, op := Op.move (Operand.tmp 0), type := 32, pos := "receiver.go:61", after := #[], guard := none }) (v := ?_) rfl (by kernel_rfl) (by kernel_rfl) (by kernel_rfl) (fun _ _ _ h => h) (Or.inl ⟨by rfl, ?_⟩) (by assumption) ?_
  rotate_left 1
  · intro w0 hSw
    (try dsimp only at hSw)
    go_simp
    (try with_reducible rfl)
  try simp only [Act.put, List.setIfInBounds_toArray, List.set_cons_zero, List.set_cons_succ]
  refine wpAnyH_take (i := 1) (oi := { dst := some 4, op := Op.nilCheck (Operand.tmp 3), type := 0, pos := "receiver.go:61", after := #[{ on := 0, ground := Ground.data }], guard := none }) (v := ?_) rfl (by kernel_rfl) (by kernel_rfl) (by kernel_rfl) (fun _ _ _ h => h) (Or.inl ⟨by rfl, ?_⟩) (by assumption) ?_
  rotate_left 1
  · intro w0 hSw
    (try dsimp only at hSw)
    go_simp
    (try with_reducible rfl)
  try simp only [Act.put, List.setIfInBounds_toArray, List.set_cons_zero, List.set_cons_succ]
  refine wpAnyH_take (i := 2) (oi := { dst := some 5, op := Op.fieldAddr 63 (Operand.tmp 4) 0, type := 0, pos := "receiver.go:61", after := #[{ on := 1, ground := Ground.data }], guard := none }) (v := ?_) rfl (by kernel_rfl) (by kernel_rfl) (by kernel_rfl) (fun _ _ _ h => h) (Or.inl ⟨by rfl, ?_⟩) (by assumption) ?_
  rotate_left 1
  · intro w0 hSw
    (try dsimp only at hSw)
    go_simp
    (try with_reducible rfl)
  try simp only [Act.put, List.setIfInBounds_toArray, List.set_cons_zero, List.set_cons_succ]
  refine wpAnyH_take (i := 3) (oi := { dst := some 6, op := Op.load 3 (Operand.tmp 5), type := 3, pos := "receiver.go:61", after := #[{ on := 2, ground := Ground.data }], guard := none }) (v := ?_) rfl (by kernel_rfl) (by kernel_rfl) (by kernel_rfl) (fun _ _ _ h => h) (Or.inl ⟨by rfl, ?_⟩) (by assumption) ?_
  rotate_left 1
  · intro w0 hSw
    (try dsimp only at hSw)
    go_simp
    (try with_reducible rfl)
  try simp only [Act.put, List.setIfInBounds_toArray, List.set_cons_zero, List.set_cons_succ]
  refine wpAnyH_take (i := 4) (oi := { dst := some 7, op := Op.move (Operand.tmp 0), type := 32, pos := "receiver.go:61", after := #[], guard := none }) (v := ?_) rfl (by kernel_rfl) (by kernel_rfl) (by kernel_rfl) (fun _ _ _ h => h) (Or.inl ⟨by rfl, ?_⟩) (by assumption) ?_
  rotate_left 1
  · intro w0 hSw
    (try dsimp only at hSw)
    go_simp
    (try with_reducible rfl)
  try simp only [Act.put, List.setIfInBounds_toArray, List.set_cons_zero, List.set_cons_succ]
  refine wpAnyH_take (i := 5) (oi := { dst := some 8, op := Op.nilCheck (Operand.tmp 7), type := 0, pos := "receiver.go:61", after := #[{ on := 4, ground := Ground.data }], guard := none }) (v := ?_) rfl (by kernel_rfl) (by kernel_rfl) (by kernel_rfl) (fun _ _ _ h => h) (Or.inl ⟨by rfl, ?_⟩) (by assumption) ?_
  rotate_left 1
  · intro w0 hSw
    (try dsimp only at hSw)
    go_simp
    (try with_reducible rfl)
  try simp only [Act.put, List.setIfInBounds_toArray, List.set_cons_zero, List.set_cons_succ]
  refine wpAnyH_take (i := 6) (oi := { dst := some 9, op := Op.fieldAddr 63 (Operand.tmp 8) 2, type := 0, pos := "receiver.go:61", after := #[{ on := 5, ground := Ground.data }], guard := none }) (v := ?_) rfl (by kernel_rfl) (by kernel_rfl) (by kernel_rfl) (fun _ _ _ h => h) (Or.inl ⟨by rfl, ?_⟩) (by assumption) ?_
  rotate_left 1
  · intro w0 hSw
    (try dsimp only at hSw)
    go_simp
    (try with_reducible rfl)
  try simp only [Act.put, List.setIfInBounds_toArray, List.set_cons_zero, List.set_cons_succ]
  refine wpAnyH_take (i := 7) (oi := { dst := some 10, op := Op.load 3 (Operand.tmp 9), type := 3, pos := "receiver.go:61", after := #[{ on := 6, ground := Ground.data }], guard := none }) (v := ?_) rfl (by kernel_rfl) (by kernel_rfl) (by kernel_rfl) (fun _ _ _ h => h) (Or.inl ⟨by rfl, ?_⟩) (by assumption) ?_
  rotate_left 1
  · intro w0 hSw
    (try dsimp only at hSw)
    go_simp
    (try with_reducible rfl)
  try simp only [Act.put, List.setIfInBounds_toArray, List.set_cons_zero, List.set_cons_succ]
  refine wpAnyH_take (i := 8) (oi := { dst := some 11, op := Op.build 72 #[(0, Operand.tmp 6), (1, Operand.tmp 10)], type := 72, pos := "receiver.go:61", after := #[{ on := 3, ground := Ground.data }, { on := 7, ground := Ground.data }], guard := none }) (v := ?_) rfl (by kernel_rfl) (by kernel_rfl) (by kernel_rfl) (fun _ _ _ h => h) (Or.inl ⟨by rfl, ?_⟩) (by assumption) ?_
  rotate_left 1
  · intro w0 hSw
    (try dsimp only at hSw)
    go_simp
    (try with_reducible rfl)
  try simp only [Act.put, List.setIfInBounds_toArray, List.set_cons_zero, List.set_cons_succ]
  refine wpAnyH_ready (rs := [9]) (by kernel_rfl) (by simp) ?_
  refine AllReadyH.cons (o := { dst := some 12, op := Op.call { callee := Callee.value (Operand.func 43), args := #[Operand.tmp 11], argTypes := #[72] }, type := 9, pos := "receiver.go:61", after := #[{ on := 8, ground := Ground.data }], guard := none }) rfl (fun K hK => ?_) (AllReadyH.nil)
  go_simp
  refine (unhide LA V).mono ?_
  rintro e V2 ⟨rfl, kb⟩
  have KV2 : Hid (Kp [] w V2) := hide ((unhide KV).trans (Kp.ofBelow kb) (by simp))
  clear kb KV
  refine hK.out _ _ ?_ (fun hHeld => ?_)
  · exact unhide HSS _ (unhide KV2)
  clear hK K
  try simp only [Act.put, List.setIfInBounds_toArray, List.set_cons_zero, List.set_cons_succ]
  refine wpAnyH_take (i := 10) (oi := { dst := some 2, op := Op.assign (Operand.tmp 12), type := 9, pos := "receiver.go:61", after := #[{ on := 9, ground := Ground.data }, { on := 9, ground := Ground.chain }, { on := 0, ground := Ground.phase }, { on := 1, ground := Ground.phase }, { on := 2, ground := Ground.phase }, { on := 3, ground := Ground.phase }, { on := 4, ground := Ground.phase }, { on := 5, ground := Ground.phase }, { on := 6, ground := Ground.phase }, { on := 7, ground := Ground.phase }, { on := 8, ground := Ground.phase }, { on := 9, ground := Ground.phase }], guard := none }) (v := ?_) rfl (by kernel_rfl) (by kernel_rfl) (by kernel_rfl) (fun _ _ _ h => h) (Or.inl ⟨by rfl, ?_⟩) (by assumption) ?_
  rotate_left 1
  · intro w0 hSw
    (try dsimp only at hSw)
    go_simp
    (try with_reducible rfl)
  try simp only [Act.put, List.setIfInBounds_toArray, List.set_cons_zero, List.set_cons_succ]
  refine wpAnyH_done (by kernel_rfl) ?_ _
  go_wp2
  go_ret
  exact ⟨rfl, unhide KV2⟩
end Go.Proofs.Ytiomngpfolkgpaa
