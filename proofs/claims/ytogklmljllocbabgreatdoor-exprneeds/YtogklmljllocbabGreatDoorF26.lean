/-
  hasStages: have all stages that are asked for their names there; Holds.
  Holds: whether a condition holds, as the plain function has it.
  whole of weaverlaw11.
  The reader: how it lies; the word at hand.
-/
import Derived.Test.YtogklmljllocbabGreatDoorF25
import Derived.Deep.QuietTactic
import Derived.Test.YtogklmljllocbabGreatDoorF22
namespace Go.Proofs.YtogklmljllocbabGreatDoor
open Go.RowKit Go.Shelf

def okS (ns : List ByteArray) (p : Pt) : Bool := emptyB p.st || hasN ns p.st
theorem hasS_def (ns : List ByteArray) (x : List Pt) : hasS ns x = x.all (okS ns) := rfl
theorem all_take_next {xs : List Pt} {f : Pt → Bool} {k : Nat} (h : (xs.take k).all f = true) (hk : k < xs.length) (hf : f xs[k] = true) : (xs.take (k + 1)).all f = true := by
  rw [List.take_succ_eq_append_getElem hk, List.all_append, h]
  simp [hf]
theorem all_no {xs : List Pt} {f : Pt → Bool} {k : Nat} (hk : k < xs.length) (hf : f xs[k] = false) : xs.all f = false := by
  rw [List.all_eq_false]
  exact ⟨xs[k], List.getElem_mem _, by rw [hf]; simp⟩
theorem part_cells {w W : World} {a b c d e : Value} {t : TypeId} (hk : Kp [] (w.alloc (.cells #[a, b, c, d, e] t)) W) : W.cell? ⟨w.heap.size, 3, none⟩ = some d := ((CBox.new w #[a, b, c, d, e] t).kp hk (by simp)).cell rfl
set_option maxHeartbeats 2000000 in
set_option maxRecDepth 100000 in
theorem hasStages_any {gm : Nat} {M : Mo} {an : Option Addr} {cn : Nat} {nl lv : Value} (ad : Option Addr) (cap : Nat) (xs : List Pt) (hsz : xs.length ≤ 200) (W : World) (hc : PtsAt W ad xs) (hbx : CBox gm (moC M nl lv) 98 W) (hnl : nl = .slice an M.ns.length cn) (hln : M.ns.length ≤ 9223372036854775807) (hnm : NmsAt W an M.ns) :
    Calls Tryz.prog 47 #[.pointer (some ⟨gm, 0, none⟩), .slice ad xs.length cap] W fun e w' => e = .returned (.bool (hasS M.ns xs)) ∧ Below W.heap.size W w' := by
  subst hnl
  rw [hasS_def]
  have HNO : Hid (∀ k (hk : k < xs.length), okS M.ns xs[k] = false → xs.all (okS M.ns) = false) := hide (fun k hk hf => all_no hk hf)
  have HNX : Hid (∀ k (hk : k < xs.length), (xs.take k).all (okS M.ns) = true → okS M.ns xs[k] = true → (xs.take (k + 1)).all (okS M.ns) = true) := hide (fun k hk h hf => all_take_next h hk hf)
  have HYS : Hid ((xs.take xs.length).all (okS M.ns) = true → xs.all (okS M.ns) = true) := hide (fun h => by rwa [List.take_length] at h)
  have HF : Hid (∀ w1, Below W.heap.size W w1 → w1.cell? ⟨gm, 7, none⟩ = some (.slice an M.ns.length cn) ∧ gm < w1.heap.size ∧ Hid (NmsAt w1 an M.ns) ∧ Hid (PtsAt w1 ad xs)) := hide (fun w1 hb => ⟨(Kp.ofBelow hb).cell (hbx.cell rfl) (by simp), by have := (Array.getElem?_eq_some_iff.1 hbx).1; have := hb.size; omega, hide (hnm.kp (Kp.ofBelow hb) (by simp)), hide (hc.kp (Kp.ofBelow hb))⟩)
  clear hc hbx hnm
  obtain ⟨R, hR⟩ : ∃ R, xs.all (okS M.ns) = R := ⟨_, rfl⟩
  rw [hR] at HNO HYS ⊢
  clear hR
  obtain ⟨n, hn⟩ : ∃ n, xs.length = n := ⟨_, rfl⟩
  have HN := hide hn
  rw [hn] at HYS hsz ⊢
  clear hn
  go_enter Tryz.func47, Tryz.ntmps47
  go_wp2
  go_loopw [9] (fun i wr => ∃ k : Nat, k ≤ n ∧ i = .int .i64 (k : Int) ∧ Below W.heap.size W wr ∧ Hid ((xs.take k).all (okS M.ns) = true)) (fun i _ => n - (intOf i).toNat)
  case atStart => exact ⟨0, Nat.zero_le _, rfl, Below.refl _ _, hide (by simp)⟩
  case round =>
    obtain ⟨k, hk, rfl, hb, HK⟩ := hrel
    by_cases hlt : k < n
    · have hkx : k < xs.length := by rw [unhide HN]; exact hlt
      obtain ⟨_, _, _, HP⟩ := unhide HF wr hb
      obtain ⟨b, off, rfl, hbl, x0, x1, x2, x3, x4⟩ := (unhide HP).at k hkx
      have HNO2 : Hid (okS M.ns xs[k] = false → R = false) := hide (unhide HNO k hkx)
      have HNX2 : Hid (okS M.ns xs[k] = true → (xs.take (k + 1)).all (okS M.ns) = true) := hide (unhide HNX k hkx (unhide HK))
      have hok : okS M.ns xs[k] = (emptyB xs[k].st || hasN M.ns xs[k].st) := rfl
      rw [hok] at HNO2 HNX2
      have hli : (k : Int) < (n : Int) := by omega
      clear hok HP HNO HNX HYS HK
      generalize xs[k] = p at *
      obtain ⟨pk, pn, ps, pt, pf⟩ := p
      dsimp only at x0 x1 x2 x3 x4 HNO2 HNX2
      have hb2 : Below W.heap.size W (wr.alloc (.cells #[.int .i64 pk, .int .i64 pn, .string ps, .string pt, .int .i64 pf] 89)) := hb.alloc hb.size _
      have hbd : Below W.heap.size W (wr.alloc (.cells #[.int .i64 pk, .int .i64 pn, .string ps, .string pt, .int .i64 pf] 89)).drew := hb2.drew
      have c3 : (wr.alloc (.cells #[.int .i64 pk, .int .i64 pn, .string ps, .string pt, .int .i64 pf] 89)).drew.cell? ⟨wr.heap.size, 3, none⟩ = some (.string pt) := (CBox.new wr _ _).cell rfl
      obtain ⟨c7, hgl, HNM, _⟩ := unhide HF _ hbd
      have CT := hide (contains_any an cn M.ns pt _ hln (unhide HNM))
      have HBD := hide hbd
      have hgw := (unhide HF wr hb).2.1
      clear hb hb2 hbd HNM HF
      go_wp2_with fail
      generalize wr.alloc (.cells #[.int .i64 pk, .int .i64 pn, .string ps, .string pt, .int .i64 pf] 89) = W2 at *
      clear x0 x1 x2 x3 x4
      by_cases he : emptyB pt = true
      · have g1 : pt.toList.isEmpty = true := by rw [emp_toList]; exact he
        have g2 : (pt.toList == ([] : List UInt8)) = true := by rw [emp_str]; exact he
        rw [he, Bool.true_or] at HNX2
        have HX := hide (unhide HNX2 rfl)
        have c3' : W2.cell? ⟨wr.heap.size, 3, none⟩ = some (.string pt) := c3
        clear HNX2 HNO2 he CT c3
        go_quiet (fail)
        go_wp2
        go_roundw
        case rel => exact ⟨k + 1, by omega, by go_num, (unhide HBD).trans ⟨rfl, rfl, rfl, Nat.le_refl _, fun _ _ => rfl⟩, HX⟩
        case measure => simp [intOf]; omega
      · have he' : emptyB pt = false := by simpa using he
        have g1 : pt.toList.isEmpty = false := by rw [emp_toList]; exact he'
        have g2 : (pt.toList == ([] : List UInt8)) = false := by rw [emp_str]; exact he'
        rw [he', Bool.false_or] at HNX2 HNO2
        generalize hasN M.ns pt = B at *
        generalize M.ns.length = NL at *
        have cS := And.intro c3 c7
        clear he he' c3 c7
        generalize wr.heap.size = G at *
        go_region_held3 (fun w' => w'.cell? ⟨G, 3, none⟩ = some (.string pt) ∧ w'.cell? ⟨gm, 7, none⟩ = some (.slice an NL cn))
          (first | with_reducible exact cS)
          (first | (go_at_call 46; refine (unhide CT).mono ?_; rintro e w2 ⟨rfl, rfl⟩))
        clear cS CT
        cases B with
        | true =>
          have HX := hide (unhide HNX2 rfl)
          clear HNX2 HNO2
          go_wp2
          go_roundw
          case rel => exact ⟨k + 1, by omega, by go_num, (unhide HBD), HX⟩
          case measure => simp [intOf]; omega
        | false =>
          obtain rfl := unhide HNO2 rfl
          clear HNX2 HNO2
          go_wp2
          go_ret
          exact ⟨rfl, unhide HBD⟩
    · obtain rfl : k = n := by omega
      obtain rfl := unhide HYS (unhide HK)
      clear HYS HNO
      go_wp2
      go_ret
      exact ⟨rfl, hb⟩
end Go.Proofs.YtogklmljllocbabGreatDoor
namespace Go.Proofs.YtogklmljllocbabGreatDoor
open Go.RowKit Go.Shelf

theorem hold_kind {x : List Pt} {M : Mo} (h : ckK x ≠ 3) : hdE x M = 110 ∧ hdB x M = false := by
  have e : hdE x M = 110 := by unfold hdE; rw [if_pos h]
  exact ⟨e, by unfold hdB; rw [if_pos (by rw [e]; decide)]⟩
theorem hold_none {x : List Pt} {M : Mo} (h : ckK x = 3) (h2 : M.ns.length ≠ M.la.length ∨ hasS M.ns x = false) : hdE x M = 5 ∧ hdB x M = false := by
  have e : hdE x M = 5 := by unfold hdE; rw [if_neg (by rw [h]; decide), if_pos h2]
  exact ⟨e, by unfold hdB; rw [if_pos (by rw [e]; decide)]⟩
theorem hold_ok {x : List Pt} {M : Mo} (h : ckK x = 3) (h1 : M.ns.length = M.la.length) (h2 : hasS M.ns x = true) : hdE x M = 0 ∧ ∃ v, fdX (vlv M) x = some v ∧ hdB x M = v.t := by
  have e : hdE x M = 0 := by unfold hdE; rw [if_neg (by rw [h]; decide), if_neg (by rw [h1, h2]; simp)]
  obtain ⟨t, t1, _, t3, _⟩ := ckK_leaves (x := x) (by rw [h]; decide)
  refine ⟨e, t.val (vlv M), by rw [t3]; exact fdX_flat _ t t1, ?_⟩
  unfold hdB
  rw [if_neg (by rw [e]; decide), t3, fdX_flat _ t t1]
set_option maxHeartbeats 2000000 in
set_option maxRecDepth 100000 in
theorem holds_any (ad an al : Option Addr) (cap cn cl : Nat) (xs : List Pt) (ev : Ev) (ns : List ByteArray) (la : List Ev) (w : World) (hc : PtsAt w ad xs) (hn : NmsAt w an ns) (hln : ns.length ≤ 9223372036854775807) (he : EvsAt w al la) (hT : TbE w) (hfit : ∀ p ∈ xs, p.fit) :
    Calls Tryz.prog 20 #[.slice ad xs.length cap, .agg ev.c, .slice an ns.length cn, .slice al la.length cl] w fun e w' => e = .returned (.tuple #[.bool (hdB xs ⟨ev, ns, la⟩), .int .i64 (hdE xs ⟨ev, ns, la⟩)]) ∧ Below w.heap.size w w' := by
  have hev : ev.c = #[.string ev.k, .string ev.t, .int .i64 ev.n0, .int .i64 ev.n1, .int .i64 ev.n2, .int .i64 ev.n3, .string ev.x] := rfl
  have b1 : Below w.heap.size w (w.alloc (.cells ev.c 29)) := (Below.refl _ _).alloc (Nat.le_refl _) _
  have e1 : EBox w.heap.size ev (w.alloc (.cells ev.c 29)) := CBox.new w _ _
  have CK := check_any ad cap xs _ (hc.kp (Kp.alloc w (.cells ev.c 29))) (hT.alloc (.cells ev.c 29)) hfit
  have HL : Hid (∀ w2, Below (w.alloc (.cells ev.c 29)).heap.size (w.alloc (.cells ev.c 29)) w2 → EBox w.heap.size ev w2 ∧ Hid (Below w.heap.size w w2) ∧ Hid (PtsAt w2 ad xs ∧ NmsAt w2 an ns ∧ EvsAt w2 al la)) := hide (fun w2 hb => ⟨e1.below hb e1.lt, hide (b1.trans (hb.mono (by simp))), hide ⟨(hc.kp (Kp.alloc w (.cells ev.c 29))).kp (Kp.ofBelow hb), (hn.kp (Kp.alloc w (.cells ev.c 29)) (by simp)).kp (Kp.ofBelow hb) (by simp), (he.kp (Kp.alloc w (.cells ev.c 29)) (by simp)).kp (Kp.ofBelow hb) (by simp)⟩⟩)
  rw [hev] at CK HL
  have HCK := hide CK
  clear CK b1 e1 hc hn he hT
  rw [hev]
  clear hev
  by_cases h3 : ckK xs = 3
  · have hcode : (if ckK xs = 0 then (110 : Int) else 0) = 0 := if_neg (by rw [h3]; decide)
    rw [hcode, h3] at HCK
    clear hcode
    obtain ⟨t, t1, t2, t3, _, t5, _⟩ := ckK_leaves (x := xs) (by rw [h3]; decide)
    have HLV : Hid (∀ q ∈ xs, sds q.kd = 0 → lfK q ≠ 0) := hide (by rw [t3]; exact t.fine_leaves t2)
    clear t1 t2 t3
    have HN0 : Hid (ns.length ≠ la.length ∨ hasS ns xs = false → hdE xs ⟨ev, ns, la⟩ = 5 ∧ hdB xs ⟨ev, ns, la⟩ = false) := hide (fun h => hold_none h3 h)
    have HOKK : Hid (ns.length = la.length → hasS ns xs = true → hdE xs ⟨ev, ns, la⟩ = 0 ∧ ∃ v, fdX (vlv ⟨ev, ns, la⟩) xs = some v ∧ hdB xs ⟨ev, ns, la⟩ = v.t) := hide (fun h1 h2 => hold_ok h3 h1 h2)
    obtain ⟨D, hD⟩ : ∃ D, hdE xs ⟨ev, ns, la⟩ = D := ⟨_, rfl⟩
    obtain ⟨B, hB⟩ : ∃ B, hdB xs ⟨ev, ns, la⟩ = B := ⟨_, rfl⟩
    rw [hD, hB] at HN0 HOKK ⊢
    clear hD hB h3
    go_enter Tryz.func20, Tryz.ntmps20
    go_wp2_with fail
    refine (unhide HCK).mono ?_
    rintro e w2 ⟨rfl, hb2⟩
    obtain ⟨eb, HB, HAT⟩ := unhide HL w2 hb2
    obtain ⟨v0, v1, v2, v3, v4, v5, v6⟩ := eb.cells
    have hlt := eb.lt
    clear HCK HL hb2 eb hfit
    by_cases hll : ns.length = la.length
    · have gl : ((ns.length : Int) == (la.length : Int)) = true := by rw [hll]; exact beq_self_eq_true _
      obtain ⟨hA, hN, hE⟩ := unhide HAT
      have k2 : Kp [] w2 (w2.alloc (.cells (moC ⟨ev, ns, la⟩ (.slice an ns.length cn) (.slice al la.length cl)) 98)) := Kp.alloc _ _
      have bx : CBox w2.heap.size (moC ⟨ev, ns, la⟩ (.slice an ns.length cn) (.slice al la.length cl)) 98 (w2.alloc (.cells (moC ⟨ev, ns, la⟩ (.slice an ns.length cn) (.slice al la.length cl)) 98)) := CBox.new w2 _ _
      have hM : MoAt w2.heap.size ⟨ev, ns, la⟩ an al cn cl (w2.alloc (.cells (moC ⟨ev, ns, la⟩ (.slice an ns.length cn) (.slice al la.length cl)) 98)) := ⟨bx, hN.kp k2 (by simp), hE.kp k2 (by simp), hln, hll⟩
      have HS := hasStages_any (M := ⟨ev, ns, la⟩) ad cap xs t5 _ (hA.kp k2) bx rfl hln (hN.kp k2 (by simp))
      have HB3 := hide ((unhide HB).alloc (unhide HB).size (.cells (moC ⟨ev, ns, la⟩ (.slice an ns.length cn) (.slice al la.length cl)) 98))
      have HFV : Hid (hasS ns xs = true → ∀ w3, Below (w2.alloc (.cells (moC ⟨ev, ns, la⟩ (.slice an ns.length cn) (.slice al la.length cl)) 98)).heap.size (w2.alloc (.cells (moC ⟨ev, ns, la⟩ (.slice an ns.length cn) (.slice al la.length cl)) 98)) w3 → Calls Tryz.prog 48 #[.slice ad xs.length cap, .func (.func 49) #[.pointer (some ⟨w2.heap.size, 0, none⟩)] #[]] w3 fun e w' => e = .returned (foRV (fdX (vlv ⟨ev, ns, la⟩) xs)) ∧ Below w3.heap.size w3 w') := hide (fun hs w3 hb3 => fold_values (M := ⟨ev, ns, la⟩) ad cap xs t5 w3 ((hA.kp k2).kp (Kp.ofBelow hb3)) (hM.below hb3) (unhide HLV) hs)
      have HHS : Hid (Calls Tryz.prog 47 #[.pointer (some ⟨w2.heap.size, 0, none⟩), .slice ad xs.length cap] (w2.alloc (.cells (moC ⟨ev, ns, la⟩ (.slice an ns.length cn) (.slice al la.length cl)) 98)) fun e w' => e = .returned (.bool (hasS ns xs)) ∧ Below (w2.alloc (.cells (moC ⟨ev, ns, la⟩ (.slice an ns.length cn) (.slice al la.length cl)) 98)).heap.size (w2.alloc (.cells (moC ⟨ev, ns, la⟩ (.slice an ns.length cn) (.slice al la.length cl)) 98)) w') := hide HS
      have HOK2 := hide (unhide HOKK hll)
      have HNO2 : Hid (hasS ns xs = false → D = 5 ∧ B = false) := hide (fun h => unhide HN0 (Or.inr h))
      clear HAT hA hN hE k2 bx hM HS HN0 HOKK HLV HB
      unfold moC at HHS HFV HB3
      dsimp only at HHS HFV HB3
      rw [hll] at HHS HFV HB3 ⊢
      clear gl
      generalize fdX (vlv ⟨ev, ns, la⟩) xs = FX at *
      generalize hasS ns xs = SB at *
      go_wp2_with fail
      refine (unhide HHS).mono ?_
      rintro e w3 ⟨rfl, hb3⟩
      have HB4 := hide ((unhide HB3).trans (hb3.mono (unhide HB3).size))
      cases SB with
      | false =>
        obtain ⟨rfl, rfl⟩ := unhide HNO2 rfl
        clear HOK2 HNO2 HFV HHS HB3 hb3
        go_wp2
        exact bodyPost_ret (results_tmp2 rfl _ _ _) rfl ⟨rfl, unhide HB4⟩
      | true =>
        have FV := hide (unhide HFV rfl w3 hb3)
        obtain ⟨rfl, v, hv, rfl⟩ := unhide HOK2 rfl
        rw [hv] at FV
        unfold foRV vlE at FV
        dsimp only at FV
        clear HOK2 HNO2 HFV HHS HB3 hb3 hv
        obtain ⟨vn, vs, vt⟩ := v
        dsimp only at FV ⊢
        go_wp2_with fail
        refine (unhide FV).mono ?_
        rintro e w4 ⟨rfl, hb4⟩
        have HB5 := hide (((unhide HB4).trans (hb4.mono (unhide HB4).size)).alloc (by have := (unhide HB4).size; have := hb4.size; omega) (.cells #[.int .i64 vn, .string vs, .bool vt] 100))
        clear hb4 HB4 FV
        go_wp2
        exact bodyPost_ret (results_tmp2 rfl _ _ _) rfl ⟨rfl, unhide HB5⟩
    · have gl : ((ns.length : Int) == (la.length : Int)) = false := beq_eq_false_iff_ne.2 (by omega)
      obtain ⟨rfl, rfl⟩ := unhide HN0 (Or.inl hll)
      have HB3 := hide ((unhide HB).alloc (unhide HB).size (.cells (moC ⟨ev, ns, la⟩ (.slice an ns.length cn) (.slice al la.length cl)) 98))
      clear HN0 HOKK HAT HLV HB
      go_wp2
      exact bodyPost_ret (results_tmp2 rfl _ _ _) rfl ⟨rfl, unhide HB3⟩
  · obtain ⟨q1, q2⟩ := hold_kind (M := ⟨ev, ns, la⟩) h3
    rw [q1, q2]
    clear q1 q2
    have g3 : (ckK xs == 3) = false := beq_eq_false_iff_ne.2 h3
    generalize (if ckK xs = 0 then (110 : Int) else 0) = EC at *
    generalize ckK xs = ck at *
    go_enter Tryz.func20, Tryz.ntmps20
    go_wp2_with fail
    refine (unhide HCK).mono ?_
    rintro e w2 ⟨rfl, hb2⟩
    obtain ⟨eb, HB, HAT⟩ := unhide HL w2 hb2
    clear HCK HL hb2 eb hfit
    go_wp2
    exact bodyPost_ret (results_tmp2 rfl _ _ _) rfl ⟨rfl, unhide HB⟩
end Go.Proofs.YtogklmljllocbabGreatDoor
namespace Go.Proofs.YtogklmljllocbabGreatDoor
open Go.RowKit Go.Shelf

set_option maxHeartbeats 1000000 in
set_option maxRecDepth 100000 in
theorem whole_any (ad : Option Addr) (cap : Nat) (xs : List Pt) (w : World) (hc : PtsAt w ad xs) (hT : TbE w) (hfit : ∀ p ∈ xs, p.fit) :
    Calls Tryz.prog 18 #[.slice ad xs.length cap] w fun e w' => e = .returned (.bool (ckK xs == 3)) ∧ Below w.heap.size w w' := by
  have CK := hide (check_any ad cap xs w hc hT hfit)
  clear hc hT hfit
  generalize ckK xs = ck at *
  by_cases h0 : ck = 0
  · subst h0
    rw [if_pos rfl] at CK
    go_enter Tryz.func18, Tryz.ntmps18
    go_wp2_with fail
    refine (unhide CK).mono ?_
    rintro e w1 ⟨rfl, hb⟩
    clear CK
    go_wp2
    go_ret
    exact ⟨rfl, hb⟩
  · rw [if_neg h0] at CK
    go_enter Tryz.func18, Tryz.ntmps18
    go_wp2_with fail
    refine (unhide CK).mono ?_
    rintro e w1 ⟨rfl, hb⟩
    clear CK
    go_wp2
    go_ret
    exact ⟨rfl, hb⟩
end Go.Proofs.YtogklmljllocbabGreatDoor
namespace Go.Proofs.YtogklmljllocbabGreatDoor
open Go.RowKit Go.Shelf

attribute [local irreducible] opsV
/-- The reader's cells. -/
def rdC (lv tk : Value) (k d : Nat) (pv : Value) : Array Value := #[lv] ++ opsV ++ #[tk, .int .i64 (k : Int), .int .i64 (d : Int), pv]
theorem rdC_hi (lv tk : Value) (k d : Nat) (pv : Value) (j : Nat) : (rdC lv tk k d pv)[71 + j]? = (#[tk, .int .i64 (k : Int), .int .i64 (d : Int), pv] : Array Value)[j]? := by
  unfold rdC
  rw [Array.getElem?_append_right (by rw [Array.size_append, opsV_size]; simp), Array.size_append, opsV_size]
  congr 1
  simp
theorem rdC_0 (lv tk : Value) (k d : Nat) (pv : Value) : (rdC lv tk k d pv)[0]? = some lv := by
  unfold rdC
  rw [Array.getElem?_append_left (by rw [Array.size_append, opsV_size]; simp), Array.getElem?_append_left (by simp)]
  rfl
theorem rdC_op (lv tk : Value) (k d : Nat) (pv : Value) (j : Nat) (h : j < 70) : (rdC lv tk k d pv)[1 + j]? = opsV[j]? := by
  unfold rdC
  rw [Array.getElem?_append_left (by rw [Array.size_append, opsV_size]; simp; omega), Array.getElem?_append_right (by simp)]
  congr 1
  simp
theorem rdC_71 (lv tk : Value) (k d : Nat) (pv : Value) : (rdC lv tk k d pv)[71]? = some tk := rdC_hi lv tk k d pv 0
theorem rdC_72 (lv tk : Value) (k d : Nat) (pv : Value) : (rdC lv tk k d pv)[72]? = some (.int .i64 (k : Int)) := rdC_hi lv tk k d pv 1
theorem rdC_73 (lv tk : Value) (k d : Nat) (pv : Value) : (rdC lv tk k d pv)[73]? = some (.int .i64 (d : Int)) := rdC_hi lv tk k d pv 2
theorem rdC_74 (lv tk : Value) (k d : Nat) (pv : Value) : (rdC lv tk k d pv)[74]? = some pv := rdC_hi lv tk k d pv 3
theorem opsV_len : opsV.toList.length = 70 := by rw [Array.length_toList]; exact opsV_size
theorem rdC_set (lv tk : Value) (k d : Nat) (pv v : Value) (j : Nat) : (rdC lv tk k d pv).setIfInBounds (71 + j) v = #[lv] ++ opsV ++ (#[tk, .int .i64 (k : Int), .int .i64 (d : Int), pv] : Array Value).setIfInBounds j v := by
  apply Array.ext'
  unfold rdC
  rw [Array.toList_setIfInBounds, Array.toList_append, Array.toList_append, Array.toList_append, Array.toList_append, Array.toList_setIfInBounds, List.set_append_right _ _ (by rw [List.length_append, opsV_len]; simp), List.length_append, opsV_len]
  congr 2
  simp
theorem rdC_k (lv tk : Value) (k k' d : Nat) (pv : Value) : (rdC lv tk k d pv).setIfInBounds 72 (.int .i64 (k' : Int)) = rdC lv tk k' d pv := rdC_set lv tk k d pv _ 1
theorem rdC_d (lv tk : Value) (k d d' : Nat) (pv : Value) : (rdC lv tk k d pv).setIfInBounds 73 (.int .i64 (d' : Int)) = rdC lv tk k d' pv := rdC_set lv tk k d pv _ 2
theorem rdC_p (lv tk : Value) (k d : Nat) (pv pv' : Value) : (rdC lv tk k d pv).setIfInBounds 74 pv' = rdC lv tk k d pv' := rdC_set lv tk k d pv _ 3
/-- The tokens lie below that block. -/
def TksLow (B : Nat) (W : World) (tk : Value) (l : List Tk) : Prop := ∃ b off cap, tk = .slice (some ⟨b, off, none⟩) l.length cap ∧ b < B ∧ ∀ i (h : i < l.length), W.cell? ⟨b, off + i * 4, none⟩ = some (.int .i64 l[i].kd) ∧ W.cell? ⟨b, off + i * 4 + 1, none⟩ = some (.string l[i].s) ∧ W.cell? ⟨b, off + i * 4 + 2, none⟩ = some (.int .i64 l[i].n) ∧ W.cell? ⟨b, off + i * 4 + 3, none⟩ = some (.int .i64 l[i].pl)
theorem TksLow.below {B : Nat} {W W' : World} {tk : Value} {l : List Tk} (h : TksLow B W tk l) (hb : Below B W W') : TksLow B W' tk l := by
  obtain ⟨b, off, cap, e, hlt, hc⟩ := h
  refine ⟨b, off, cap, e, hlt, fun i hi => ?_⟩
  obtain ⟨c0, c1, c2, c3⟩ := hc i hi
  exact ⟨(hb.cell (p := ⟨b, _, none⟩) hlt).trans c0, (hb.cell (p := ⟨b, _, none⟩) hlt).trans c1, (hb.cell (p := ⟨b, _, none⟩) hlt).trans c2, (hb.cell (p := ⟨b, _, none⟩) hlt).trans c3⟩
/-- Which function reads a level. -/
def lvF (n : Nat) : Nat := if n = 2 then 195 else if n = 3 then 196 else if n = 6 then 197 else 194
/-- A level's operations lie there. -/
def OpsLow (B : Nat) (W : World) (ov : Value) (os : List Int) : Prop := (os = [] ∧ ov = .slice none 0 0) ∨ ∃ b, ov = .slice (some ⟨b, 0, none⟩) os.length os.length ∧ b < B ∧ ∀ i (h : i < os.length), W.cell? ⟨b, i, none⟩ = some (.int .i64 os[i])
theorem OpsLow.below {B : Nat} {W W' : World} {ov : Value} {os : List Int} (h : OpsLow B W ov os) (hb : Below B W W') : OpsLow B W' ov os := by
  rcases h with h | ⟨b, e, hlt, hc⟩
  · exact Or.inl h
  · exact Or.inr ⟨b, e, hlt, fun i hi => (hb.cell (p := ⟨b, _, none⟩) hlt).trans (hc i hi)⟩
def LvsLow (B : Nat) (W : World) (lv : Value) : Prop := ∃ b, lv = .slice (some ⟨b, 0, none⟩) 7 7 ∧ b < B ∧ ∀ n, n < 7 → W.cell? ⟨b, n * 2, none⟩ = some (.func (.func (lvF n)) #[] #[]) ∧ ∃ ov, W.cell? ⟨b, n * 2 + 1, none⟩ = some ov ∧ OpsLow B W ov (lvO n)
theorem LvsLow.below {B : Nat} {W W' : World} {lv : Value} (h : LvsLow B W lv) (hb : Below B W W') : LvsLow B W' lv := by
  obtain ⟨b, e, hlt, hc⟩ := h
  refine ⟨b, e, hlt, fun n hn => ?_⟩
  obtain ⟨c0, ov, c1, c2⟩ := hc n hn
  exact ⟨(hb.cell (p := ⟨b, _, none⟩) hlt).trans c0, ov, (hb.cell (p := ⟨b, _, none⟩) hlt).trans c1, c2.below hb⟩
/-- What lies below the reader. -/
structure Env (gr : Nat) (lv tk : Value) (l : List Tk) (W : World) : Prop where
  tks : TksLow gr W tk l
  lvs : LvsLow gr W lv
  tab : TbE W
  low : 9 ≤ gr
  len : l.length ≤ 100000
  ok : ∀ t ∈ l, t.s.size ≤ 140737488351232
theorem Env.below {gr : Nat} {lv tk : Value} {l : List Tk} {W W' : World} (h : Env gr lv tk l W) (hb : Below gr W W') : Env gr lv tk l W' := ⟨h.tks.below hb, h.lvs.below hb, h.tab.below hb h.low, h.low, h.len, h.ok⟩
def ptE (p : Pt) : List Value := [.int .i64 p.kd, .int .i64 p.n, .string p.s, .string p.st, .int .i64 p.fl]
theorem ptE_len (p : Pt) : (ptE p).length = 5 := rfl
/-- The reader lies there: it stands at a token, so many deep, and has read these parts. -/
structure Rd (gr : Nat) (lv tk : Value) (l : List Tk) (k d : Nat) (ps : List Pt) (W : World) : Prop where
  env : Env gr lv tk l W
  box : ∃ pv, CBox gr (rdC lv tk k d pv) 226 W ∧ W.ownsRow (gr + 1) 89 5 pv ps.length (ps.flatMap ptE)
theorem Rd.below {gr : Nat} {lv tk : Value} {l : List Tk} {k d : Nat} {ps : List Pt} {W W' : World} (h : Rd gr lv tk l k d ps W) (hb : Below W.heap.size W W') : Rd gr lv tk l k d ps W' := by
  obtain ⟨pv, h1, h2⟩ := h.box
  have hlt := (Array.getElem?_eq_some_iff.1 h1).1
  have hk := Kp.ofBelow hb
  exact ⟨h.env.below (hb.mono (by omega)), pv, h1.kp hk (by simp), row_kp h2 hk (by simp)⟩
def wdS (t : Tk) : ByteArray := if t.kd = 1 ∨ t.kd = 4 then t.s else ⟨#[]⟩
theorem wdS_list (t : Tk) : (wdS t).data.toList = wdT t := by unfold wdS wdT; split <;> rfl
theorem drop_at {l : List Tk} {k : Nat} {t : Tk} {r : List Tk} (h : l.drop k = t :: r) : ∃ hk : k < l.length, l[k] = t ∧ l.drop (k + 1) = r := by
  have hk : k < l.length := by
    rcases Nat.lt_or_ge k l.length with h1 | h1
    · exact h1
    · rw [List.drop_eq_nil_of_le h1] at h; cases h
  rw [List.drop_eq_getElem_cons hk] at h
  cases h
  exact ⟨hk, rfl, rfl⟩
set_option maxHeartbeats 2000000 in
set_option maxRecDepth 100000 in
theorem word_any {gr : Nat} {lv tk : Value} {l : List Tk} {k d : Nat} {ps : List Pt} {W : World} (h : Rd gr lv tk l k d ps W) {t : Tk} {r : List Tk} (ht : l.drop k = t :: r) :
    Calls Tryz.prog 241 #[.pointer (some ⟨gr, 0, none⟩)] W fun e w' => e = .returned (.string (wdS t)) ∧ Below W.heap.size W w' := by
  obtain ⟨hk, ha, _⟩ := drop_at ht
  obtain ⟨pv, hb, _⟩ := h.box
  obtain ⟨b, off, cap, htk, hlt, hc⟩ := h.env.tks
  obtain ⟨c0, c1, c2, c3⟩ := hc k hk
  rw [ha] at c0 c1 c2 c3
  have hlen := h.env.len
  have hgl := (Array.getElem?_eq_some_iff.1 hb).1
  have e1 := hb.cell (rdC_71 lv tk k d pv)
  have e2 := hb.cell (rdC_72 lv tk k d pv)
  rw [htk] at e1
  clear h hb hc ha htk ht
  have al : ∀ {q : Addr} {v : Value}, W.cell? q = some v → q.block < W.heap.size → (W.alloc (.cells #[.int .i64 0, .string { data := #[] }, .int .i64 0, .int .i64 0] 82)).cell? q = some v := fun h _ => (Kp.alloc W _).cell h (by simp)
  have d0 := al c0 (by show b < _; omega)
  have d1 := al c1 (by show b < _; omega)
  have d2 := al c2 (by show b < _; omega)
  have d3 := al c3 (by show b < _; omega)
  have g1 := al e1 hgl
  have g2 := al e2 hgl
  clear al
  unfold wdS
  obtain ⟨kd, s, n, pl⟩ := t
  dsimp only at *
  go_enter Tryz.func241, Tryz.ntmps241
  go_wp2
  go_region
  clear c0 c1 c2 c3 d0 d1 d2 d3 e1 e2 g1 g2
  have hb : ∀ o, Below W.heap.size W (W.alloc o).drew := fun o => ((Below.refl _ _).alloc (Nat.le_refl _) _).trans ⟨rfl, rfl, rfl, Nat.le_refl _, fun _ _ => rfl⟩
  by_cases h1 : kd = 1
  · subst h1
    go_wp2
    exact bodyPost_ret (results_tmp rfl _ _ _) rfl ⟨rfl, hb _⟩
  · by_cases h4 : kd = 4
    · subst h4
      go_wp2
      exact bodyPost_ret (results_tmp rfl _ _ _) rfl ⟨rfl, hb _⟩
    · have g1 : (kd == 1) = false := beq_eq_false_iff_ne.2 h1
      have g4 : (kd == 4) = false := beq_eq_false_iff_ne.2 h4
      go_wp2
      exact bodyPost_ret (results_tmp rfl _ _ _) rfl ⟨by first | rfl | (rw [if_neg (by omega)]; rfl), hb _⟩
/-- One token on. -/
theorem Rd.next {gr : Nat} {lv tk : Value} {l : List Tk} {k d : Nat} {ps : List Pt} {W : World} (h : Rd gr lv tk l k d ps W) : Rd gr lv tk l (k + 1) d ps (W.setCell ⟨gr, 72, none⟩ (.int .i64 ((k : Int) + 1))) := by
  obtain ⟨pv, h1, h2⟩ := h.box
  have hlt := (Array.getElem?_eq_some_iff.1 h1).1
  have e : ((k : Int) + 1) = ((k + 1 : Nat) : Int) := by omega
  rw [e]
  have c := h1.set 72 (.int .i64 ((k + 1 : Nat) : Int))
  rw [rdC_k] at c
  exact ⟨h.env.below ((Kp.set W gr 72 _).below (by omega) (by simp)), pv, c, row_kp h2 (Kp.set _ _ _ _) (fun g hg => by have := (h2.lt g hg).1; simp; omega)⟩
theorem Rd.cells {gr : Nat} {lv tk : Value} {l : List Tk} {k d : Nat} {ps : List Pt} {W : World} (h : Rd gr lv tk l k d ps W) : W.cell? ⟨gr, 72, none⟩ = some (.int .i64 (k : Int)) ∧ W.cell? ⟨gr, 73, none⟩ = some (.int .i64 (d : Int)) ∧ (∀ i, W.frozen? ⟨gr, i, none⟩ = false) ∧ gr < W.heap.size := by
  obtain ⟨pv, h1, h2⟩ := h.box
  exact ⟨h1.cell (rdC_72 lv tk k d pv), h1.cell (rdC_73 lv tk k d pv), h1.froz, (Array.getElem?_eq_some_iff.1 h1).1⟩
set_option maxHeartbeats 2000000 in
set_option maxRecDepth 100000 in
theorem skip_any {gr : Nat} {lv tk : Value} {l : List Tk} {k d : Nat} {ps : List Pt} {W : World} (h : Rd gr lv tk l k d ps W) {t : Tk} {r : List Tk} (ht : l.drop k = t :: r) (sg : ByteArray) :
    Calls Tryz.prog 223 #[.pointer (some ⟨gr, 0, none⟩), .string sg] W fun e w' => e = .returned (.bool (decide (wdT t = sg.data.toList))) ∧ Rd gr lv tk l (if wdT t = sg.data.toList then k + 1 else k) d ps w' ∧ Below gr W w' := by
  have WD := hide (word_any h ht)
  have hk : k ≤ 100000 := by obtain ⟨hk, _⟩ := drop_at ht; have := h.env.len; omega
  have HR := hide h
  rw [← wdS_list]
  clear h ht
  generalize wdS t = S at *
  by_cases he : S.data.toList = sg.data.toList
  · have heq : (S.toList == sg.toList) = true := by rw [toList_data, toList_data, he]; exact beq_self_eq_true _
    rw [if_pos he, decide_eq_true he]
    clear he
    go_enter Tryz.func223, Tryz.ntmps223
    go_wp2_with fail
    refine (unhide WD).mono ?_
    rintro e w1 ⟨rfl, hb⟩
    have HR1 := hide ((unhide HR).below hb)
    obtain ⟨c72, _, f72, _⟩ := (unhide HR1).cells
    have HB := hide (hb.mono (show gr ≤ W.heap.size by have := (unhide HR).cells; omega))
    clear hb HR WD
    go_wp2
    refine bodyPost_ret (results_tmp rfl _ _ _) rfl ⟨rfl, (unhide HR1).next, (unhide HB).setCell (p := ⟨gr, 72, none⟩) (Nat.le_refl _) _⟩
  · have heq : (S.toList == sg.toList) = false := by rw [toList_data, toList_data]; exact beq_eq_false_iff_ne.2 he
    rw [if_neg he, decide_eq_false he]
    clear he
    go_enter Tryz.func223, Tryz.ntmps223
    go_wp2_with fail
    refine (unhide WD).mono ?_
    rintro e w1 ⟨rfl, hb⟩
    have HR1 := hide ((unhide HR).below hb)
    have HB := hide (hb.mono (show gr ≤ W.heap.size by have := (unhide HR).cells; omega))
    clear hb HR WD
    go_wp2
    exact bodyPost_ret (results_tmp rfl _ _ _) rfl ⟨rfl, unhide HR1, unhide HB⟩
end Go.Proofs.YtogklmljllocbabGreatDoor
