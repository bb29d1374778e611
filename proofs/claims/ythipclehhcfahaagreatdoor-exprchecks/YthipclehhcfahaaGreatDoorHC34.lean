/-
  hasStages: have all stages that are asked for their names there; Holds.
  Stages: which stages an expression asks for, as the plain function has it.
  The document's reckon: an operation's value, a tree's.
-/
import Derived.Test.YthipclehhcfahaaGreatDoorHC31
import Derived.Deep.QuietTactic
import Derived.Test.YthipclehhcfahaaGreatDoorHC33
import Derived.Test.YthipclehhcfahaaGreatDoorHC32
namespace Go.Proofs.YthipclehhcfahaaGreatDoor
open Go.RowKit Go.Shelf

def okS (ns : List ByteArray) (p : Pt) : Bool := emptyB p.st || hasN ns p.st
theorem hasS_def (ns : List ByteArray) (x : List Pt) : hasS ns x = x.all (okS ns) := rfl
theorem all_take_next {xs : List Pt} {f : Pt → Bool} {k : Nat} (h : (xs.take k).all f = true) (hk : k < xs.length) (hf : f xs[k] = true) : (xs.take (k + 1)).all f = true := by
  rw [List.take_succ_eq_append_getElem hk, List.all_append, h]
  simp [hf]
theorem all_no {xs : List Pt} {f : Pt → Bool} {k : Nat} (hk : k < xs.length) (hf : f xs[k] = false) : xs.all f = false := by
  rw [List.all_eq_false]
  exact ⟨xs[k], List.getElem_mem _, by rw [hf]; simp⟩
theorem part_cells {w W : World} {a b c d e : Value} {t : TypeId} (hk : Kp [] (w.alloc (.cells #[a, b, c, d, e] t)) W) : W.cell? ⟨w.heap.size, 3, none⟩ = some d := ((CBox.new w #[a, b, c, d, e] t).kp hk (by simp)).cell rfl
set_option maxHeartbeats 2000000 in
set_option maxRecDepth 100000 in
theorem hasStages_any {gm : Nat} {M : Mo} {an : Option Addr} {cn : Nat} {nl lv : Value} (ad : Option Addr) (cap : Nat) (xs : List Pt) (hsz : xs.length ≤ 200) (W : World) (hc : PtsAt W ad xs) (hbx : CBox gm (moC M nl lv) 79 W) (hnl : nl = .slice an M.ns.length cn) (hln : M.ns.length ≤ 9223372036854775807) (hnm : NmsAt W an M.ns) :
    Calls Tryz.prog 33 #[.pointer (some ⟨gm, 0, none⟩), .slice ad xs.length cap] W fun e w' => e = .returned (.bool (hasS M.ns xs)) ∧ Below W.heap.size W w' := by
  subst hnl
  rw [hasS_def]
  have HNO : Hid (∀ k (hk : k < xs.length), okS M.ns xs[k] = false → xs.all (okS M.ns) = false) := hide (fun k hk hf => all_no hk hf)
  have HNX : Hid (∀ k (hk : k < xs.length), (xs.take k).all (okS M.ns) = true → okS M.ns xs[k] = true → (xs.take (k + 1)).all (okS M.ns) = true) := hide (fun k hk h hf => all_take_next h hk hf)
  have HYS : Hid ((xs.take xs.length).all (okS M.ns) = true → xs.all (okS M.ns) = true) := hide (fun h => by rwa [List.take_length] at h)
  have HF : Hid (∀ w1, Below W.heap.size W w1 → w1.cell? ⟨gm, 7, none⟩ = some (.slice an M.ns.length cn) ∧ gm < w1.heap.size ∧ Hid (NmsAt w1 an M.ns) ∧ Hid (PtsAt w1 ad xs)) := hide (fun w1 hb => ⟨(Kp.ofBelow hb).cell (hbx.cell rfl) (by simp), by have := (Array.getElem?_eq_some_iff.1 hbx).1; have := hb.size; omega, hide (hnm.kp (Kp.ofBelow hb) (by simp)), hide (hc.kp (Kp.ofBelow hb))⟩)
  clear hc hbx hnm
  obtain ⟨R, hR⟩ : ∃ R, xs.all (okS M.ns) = R := ⟨_, rfl⟩
  rw [hR] at HNO HYS ⊢
  clear hR
  obtain ⟨n, hn⟩ : ∃ n, xs.length = n := ⟨_, rfl⟩
  have HN := hide hn
  rw [hn] at HYS hsz ⊢
  clear hn
  go_enter Tryz.func33, Tryz.ntmps33
  go_wp2
  go_loopw [9] (fun i wr => ∃ k : Nat, k ≤ n ∧ i = .int .i64 (k : Int) ∧ Below W.heap.size W wr ∧ Hid ((xs.take k).all (okS M.ns) = true)) (fun i _ => n - (intOf i).toNat)
  case atStart => exact ⟨0, Nat.zero_le _, rfl, Below.refl _ _, hide (by simp)⟩
  case round =>
    obtain ⟨k, hk, rfl, hb, HK⟩ := hrel
    by_cases hlt : k < n
    · have hkx : k < xs.length := by rw [unhide HN]; exact hlt
      obtain ⟨_, _, _, HP⟩ := unhide HF wr hb
      obtain ⟨b, off, rfl, hbl, x0, x1, x2, x3, x4⟩ := (unhide HP).at k hkx
      have HNO2 : Hid (okS M.ns xs[k] = false → R = false) := hide (unhide HNO k hkx)
      have HNX2 : Hid (okS M.ns xs[k] = true → (xs.take (k + 1)).all (okS M.ns) = true) := hide (unhide HNX k hkx (unhide HK))
      have hok : okS M.ns xs[k] = (emptyB xs[k].st || hasN M.ns xs[k].st) := rfl
      rw [hok] at HNO2 HNX2
      have hli : (k : Int) < (n : Int) := by omega
      clear hok HP HNO HNX HYS HK
      generalize xs[k] = p at *
      obtain ⟨pk, pn, ps, pt, pf⟩ := p
      dsimp only at x0 x1 x2 x3 x4 HNO2 HNX2
      have hb2 : Below W.heap.size W (wr.alloc (.cells #[.int .i64 pk, .int .i64 pn, .string ps, .string pt, .int .i64 pf] 53)) := hb.alloc hb.size _
      have hbd : Below W.heap.size W (wr.alloc (.cells #[.int .i64 pk, .int .i64 pn, .string ps, .string pt, .int .i64 pf] 53)).drew := hb2.drew
      have c3 : (wr.alloc (.cells #[.int .i64 pk, .int .i64 pn, .string ps, .string pt, .int .i64 pf] 53)).drew.cell? ⟨wr.heap.size, 3, none⟩ = some (.string pt) := (CBox.new wr _ _).cell rfl
      obtain ⟨c7, hgl, HNM, _⟩ := unhide HF _ hbd
      have CT := hide (contains_any an cn M.ns pt _ hln (unhide HNM))
      have HBD := hide hbd
      have hgw := (unhide HF wr hb).2.1
      clear hb hb2 hbd HNM HF
      go_wp2_with fail
      generalize wr.alloc (.cells #[.int .i64 pk, .int .i64 pn, .string ps, .string pt, .int .i64 pf] 53) = W2 at *
      clear x0 x1 x2 x3 x4
      by_cases he : emptyB pt = true
      · have g1 : pt.toList.isEmpty = true := by rw [emp_toList]; exact he
        have g2 : (pt.toList == ([] : List UInt8)) = true := by rw [emp_str]; exact he
        rw [he, Bool.true_or] at HNX2
        have HX := hide (unhide HNX2 rfl)
        have c3' : W2.cell? ⟨wr.heap.size, 3, none⟩ = some (.string pt) := c3
        clear HNX2 HNO2 he CT c3
        go_quiet (fail)
        go_wp2
        go_roundw
        case rel => exact ⟨k + 1, by omega, by go_num, (unhide HBD).trans ⟨rfl, rfl, rfl, Nat.le_refl _, fun _ _ => rfl⟩, HX⟩
        case measure => simp [intOf]; omega
      · have he' : emptyB pt = false := by simpa using he
        have g1 : pt.toList.isEmpty = false := by rw [emp_toList]; exact he'
        have g2 : (pt.toList == ([] : List UInt8)) = false := by rw [emp_str]; exact he'
        rw [he', Bool.false_or] at HNX2 HNO2
        generalize hasN M.ns pt = B at *
        generalize M.ns.length = NL at *
        have cS := And.intro c3 c7
        clear he he' c3 c7
        generalize wr.heap.size = G at *
        go_region_held3 (fun w' => w'.cell? ⟨G, 3, none⟩ = some (.string pt) ∧ w'.cell? ⟨gm, 7, none⟩ = some (.slice an NL cn))
          (first | with_reducible exact cS)
          (first | (go_at_call 32; refine (unhide CT).mono ?_; rintro e w2 ⟨rfl, rfl⟩))
        clear cS CT
        cases B with
        | true =>
          have HX := hide (unhide HNX2 rfl)
          clear HNX2 HNO2
          go_wp2
          go_roundw
          case rel => exact ⟨k + 1, by omega, by go_num, (unhide HBD), HX⟩
          case measure => simp [intOf]; omega
        | false =>
          obtain rfl := unhide HNO2 rfl
          clear HNX2 HNO2
          go_wp2
          go_ret
          exact ⟨rfl, unhide HBD⟩
    · obtain rfl : k = n := by omega
      obtain rfl := unhide HYS (unhide HK)
      clear HYS HNO
      go_wp2
      go_ret
      exact ⟨rfl, hb⟩
end Go.Proofs.YthipclehhcfahaaGreatDoor
namespace Go.Proofs.YthipclehhcfahaaGreatDoor
open Go.RowKit Go.Shelf

set_option maxHeartbeats 2000000 in
set_option maxRecDepth 100000 in
theorem stages_any (ad : Option Addr) (cap : Nat) (xs : List Pt) (w : World) (hc : PtsAt w ad xs) (hT : TbE w) (hfit : ∀ p ∈ xs, p.fit) :
    Calls Tryz.prog 13 #[.slice ad xs.length cap] w fun e w' => ∃ v, e = .returned (.tuple #[v, .int .i64 (if ckK xs = 0 then 110 else 0)]) ∧ OwnsW w.heap.size w' v (stgS xs) ∧ Below w.heap.size w w' := by
  have CK := hide (check_any ad cap xs w hc hT hfit)
  by_cases h0 : ckK xs = 0
  · have hs : stgS xs = [] := by unfold stgS; rw [if_pos h0]
    rw [hs]
    rw [h0, if_pos rfl] at CK
    rw [if_pos h0]
    clear hc hT hfit h0 hs
    go_enter Tryz.func13, Tryz.ntmps13
    go_wp2_with fail
    refine (unhide CK).mono ?_
    rintro e w1 ⟨rfl, hb⟩
    clear CK
    go_wp2
    exact bodyPost_ret (results_tmp2 rfl _ _ _) rfl ⟨_, rfl, OwnsW.nil _ _, hb⟩
  · have hs : stgS xs = stgL xs := by unfold stgS; rw [if_neg h0]
    rw [hs]
    rw [if_neg h0] at CK
    rw [if_neg h0]
    have HST := hide (ck_st h0)
    obtain ⟨_, _, _, _, _, hx, _⟩ := ckK_leaves h0
    have HC := hide hc
    have HTK := hide (fun k (hk : k < xs.length) => stgL_take xs k hk)
    have HLN := hide (fun k => Nat.le_trans (stgL_len (xs.take k)) (by rw [List.length_take]; omega : (xs.take k).length ≤ 200))
    have HEN : Hid (stgL (xs.take xs.length) = stgL xs) := hide (by rw [List.take_length])
    clear hc hT hfit h0 hs
    generalize ckK xs = ck at *
    obtain ⟨n, hn⟩ : ∃ n, xs.length = n := ⟨_, rfl⟩
    have HN := hide hn
    rw [hn] at hx CK HEN ⊢
    clear hn
    go_enter Tryz.func13, Tryz.ntmps13
    go_wp2_with fail
    refine (unhide CK).mono ?_
    rintro e w1 ⟨rfl, hb1⟩
    have HB1 := hide hb1
    clear CK hb1
    go_wp2_with fail
    go_loopw [6, 19] (fun v i wr => ∃ (k : Nat) (a : Option Addr) (c NL : Nat), k ≤ n ∧ i = .int .i64 (k : Int) ∧ v = .slice a NL c ∧ NL = (stgL (xs.take k)).length ∧ Hid (OwnsW w.heap.size wr (.slice a NL c) (stgL (xs.take k))) ∧ Below w.heap.size w wr) (fun _ i _ => n - (intOf i).toNat)
    case atStart => exact ⟨0, none, 0, 0, Nat.zero_le _, rfl, rfl, rfl, hide (OwnsW.nil _ _), unhide HB1⟩
    case round =>
      obtain ⟨k, a, c, NL, hk, rfl, rfl, hNL, HO, hb⟩ := hrel
      by_cases hlt : k < n
      · have hkx : k < xs.length := by rw [unhide HN]; exact hlt
        have hli : (k : Int) < (n : Int) := by omega
        obtain ⟨b, off, rfl, hbl, x0, x1, x2, x3, x4⟩ := ((unhide HC).kp (Kp.ofBelow hb)).at k hkx
        have HSG := hide (unhide HST _ (List.getElem_mem hkx))
        have HNX := hide (unhide HTK k hkx)
        have hl2 := unhide HLN k
        unfold stgA at HNX
        clear HTK HLN HST HEN HC HB1
        generalize xs[k] = p at *
        obtain ⟨pk, pn, ps, pt, pf⟩ := p
        dsimp only at x0 x1 x2 x3 x4 HSG HNX
        have hb2 : Below w.heap.size w (wr.alloc (.cells #[.int .i64 pk, .int .i64 pn, .string ps, .string pt, .int .i64 pf] 53)) := hb.alloc hb.size _
        have ho2 := (unhide HO).kp (Kp.alloc wr (.cells #[.int .i64 pk, .int .i64 pn, .string ps, .string pt, .int .i64 pf] 53))
        have c3 : (wr.alloc (.cells #[.int .i64 pk, .int .i64 pn, .string ps, .string pt, .int .i64 pf] 53)).cell? ⟨wr.heap.size, 3, none⟩ = some (.string pt) := (CBox.new wr _ _).cell rfl
        generalize stgL (xs.take k) = L at *
        obtain ⟨a', c', hv, hnm, _⟩ := ho2.at
        injection hv with e1 e2 e3
        subst e1 e3
        have CT := hide (contains_any a c L pt _ (by omega) hnm)
        rw [← hNL] at CT
        have HB2 := hide hb2
        have HO2 := hide ho2
        have HNL := hide hNL
        have hwl : wr.heap.size < (wr.alloc (.cells #[.int .i64 pk, .int .i64 pn, .string ps, .string pt, .int .i64 pf] 53)).heap.size := by simp
        clear hb hb2 ho2 HO hnm hNL e2
        have g1 := emp_toList pt
        have g2 := emp_str pt
        cases hE : emptyB pt with
        | true =>
          rw [hE] at g1 g2
          rw [hE, Bool.true_or, if_pos rfl] at HNX
          clear hE CT
          go_wp2_with fail
          go_roundw
          case rel => exact ⟨k + 1, a, c, NL, by omega, by go_num, rfl, by rw [unhide HNX]; exact unhide HNL, by rw [unhide HNX]; exact HO2, unhide HB2⟩
          case measure => simp [intOf]; omega
        | false =>
          rw [hE] at g1 g2
          rw [hE, Bool.false_or] at HNX
          clear hE
          cases hH : hasN L pt with
          | true =>
            rw [hH] at CT HNX
            rw [if_pos rfl] at HNX
            clear hH
            go_wp2_with fail
            refine (unhide CT).mono ?_
            rintro e w4 ⟨rfl, rfl⟩
            clear CT
            go_wp2
            go_roundw
            case rel => exact ⟨k + 1, a, c, NL, by omega, by go_num, rfl, by rw [unhide HNX]; exact unhide HNL, by rw [unhide HNX]; exact HO2, unhide HB2⟩
            case measure => simp [intOf]; omega
          | false =>
            rw [hH] at CT HNX
            rw [if_neg (by simp)] at HNX
            clear hH
            have hpz : pt.size ≤ 32 := (unhide HSG).2
            have CL := hide (fun W => clone_any pt W (by omega))
            go_wp2_with fail
            refine (unhide CT).mono ?_
            rintro e w4 ⟨rfl, rfl⟩
            clear CT
            generalize wr.alloc (.cells #[.int .i64 pk, .int .i64 pn, .string ps, .string pt, .int .i64 pf] 53) = W2 at *
            go_wp2_with fail
            refine (unhide CL _).mono ?_
            rintro e w5 ⟨rfl, hb5⟩
            have k5 := (Kp.ofBelow hb5).trans (Kp.alloc w5 (.cells #[.string pt] 9)) (by simp)
            have hb6 := (unhide HB2).trans (k5.below (unhide HB2).size (by simp))
            have ho6 := (unhide HO2).kp k5
            obtain ⟨g', cap', w', hrun, hO', hbw, _⟩ := OwnsW.app (c := 1) ho6 hb6.size pt (g := w5.heap.size) ((CBox.new w5 _ _).cell rfl) (by omega) 28
            rw [← unhide HNL] at hrun hO'
            have HRUN := hide hrun
            have HO' := hide hO'
            have HBW := hide (hb6.trans hbw)
            clear hrun hO' hbw hb6 ho6 k5 hb5 CL
            dsimp only
            go_wp2_with (at_builtin; refine wpList_app_run rfl _ _ _ rfl rfl rfl (unhide HRUN) ?_)
            go_roundw
            case rel => exact ⟨k + 1, _, cap', NL + 1, by omega, by go_num, rfl, by rw [unhide HNX, List.length_append, ← unhide HNL]; rfl, by rw [unhide HNX]; exact HO', unhide HBW⟩
            case measure => simp [intOf]; omega
      · obtain rfl : k = n := by omega
        have HE := unhide HEN
        rw [HE] at HO
        clear HE HEN HTK HLN HST HC HB1 hNL
        go_wp2
        exact bodyPost_ret (results_tmp2 rfl _ _ _) rfl ⟨_, rfl, unhide HO, hb⟩
end Go.Proofs.YthipclehhcfahaaGreatDoor
namespace Go.Proofs.YthipclehhcfahaaGreatDoor
open Go.RowKit Go.Shelf

set_option maxHeartbeats 4000000 in
set_option maxRecDepth 100000 in
theorem reckon_not {M : Mo} {ad an al : Option Addr} (cap cn cl : Nat) (xs : List Pt) (at_ E1 : Nat) (av : Vl) (hx : xs.length ≤ 200) (hat : at_ < xs.length) (hk : xs[at_].kd = 13) (C1 : ∀ W, RkE M ad an al xs W → Calls Tryz.prog 55 #[.slice ad xs.length cap, .int .i64 ((at_ + 1 : Nat) : Int), .agg M.e.c, .slice an M.ns.length cn, .slice al M.la.length cl] W (RkT W av E1)) (w : World) (h : RkE M ad an al xs w) :
    Calls Tryz.prog 55 #[.slice ad xs.length cap, .int .i64 (at_ : Int), .agg M.e.c, .slice an M.ns.length cn, .slice al M.la.length cl] w (RkT w ⟨0, noB, !av.t⟩ E1) := by
  obtain ⟨b, off, rfl, hbl, x0, x1, x2, x3, x4⟩ := h.pts.at at_ hat
  have hev : M.e.c = #[.string M.e.k, .string M.e.t, .int .i64 M.e.n0, .int .i64 M.e.n1, .int .i64 M.e.n2, .int .i64 M.e.n3, .string M.e.x] := rfl
  have HE := hide h
  have hli : (at_ : Int) < (xs.length : Int) := by omega
  rw [hev] at C1 ⊢
  have ha1 : ((at_ + 1 : Nat) : Int) = (at_ : Int) + 1 := by omega
  rw [ha1] at C1
  clear ha1 h
  generalize xs[at_] = p at *
  obtain ⟨pk, pn, ps, pt, pf⟩ := p
  dsimp only at *
  have HW : Hid (∀ W, Kp [] (((w.alloc (.cells #[.string M.e.k, .string M.e.t, .int .i64 M.e.n0, .int .i64 M.e.n1, .int .i64 M.e.n2, .int .i64 M.e.n3, .string M.e.x] 37)).alloc (.cells #[.int .i64 0, .string { data := #[] }, .bool false] 124)).alloc (.cells #[.int .i64 pk, .int .i64 pn, .string ps, .string pt, .int .i64 pf] 53)) W → (W.cell? ⟨w.heap.size + 1 + 1, 0, none⟩ = some (.int .i64 pk)) ∧ EBox w.heap.size M.e W ∧ w.heap.size + 1 + 1 < W.heap.size ∧ Hid (RkE M (some ⟨b, off, none⟩) an al xs W) ∧ CBox (w.heap.size + 1) #[.int .i64 0, .string { data := #[] }, .bool false] 124 W ∧ Hid (Below w.heap.size w W)) := hide (fun W hk => by
    have p2 : CBox (w.heap.size + 1 + 1) #[.int .i64 pk, .int .i64 pn, .string ps, .string pt, .int .i64 pf] 53 W := CBox.kp (vl_at w _ _ _) hk (by simp)
    have p1 : CBox (w.heap.size + 1) #[.int .i64 0, .string { data := #[] }, .bool false] 124 W := CBox.kp (mid_at w _ _ _) hk (by simp)
    have p0 : CBox w.heap.size #[.string M.e.k, .string M.e.t, .int .i64 M.e.n0, .int .i64 M.e.n1, .int .i64 M.e.n2, .int .i64 M.e.n3, .string M.e.x] 37 W := CBox.kp (CBox.kp (CBox.kp (CBox.new w _ _) (Kp.alloc _ _) (by simp)) (Kp.alloc _ _) (by simp)) hk (by simp)
    have hs := hk.size
    have k0 : Kp [] w (((w.alloc (.cells #[.string M.e.k, .string M.e.t, .int .i64 M.e.n0, .int .i64 M.e.n1, .int .i64 M.e.n2, .int .i64 M.e.n3, .string M.e.x] 37)).alloc (.cells #[.int .i64 0, .string { data := #[] }, .bool false] 124)).alloc (.cells #[.int .i64 pk, .int .i64 pn, .string ps, .string pt, .int .i64 pf] 53)) := ((Kp.alloc _ _).trans (Kp.alloc _ _) (by simp)).trans (Kp.alloc _ _) (by simp)
    exact ⟨p2.cell rfl, p0, by simp at hs; omega, hide ((unhide HE).kp (k0.trans hk (by simp))), p1, hide ((mid_all w _ _ _).trans (hk.below (by simp; omega) (by simp)))⟩)
  have HC1 := hide C1
  obtain ⟨_, _, _, HR0, _, _⟩ := unhide HW _ (Kp.refl _ _)
  have C1W := hide (unhide HC1 _ (unhide HR0))
  unfold RkT at C1W
  clear C1 HC1 HE HR0
  obtain ⟨an_, as_, at2⟩ := av
  unfold Vl.v at C1W
  dsimp only at *
  subst hk
  go_enter Tryz.func55, Tryz.ntmps55
  go_wp2_with fail
  refine (unhide C1W).mono ?_
  rintro e w3 ⟨rfl, hb3⟩
  have k3 : Kp [] (((w.alloc (.cells #[.string M.e.k, .string M.e.t, .int .i64 M.e.n0, .int .i64 M.e.n1, .int .i64 M.e.n2, .int .i64 M.e.n3, .string M.e.x] 37)).alloc (.cells #[.int .i64 0, .string { data := #[] }, .bool false] 124)).alloc (.cells #[.int .i64 13, .int .i64 pn, .string ps, .string pt, .int .i64 pf] 53)) w3 := Kp.ofBelow hb3
  obtain ⟨c0, _, hlt, _, _, _⟩ := unhide HW w3 k3
  have k4 := k3.trans (Kp.alloc w3 (.cells #[.int .i64 an_, .string as_, .bool at2] 124)) (by simp)
  obtain ⟨c0', _, _, _, rb, HB⟩ := unhide HW _ k4
  have r0 := rb.cell (i := 0) (v := .int .i64 0) rfl
  have r1 := rb.cell (i := 1) (v := .string { data := #[] }) rfl
  have r2 := rb.cell (i := 2) (v := .bool false) rfl
  have rz := rb.froz
  have HXX := hide (vl_put3 (by omega) rb (unhide HB))
  clear C1W HW hb3 k3 k4 rb HB
  go_wp2
  exact bodyPost_ret (results_row_tmp Tryz.results55 _ _ (w.heap.size + 1) 124 _ (0, 0) _ rfl (unhide HXX _ _ _).1 Tryz.underlying124 rfl info_rvl) rfl ⟨rfl, (unhide HXX _ _ _).2⟩
set_option maxHeartbeats 4000000 in
set_option maxRecDepth 100000 in
theorem reckon_two {M : Mo} {ad an al : Option Addr} (cap cn cl : Nat) (xs : List Pt) (at_ E1 E2 : Nat) (av bv : Vl) (hx : xs.length ≤ 200) (hat : at_ < xs.length) (h4 : 4 ≤ xs[at_].kd) (h12 : xs[at_].kd ≤ 12) (ht : xs[at_].kd = 9 ∨ xs[at_].kd = 10 → av.t = bv.t) (C1 : ∀ W, RkE M ad an al xs W → Calls Tryz.prog 55 #[.slice ad xs.length cap, .int .i64 ((at_ + 1 : Nat) : Int), .agg M.e.c, .slice an M.ns.length cn, .slice al M.la.length cl] W (RkT W av E1)) (C2 : ∀ W, RkE M ad an al xs W → Calls Tryz.prog 55 #[.slice ad xs.length cap, .int .i64 (E1 : Int), .agg M.e.c, .slice an M.ns.length cn, .slice al M.la.length cl] W (RkT W bv E2)) (w : World) (h : RkE M ad an al xs w) :
    Calls Tryz.prog 55 #[.slice ad xs.length cap, .int .i64 (at_ : Int), .agg M.e.c, .slice an M.ns.length cn, .slice al M.la.length cl] w (RkT w (opV xs[at_].kd av bv) E2) := by
  obtain ⟨b, off, rfl, hbl, x0, x1, x2, x3, x4⟩ := h.pts.at at_ hat
  have hev : M.e.c = #[.string M.e.k, .string M.e.t, .int .i64 M.e.n0, .int .i64 M.e.n1, .int .i64 M.e.n2, .int .i64 M.e.n3, .string M.e.x] := rfl
  have HE := hide h
  have hli : (at_ : Int) < (xs.length : Int) := by omega
  rw [hev] at C1 C2 ⊢
  have ha1 : ((at_ + 1 : Nat) : Int) = (at_ : Int) + 1 := by omega
  rw [ha1] at C1
  clear ha1 h
  generalize xs[at_] = p at *
  obtain ⟨pk, pn, ps, pt, pf⟩ := p
  dsimp only at *
  have HW : Hid (∀ W, Kp [] (((w.alloc (.cells #[.string M.e.k, .string M.e.t, .int .i64 M.e.n0, .int .i64 M.e.n1, .int .i64 M.e.n2, .int .i64 M.e.n3, .string M.e.x] 37)).alloc (.cells #[.int .i64 0, .string { data := #[] }, .bool false] 124)).alloc (.cells #[.int .i64 pk, .int .i64 pn, .string ps, .string pt, .int .i64 pf] 53)) W → (W.cell? ⟨w.heap.size + 1 + 1, 0, none⟩ = some (.int .i64 pk)) ∧ EBox w.heap.size M.e W ∧ w.heap.size + 1 + 1 < W.heap.size ∧ Hid (RkE M (some ⟨b, off, none⟩) an al xs W) ∧ CBox (w.heap.size + 1) #[.int .i64 0, .string { data := #[] }, .bool false] 124 W ∧ Hid (Below w.heap.size w W)) := hide (fun W hk => by
    have p2 : CBox (w.heap.size + 1 + 1) #[.int .i64 pk, .int .i64 pn, .string ps, .string pt, .int .i64 pf] 53 W := CBox.kp (vl_at w _ _ _) hk (by simp)
    have p1 : CBox (w.heap.size + 1) #[.int .i64 0, .string { data := #[] }, .bool false] 124 W := CBox.kp (mid_at w _ _ _) hk (by simp)
    have p0 : CBox w.heap.size #[.string M.e.k, .string M.e.t, .int .i64 M.e.n0, .int .i64 M.e.n1, .int .i64 M.e.n2, .int .i64 M.e.n3, .string M.e.x] 37 W := CBox.kp (CBox.kp (CBox.kp (CBox.new w _ _) (Kp.alloc _ _) (by simp)) (Kp.alloc _ _) (by simp)) hk (by simp)
    have hs := hk.size
    have k0 : Kp [] w (((w.alloc (.cells #[.string M.e.k, .string M.e.t, .int .i64 M.e.n0, .int .i64 M.e.n1, .int .i64 M.e.n2, .int .i64 M.e.n3, .string M.e.x] 37)).alloc (.cells #[.int .i64 0, .string { data := #[] }, .bool false] 124)).alloc (.cells #[.int .i64 pk, .int .i64 pn, .string ps, .string pt, .int .i64 pf] 53)) := ((Kp.alloc _ _).trans (Kp.alloc _ _) (by simp)).trans (Kp.alloc _ _) (by simp)
    exact ⟨p2.cell rfl, p0, by simp at hs; omega, hide ((unhide HE).kp (k0.trans hk (by simp))), p1, hide ((mid_all w _ _ _).trans (hk.below (by simp; omega) (by simp)))⟩)
  have HC1 := hide C1
  obtain ⟨_, _, _, HR0, _, _⟩ := unhide HW _ (Kp.refl _ _)
  have C1W := hide (unhide HC1 _ (unhide HR0))
  unfold RkT at C1W
  clear C1 HC1 HE HR0
  have TW := hide (fun W => rTwo_any pk h4 h12 av bv ht W)
  have HC2 := hide C2
  generalize opV pk av bv = ov at *
  obtain ⟨an_, as_, at2⟩ := av
  obtain ⟨bn_, bs_, bt2⟩ := bv
  obtain ⟨on_, os_, ot2⟩ := ov
  unfold Vl.v at C1W TW
  unfold RkT Vl.v at HC2
  dsimp only at *
  have k1 : (pk == 1) = false := beq_eq_false_iff_ne.2 (by omega)
  have k2 : (pk == 2) = false := beq_eq_false_iff_ne.2 (by omega)
  have k3 : (pk == 3) = false := beq_eq_false_iff_ne.2 (by omega)
  have k13 : (pk == 13) = false := beq_eq_false_iff_ne.2 (by omega)
  clear h4 h12 ht C2
  go_enter Tryz.func55, Tryz.ntmps55
  go_wp2_with fail
  refine (unhide C1W).mono ?_
  rintro e w3 ⟨rfl, hb3⟩
  have q3 : Kp [] (((w.alloc (.cells #[.string M.e.k, .string M.e.t, .int .i64 M.e.n0, .int .i64 M.e.n1, .int .i64 M.e.n2, .int .i64 M.e.n3, .string M.e.x] 37)).alloc (.cells #[.int .i64 0, .string { data := #[] }, .bool false] 124)).alloc (.cells #[.int .i64 pk, .int .i64 pn, .string ps, .string pt, .int .i64 pf] 53)) w3 := Kp.ofBelow hb3
  have q4 := q3.trans (Kp.alloc w3 (.cells #[.int .i64 an_, .string as_, .bool at2] 124)) (by simp)
  obtain ⟨c0, eb, hlt, HR4, _, _⟩ := unhide HW _ q4
  have ab : CBox w3.heap.size #[.int .i64 an_, .string as_, .bool at2] 124 (w3.alloc (.cells #[.int .i64 an_, .string as_, .bool at2] 124)) := CBox.new w3 _ _
  obtain ⟨v0, v1, v2, v3, v4, v5, v6⟩ := eb.cells
  have C2W := hide (unhide HC2 _ (unhide HR4))
  have HQ4 := hide q4
  have HAB := hide ab
  clear C1W hb3 q3 q4 HC2 HR4 eb ab
  go_wp2_with fail
  refine (unhide C2W).mono ?_
  rintro e w5 ⟨rfl, hb5⟩
  have q6 := ((unhide HQ4).trans (Kp.ofBelow hb5) (by simp)).trans (Kp.alloc w5 (.cells #[.int .i64 bn_, .string bs_, .bool bt2] 124)) (by simp)
  obtain ⟨d0, _, hlt6, _, _, _⟩ := unhide HW _ q6
  have ab6 := CBox.kp (CBox.kp (unhide HAB) (Kp.ofBelow hb5) (by simp)) (Kp.alloc w5 (.cells #[.int .i64 bn_, .string bs_, .bool bt2] 124)) (by simp)
  have bb6 : CBox w5.heap.size #[.int .i64 bn_, .string bs_, .bool bt2] 124 (w5.alloc (.cells #[.int .i64 bn_, .string bs_, .bool bt2] 124)) := CBox.new w5 _ _
  have a0 := ab6.cell (i := 0) (v := .int .i64 an_) rfl
  have a1 := ab6.cell (i := 1) (v := .string as_) rfl
  have a2 := ab6.cell (i := 2) (v := .bool at2) rfl
  have b0 := bb6.cell (i := 0) (v := .int .i64 bn_) rfl
  have b1 := bb6.cell (i := 1) (v := .string bs_) rfl
  have b2 := bb6.cell (i := 2) (v := .bool bt2) rfl
  have HQ6 := hide q6
  clear C2W hb5 q6 ab6 bb6 HQ4 HAB c0 v0 v1 v2 v3 v4 v5 v6
  go_wp2_with fail
  refine (unhide TW _).mono ?_
  rintro e w7 ⟨rfl, hb7⟩
  have q7 := (unhide HQ6).trans (Kp.ofBelow hb7) (by simp)
  obtain ⟨_, _, hlt7, _, rb, HB⟩ := unhide HW _ q7
  have r0 := rb.cell (i := 0) (v := .int .i64 0) rfl
  have r1 := rb.cell (i := 1) (v := .string { data := #[] }) rfl
  have r2 := rb.cell (i := 2) (v := .bool false) rfl
  have rz := rb.froz
  have HXX := hide (vl_put3 (by omega) rb (unhide HB))
  clear TW HW hb7 q7 rb HB HQ6
  go_wp2
  exact bodyPost_ret (results_row_tmp Tryz.results55 _ _ (w.heap.size + 1) 124 _ (0, 0) _ rfl (unhide HXX _ _ _).1 Tryz.underlying124 rfl info_rvl) rfl ⟨rfl, (unhide HXX _ _ _).2⟩
end Go.Proofs.YthipclehhcfahaaGreatDoor
