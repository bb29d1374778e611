/-
  The document's source: Below.
-/
import Derived.Test.YtnikkjbjidhhlaaRsA
import Derived.Test.YtnikkjbjidhhlaaSoJ
namespace Go.Proofs.Ytnikkjbjidhhlaa
open Go.RowKit

set_option maxHeartbeats 4000000 in
set_option maxRecDepth 100000 in
theorem refBelow_any (g q : Nat) (vs : List Value) (ps : List (List Ev)) (key : ByteArray) (adO : Option Addr) (capO : Nat) (os : List Int) (w : World) (h : RsV w g q vs ps) (hk : key.size ≤ 9223372036854775807) (ho : IntsAt w adO os) (hol : os.length ≤ 9223372036854775807) :
    Calls Try.prog 23 #[.pointer (some ⟨g, 0, none⟩), .string key, .slice adO os.length capO] w fun r w' => ∃ v, r = .returned (.tuple #[v, .int .i64 (bwE ps os)]) ∧ EvNew w w' v (bwL key ps os) ∧ Kp [] w w' := by
  have c0 := h.cells
  have h2 := h.few
  have h1 := h.pos
  by_cases hl : os.length = ps.length
  · have hne : os ≠ [] := by rintro rfl; simp at hl; omega
    obtain ⟨bo, oo, rfl, hbo, hco⟩ := ho hne
    have HCO := hide hco
    have PA := hide (fun W => refPart_any key ps.length W h1 h2 hk)
    have HH := hide h
    obtain ⟨i0, hi0, hz0, hz1, hz2⟩ := info_parts info_event
    clear ho hco hne hbo h c0
    have c0 := (unhide HH).cells
    go_enter Try.func23, Try.ntmps23
    rw [hl]
    go_wp2_with fail
    clear c0
    go_loopw [8] (fun i wr => ∃ k : Nat, k ≤ ps.length ∧ i = .int .i64 (k : Int) ∧ Hid (Kp [] w wr) ∧ Hid (∀ j (h1 : j < ps.length) (h2 : j < os.length), j < k → offB ps[j].length os[j] = true)) (fun i _ => ps.length - (intOf i).toNat)
    case atStart => exact ⟨0, Nat.zero_le _, rfl, hide (Kp.refl _ _), hide (fun j _ _ hj => absurd hj (by omega))⟩
    case round =>
      obtain ⟨k, hkk, rfl, KP, HK⟩ := hrel
      have c0 := ((unhide HH).kp (unhide KP) (by simp)).cells
      by_cases hlt : k < ps.length
      · have hli : (k : Int) < (ps.length : Int) := by omega
        have hko : k < os.length := by omega
        have kp2 := (unhide KP).trans (Kp.drew wr) (by simp)
        have s1 := kp2.cell (unhide HCO k hko) (by simp)
        have s2 := ((unhide HH).kp kp2 (by simp)).cells
        obtain ⟨ad, cap, s3, hx1, hx2⟩ := ((unhide HH).kp kp2 (by simp)).at k hlt
        have hL : ps[k].length ≤ 4096 := (unhide HH).lim _ (List.getElem_mem _)
        have s1w := (unhide KP).cell (unhide HCO k hko) (by simp)
        have cS := And.intro s1 (And.intro s2 s3)
        have KP2 := hide kp2
        clear s1 s2 s3 hx1 hx2 kp2
        by_cases hb : offB ps[k].length os[k] = true
        · have HK2 : Hid (∀ j (h1 : j < ps.length) (h2 : j < os.length), j < k + 1 → offB ps[j].length os[j] = true) := hide (fun j h1 h2 hj => by
            by_cases hjk : j < k
            · exact unhide HK j h1 h2 hjk
            · obtain rfl : j = k := by omega
              exact hb)
          have hb2 : 0 ≤ os[k] ∧ os[k] ≤ (ps[k].length : Int) := by unfold offB at hb; rw [Bool.and_eq_true, decide_eq_true_eq, decide_eq_true_eq] at hb; exact hb
          clear HK PA HCO HH hb
          generalize os[k] = o at *
          generalize ps[k].length = N at *
          obtain ⟨t, rfl⟩ : ∃ t : Nat, o = (t : Int) := ⟨o.toNat, by omega⟩
          have hb3 : ¬ N < t := by omega
          have hb4 : ¬ (N : Int) < (t : Int) := by omega
          have hb5 : ¬ (t : Int) < 0 := by omega
          clear hb2
          go_wp2_with fail
          go_region_held3 (fun W => W.cell? ⟨bo, oo + k, none⟩ = some (.int .i64 (t : Int)) ∧ W.cell? ⟨g, 0, none⟩ = some (.slice (some ⟨q, 0, none⟩) ps.length ps.length) ∧ W.cell? ⟨q, k, none⟩ = some (.slice ad N cap))
            (first | with_reducible exact cS)
            (first | fail)
          go_wp2
          go_roundw
          case rel => exact ⟨k + 1, by omega, by go_num, KP2, HK2⟩
          case measure => simp [intOf]; omega
        · have hb' : offB ps[k].length os[k] = false := by simpa using hb
          have hE : bwE ps os = 50 := by unfold bwE; rw [if_pos hl, offsB_none k hlt hko hb']; rfl
          have hLL : bwL key ps os = [] := by unfold bwL; rw [hE]; rfl
          have HN := hide (And.intro hE hLL)
          have hb2 : ¬ (0 ≤ os[k] ∧ os[k] ≤ (ps[k].length : Int)) := fun hh => hb (by unfold offB; rw [Bool.and_eq_true, decide_eq_true_eq, decide_eq_true_eq]; exact hh)
          clear HK PA HCO HH hb hb' hE hLL
          generalize os[k] = o at *
          generalize ps[k].length = N at *
          by_cases ho0 : o < 0
          · clear hb2 cS
            go_wp2
            go_quiet (fail)
            go_wp2
            go_ret2
            rw [(unhide HN).1, (unhide HN).2]
            exact ⟨_, rfl, EvNew.nil _ _, (unhide KP).trans (Kp.drewQ _ _) (by simp)⟩
          · obtain ⟨t, rfl⟩ : ∃ t : Nat, o = (t : Int) := ⟨o.toNat, by omega⟩
            have hb3 : N < t := by omega
            have hb4 : (N : Int) < (t : Int) := by omega
            clear hb2
            go_wp2_with fail
            go_region_held3 (fun W => W.cell? ⟨bo, oo + k, none⟩ = some (.int .i64 (t : Int)) ∧ W.cell? ⟨g, 0, none⟩ = some (.slice (some ⟨q, 0, none⟩) ps.length ps.length) ∧ W.cell? ⟨q, k, none⟩ = some (.slice ad N cap))
              (first | with_reducible exact cS)
              (first | fail)
            go_wp2
            go_ret2
            rw [(unhide HN).1, (unhide HN).2]
            exact ⟨_, rfl, EvNew.nil _ _, unhide KP2⟩
      · have hb : offsB ps os = true := offsB_all hl (fun j h1 h2 => unhide HK j h1 h2 (by omega))
        have hE : bwE ps os = 0 := by unfold bwE; rw [if_pos hl, if_pos hb]
        generalize hp : partOf ps.length key = p at *
        have hpl : p < ps.length := by rw [← hp]; exact partOf_lt _ (by omega) _
        have hpo : p < os.length := by omega
        have hof := unhide HK p hpl hpo (by omega)
        have hLL : bwL key ps os = keyL key (ps[p].take os[p].toNat) := by unfold bwL; rw [if_pos hE, hp, List.getElem?_eq_getElem hpl, List.getElem?_eq_getElem hpo]; rfl
        have hof' : 0 ≤ os[p] ∧ os[p] ≤ (ps[p].length : Int) := by unfold offB at hof; rw [Bool.and_eq_true, decide_eq_true_eq, decide_eq_true_eq] at hof; exact hof
        obtain ⟨t, ht⟩ : ∃ t : Nat, os[p] = (t : Int) := ⟨os[p].toNat, by omega⟩
        rw [ht, Int.toNat_natCast] at hLL
        rw [ht] at hof'
        have htl : t ≤ ps[p].length := by omega
        have hN : ps[p].length ≤ 4096 := (unhide HH).lim _ (List.getElem_mem _)
        obtain ⟨ad, cap, hx1, hv0, hr0⟩ := (unhide HH).at p hpl
        have HAL : Hid (∀ W, Kp [] w W → W.cell? ⟨g, 0, none⟩ = some (.slice (some ⟨q, 0, none⟩) ps.length ps.length) ∧ W.cell? ⟨q, p, none⟩ = some (.slice ad ps[p].length cap) ∧ W.cell? ⟨bo, oo + p, none⟩ = some (.int .i64 (t : Int)) ∧ EvsAt W ad ps[p]) := hide (fun W hW => ⟨hW.cell (p := ⟨g, 0, none⟩) (unhide HH).cells (by simp), hW.cell (p := ⟨q, p, none⟩) hx1 (by simp), by
          have := hW.cell (p := ⟨bo, oo + p, none⟩) (unhide HCO p hpo) (by simp)
          rw [ht] at this
          exact this, hr0.evs.kp hW (by simp)⟩)
        have hpi : (p : Int) < (ps.length : Int) := by omega
        have HEL := hide (And.intro hE hLL)
        have HON := hide ev_one
        have HKN := hide (fun (k2 : Nat) (hk2 : k2 < ps[p].length) => keyL_next key ps[p] k2 hk2)
        have HKL := hide (fun (k2 : Nat) => keyL_len key ps[p] k2)
        have hkk2 : ¬ (k : Int) < (ps.length : Int) := by omega
        clear HK HCO HH hof hof' hLL hE hb hp hx1 hv0 hr0 ht hpo
        generalize ps[p] = A at *
        clear hpl
        go_wp2_with fail
        refine (unhide PA wr).mono ?_
        rintro r w1 ⟨rfl, rfl⟩
        clear PA c0
        go_wp2_with fail
        go_loopw [10, 11] (fun v i wx => ∃ k2 : Nat, k2 ≤ t ∧ i = .int .i64 (k2 : Int) ∧ wx.ownsRow w.heap.size 45 7 v (keyL key (A.take k2)).length (evC (keyL key (A.take k2))) ∧ Hid (Kp [] w wx)) (fun _ i _ => t - (intOf i).toNat)
        case atStart => exact ⟨0, Nat.zero_le _, rfl, World.ownsRow_nil _ _ _ _, KP⟩
        case round =>
          clear KP
          obtain ⟨k2, hk2, rfl, ow, KP⟩ := hrel
          obtain ⟨c0, c1, c2, hev⟩ := unhide HAL wr (unhide KP)
          by_cases hlt2 : k2 < t
          · have hli : (k2 : Int) < (t : Int) := by omega
            have hkA : k2 < A.length := by omega
            have hki : (k2 : Int) < (A.length : Int) := by omega
            obtain ⟨b, off, rfl, x0, x1, x2, x3, x4, x5, x6⟩ := hev.seven k2 hkA
            have hn := unhide HKN k2 hkA
            have hkl := unhide HKL k2
            have hnw := ev_new wr A[k2] 45
            have hon := unhide HON A[k2]
            have hzs := (unhide KP).size
            have ow2 := World.ownsRow.alloc ow (.cells A[k2].c 45)
            have kp2 := (unhide KP).trans (Kp.alloc wr (.cells A[k2].c 45)) (by simp)
            clear HAL HKN HKL HON hev
            generalize A[k2] = y at *
            generalize hx1 : keyL key (A.take k2) = fl at *
            by_cases he : y.k = key
            · rw [if_pos he] at hn
              obtain ⟨yk, yt, n0, n1, n2, n3, yx⟩ := y
              dsimp only at he
              subst he
              unfold Ev.c at hnw hon ow2 kp2
              dsimp only at x0 x1 x2 x3 x4 x5 x6 hnw hon ow2 kp2
              have HN := hide hn
              have HNW := hide hnw
              have HO := hide hon
              have HK2 := hide kp2
              clear hn hnw hon kp2 hx1 ow
              go_wp2_with (at_builtin; refine wpList_append_own _ rfl _ _ 51 rfl w.heap.size 45 i0 (.agg #[.string ⟨#[]⟩, .string ⟨#[]⟩, .int .i64 0, .int .i64 0, .int .i64 0, .int .i64 0, .string ⟨#[]⟩]) 7 80 Try.underlying51 hi0 hz0 hz1 hz2 rfl (by decide) _ _ _ rfl ow2 ⟨wr.heap.size, 0, none⟩ 1 1 [.string yk, .string yt, .int .i64 n0, .int .i64 n1, .int .i64 n2, .int .i64 n3, .string yx] rfl rfl ?c1 ?c2 ?c3 ?c4 ?c5 ?_)
              case c1 => exact unhide HNW
              case c2 => exact unhide HO
              case c3 => unfold maxLen; omega
              case c4 => omega
              case c5 => simp; omega
              intro v3 w3 ow3 hg3 _
              have ow4 : w3.ownsRow w.heap.size 45 7 v3 (keyL yk (A.take (k2 + 1))).length (evC (keyL yk (A.take (k2 + 1)))) := by
                rw [unhide HN, evC_append, evC_one, List.length_append]
                exact ow3
              have kp3 := (unhide HK2).trans (Kp.of hg3) (fun x hx => Or.inr ((World.ownsRow.lt ow2 x (by simpa using hx)).1))
              have OW4 := hide ow4
              have KP3 := hide kp3
              clear ow3 hg3 ow2 ow4 HN HNW HO HK2 kp3
              go_wp2
              go_roundw
              case rel => exact ⟨k2 + 1, by omega, by go_num, unhide OW4, KP3⟩
              case measure => simp [intOf]; omega
            · rw [if_neg he] at hn
              have heb := strNe he
              rw [← hx1] at ow
              have ow1 : wr.ownsRow w.heap.size 45 7 u10 (keyL key (A.take (k2 + 1))).length (evC (keyL key (A.take (k2 + 1)))) := by
                rw [hn, ← hx1]; exact ow
              obtain ⟨yk, yt, n0, n1, n2, n3, yx⟩ := y
              dsimp only at x0 x1 x2 x3 x4 x5 x6 heb
              have OW1 := hide ow1
              clear hn hnw hon kp2 hx1 ow ow1 ow2 he
              go_wp2
              go_roundw
              case rel => exact ⟨k2 + 1, by omega, by go_num, unhide OW1, KP⟩
              case measure => simp [intOf]; omega
          · obtain rfl : k2 = t := by omega
            have htt : ¬ (k2 : Int) < (k2 : Int) := by omega
            clear HAL HKN HKL HON hev
            go_wp2
            go_ret2
            rw [(unhide HEL).1, (unhide HEL).2]
            exact ⟨_, rfl, ⟨EvRow.of ow, fun k hk => (World.ownsRow.lt ow k hk).1⟩, unhide KP⟩
  · have hE : bwE ps os = 1 := by unfold bwE; rw [if_neg hl]
    have hLL : bwL key ps os = [] := by unfold bwL; rw [hE]; rfl
    rw [hE, hLL]
    have hl' : ¬ (os.length : Int) = (ps.length : Int) := by omega
    have HNN := hide (EvNew.nil w w)
    clear hE hLL h ho hl
    generalize ps.length = P at *
    generalize os.length = O at *
    go_enter Try.func23, Try.ntmps23
    go_wp2
    go_ret2
    exact ⟨_, rfl, unhide HNN, Kp.refl _ _⟩
end Go.Proofs.Ytnikkjbjidhhlaa
