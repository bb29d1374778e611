/-
  BufferChains: its walk.
  A slice of numbers that comes in as an argument: its numbers lie where it says.
  BufferChains is proved: for all rows of stages and of steps the law BufferChains returns true (a chain of entries, each behind the one ahead, is kept by its last one alone: with all others dropped its way is there, whole; dropped itself, all are gone at once), and its arguments read behind the call as before. No condition.
-/
import Derived.Test.YthdfaidjdddagaaH07
import Derived.ProofKit
import Derived.OpenShut
import Derived.Deep.Slices
import Derived.Test.YthdfaidjdddagaaRows
import Derived.Deep.DeepHandedRow
import Derived.Lib.LaidTab
namespace Go.Proofs.Ythdfaidjdddagaa
open Go.RowKit

theorem info_intT : (Try.prog.info? 3).map (fun i => (i.zero, i.size, i.bytes)) = some (some (.int .i64 0), 1, 8) := by kernel_rfl
theorem IntsAt.kp0 {w w' : World} {ad : Option Addr} {l : List Int} (h : IntsAt w ad l) (hk : Kp [] w w') : IntsAt w' ad l := fun hl => by
  obtain ⟨b, off, e, hlt, hc⟩ := h hl
  exact ⟨b, off, e, Nat.lt_of_lt_of_le hlt hk.size, fun i hi => hk.cell (hc i hi) (by simp)⟩
/-- Rows of elements of unlike types lie apart. -/
theorem own_ne {B B' : Nat} {w : World} {e e' : TypeId} {sz sz' n n' : Nat} {v u : Value} {xs ys : List Value} (h : w.ownsRow B e sz v n xs) (k : w.ownsRow B' e' sz' u n' ys) (he : e ≠ e') : ∀ b, u.ownBlock = some b → v.ownBlock ≠ some b := by
  obtain ⟨h0, ⟨rfl, h1⟩ | ⟨g, cap, cur, rfl, hg, hh, h2⟩⟩ := h
  · intro b _ hb; cases hb
  · obtain ⟨k0, ⟨rfl, k1⟩ | ⟨g', cap', cur', rfl, hg', hh', h2'⟩⟩ := k
    · intro b hb; cases hb
    · intro b hb hb'
      simp [Value.ownBlock] at hb hb'
      subst hb
      subst hb'
      rw [hh] at hh'
      simp at hh'
      exact he hh'.2
/-- The first numbers, as cells. -/
def idC (k : Nat) : List Value := (List.range k).map fun (j : Nat) => Value.int .i64 (j : Int)
theorem idC_next (k : Nat) : idC (k + 1) = idC k ++ [.int .i64 (k : Int)] := by unfold idC; rw [List.range_succ, List.map_append]; rfl
theorem own_id {B : Nat} {w : World} {v : Value} {k : Nat} (h : w.ownsRow B 3 1 v k (idC k)) (hk : 0 < k) : ∃ g cap, v = .slice (some ⟨g, 0, none⟩) k cap ∧ B ≤ g ∧ k ≤ cap ∧ g < w.heap.size ∧ ∀ j, j < k → w.cell? ⟨g, j, none⟩ = some (.int .i64 (j : Int)) := by
  obtain ⟨h0, ⟨rfl, h1⟩ | ⟨g, cap, cur, rfl, hg, hh, h2, h3, h4, h5⟩⟩ := h
  · omega
  · refine ⟨g, cap, rfl, hg, h2, (Array.getElem?_eq_some_iff.1 hh).1, fun j hj => ?_⟩
    have e : (idC k)[j]? = some (.int .i64 (j : Int)) := by unfold idC; simp [hj]
    rw [← h5, List.getElem?_take_of_lt (by omega)] at e
    simp at e
    simp [World.cell?, hh, e]
/-- All that lies there while a chain grows. -/
structure CnS (w wr : World) (vi vw : Value) (l : List (Int × Int)) (H : Nat → Int) (B : Int) : Prop where
  ids : wr.ownsRow (w.heap.size + 1) 3 1 vi l.length (idC l.length)
  way : OwP (w.heap.size + 1) wr vw l
  bu : Bu w.heap.size (chX l l.length H) (l.length : Int) wr
  iv : BIv (chX l l.length H) (-1) l.length B
  kp : Kp [] w wr
theorem CnS.step {w wr w' : World} {vi vw : Value} {l k : List (Int × Int)} {H H' : Nat → Int} {B B' : Int} (h : CnS w wr vi vw l H B) (hl : k = l) (hb : Bu w.heap.size (chX l l.length H') (l.length : Int) w') (hi : BIv (chX l l.length H') (-1) l.length B') (hk : Kp [w.heap.size] wr w') : CnS w w' vi vw k H' B' := by
  subst hl
  exact ⟨own_kp h.ids hk (fun b hb => by have := own_ge h.ids b hb; simp; omega), own_kp h.way hk (fun b hb => by have := own_ge h.way b hb; simp; omega), hb, hi, h.kp.trans hk (by simp)⟩
/-- The last number of a chain's stages and places is its greatest. -/
def Mono (l : List (Int × Int)) (S P : Int) : Prop := 0 ≤ S ∧ S < 8 ∧ 0 ≤ P ∧ P ≤ 10 * (l.length : Int) ∧ ∀ j, j < l.length → (l.getD j (0, 0)).1 ≤ S ∧ (l.getD j (0, 0)).2 ≤ P
theorem Mono.more {l : List (Int × Int)} {S P S' P' : Int} (h : Mono l S P) (h1 : S ≤ S') (h2 : S' < 8) (h3 : P < P') (h4 : P' ≤ P + 10) : Mono (l ++ [(S', P')]) S' P' := by
  obtain ⟨a, b, c, d, e⟩ := h
  refine ⟨by omega, h2, by omega, by simp; omega, fun j hj => ?_⟩
  rcases Nat.lt_or_ge j l.length with g | g
  · rw [getD_in g]
    have := e j g
    omega
  · obtain rfl : j = l.length := by simp at hj; omega
    rw [getD_end]
    exact ⟨Int.le_refl _, Int.le_refl _⟩
set_option maxHeartbeats 4000000 in
set_option maxRecDepth 100000 in
theorem bchains_walk (az : Option Addr) (cs : Nat) (ls : List Int) (ay : Option Addr) (ct : Nat) (lt : List Int) (w : World) (hls : ls.length ≤ 9223372036854775807) (hAs : IntsAt w az ls) (_hoks : ∀ y ∈ ls, -9223372036854775808 ≤ y ∧ y ≤ 9223372036854775807) (hlt : lt.length ≤ 9223372036854775807) (hAt : IntsAt w ay lt) (_hokt : ∀ y ∈ lt, -9223372036854775808 ≤ y ∧ y ≤ 9223372036854775807) :
    Calls Try.prog 7 #[.slice az ls.length cs, .slice ay lt.length ct] w fun e w' => e = .returned (.bool true) ∧ Below w.heap.size w w' := by
  have NW := hide (buNew_any w)
  have HAS := hide hAs
  have HAT := hide hAt
  clear hAs hAt
  go_enter Try.func7, Try.ntmps7
  go_wp2_with fail
  refine (unhide NW).mono ?_
  rintro r w1 ⟨rfl, hb1, hk1⟩
  have HB1 := hide hb1
  have HK1 := hide hk1
  have WK := hide (bworks_any w1)
  clear NW hb1 hk1
  go_wp2_with fail
  refine (unhide WK).mono ?_
  rintro r w2 ⟨rfl, hk2⟩
  have HC : Hid (CnS w w2 (.slice none 0 0) (.slice none 0 0) [] one1 0) := hide ⟨World.ownsRow_nil _ _ _ _, OwP.nil _ _, by rw [show chX [] ([] : List (Int × Int)).length one1 = fun _ => zeE from chX_zero _ _]; exact (unhide HB1).kp hk2 (by simp), by rw [show chX [] ([] : List (Int × Int)).length one1 = fun _ => zeE from chX_zero _ _]; exact BIv.empty, (unhide HK1).trans hk2 (by simp)⟩
  clear WK HB1 HK1 hk2
  go_wp2_with fail
  go_loopw [6, 7, 8, 9, 10, 11] (fun vi vw vs vp vq vk wr => ∃ (l : List (Int × Int)) (S P : Int), l.length ≤ 60 ∧ l.length ≤ ls.length ∧ vk = .int .i64 (l.length : Int) ∧ vs = .int .i64 S ∧ vp = .int .i64 P ∧ vq = .int .i64 ((l.length : Int) - 1) ∧ Hid (Mono l S P) ∧ Hid (CnS w wr vi vw l one1 (l.length : Int))) (fun _ _ _ _ _ vk _ => 60 - (intOf vk).toNat)
  case atStart => exact ⟨[], 0, 0, by simp, by simp, rfl, rfl, rfl, rfl, hide ⟨by decide, by decide, by decide, by decide, fun j hj => by simp at hj⟩, HC⟩
  case round =>
    clear HC
    obtain ⟨l, S, P, hl6, hll, rfl, rfl, rfl, rfl, HM, HC⟩ := hrel
    by_cases hcc : l.length < ls.length ∧ l.length < 60
    · obtain ⟨h1, h2⟩ := hcc
      · have i1 : (l.length : Int) < (ls.length : Int) := by omega
        have i2 : (l.length : Int) < 60 := by omega
        obtain ⟨bs, os, rfl, _, hcs⟩ := (unhide HAS).kp0 (unhide HC).kp (by intro e; subst e; simp at h1)
        have c1 := hcs l.length h1
        have AM := hide (buAmong_any ls[l.length] 2 wr (by decide) (by decide))
        have hx := Int.emod_nonneg ls[l.length] (b := 2) (by decide)
        have hx2 := Int.emod_lt_of_pos ls[l.length] (b := 2) (by decide)
        obtain ⟨m1, m2, m3, m4, m5⟩ := unhide HM
        clear hcs m5
        go_upto_region 10 with fail
        go_cut [8] (fun v wc => wc = wr ∧ ∃ S', v = .int .i64 S' ∧ S ≤ S' ∧ S' < 8)
        case first =>
          go_wp2_with fail
          refine (unhide AM).mono ?_
          rintro r w3 ⟨rfl, rfl⟩
          clear AM
          generalize ls[l.length] % 2 = X at *
          by_cases hm : 7 ≤ S + X
          · go_wp2_with fail
            go_meet
            exact ⟨rfl, 7, rfl, by omega, by decide⟩
          · go_wp2_with fail
            go_meet
            exact ⟨rfl, S + X, rfl, by omega, by omega⟩
        case rest =>
          obtain ⟨hw, S', rfl, hS1, hS2⟩ := hcut
          obtain rfl := hw.symm
          clear AM c1 hx hx2
          go_upto_if 51 with fail
          go_cut [9] (fun v wc => wc = wr ∧ ∃ P', v = .int .i64 P' ∧ P < P' ∧ P' ≤ P + 10)
          case first =>
            by_cases h3 : l.length < lt.length
            · have i3 : (l.length : Int) < (lt.length : Int) := by omega
              obtain ⟨bt, ot, rfl, _, hct⟩ := (unhide HAT).kp0 (unhide HC).kp (by intro e; subst e; simp at h3)
              have c2 := hct l.length h3
              have AM := hide (buAmong_any lt[l.length] 9 wr (by decide) (by decide))
              have hy := Int.emod_nonneg lt[l.length] (b := 9) (by decide)
              have hy2 := Int.emod_lt_of_pos lt[l.length] (b := 9) (by decide)
              clear hct
              go_wp2_with fail
              refine (unhide AM).mono ?_
              rintro r w3 ⟨rfl, rfl⟩
              clear AM
              generalize lt[l.length] % 9 = Y at *
              go_wp2_with fail
              go_meet
              exact ⟨rfl, P + 1 + Y, rfl, by omega, by omega⟩
            · have i3 : ¬ (l.length : Int) < (lt.length : Int) := by omega
              go_wp2_with fail
              go_meet
              exact ⟨rfl, P + 1, rfl, by omega, by omega⟩
          case rest =>
            obtain ⟨hw, P', rfl, hP1, hP2⟩ := hcut
            obtain rfl := hw.symm
            have HM2 := hide ((unhide HM).more hS1 hS2 hP1 hP2)
            have PR := hide (ch_put l S' P' (by omega) (by omega) (fun j hj => by have := (unhide HM).2.2.2.2 j hj; omega))
            have PT := hide (put_is w.heap.size S' P' ((l.length : Int) - 1) _ l.length (l.length : Int) wr (l.length : Int) 0 _ (l.length + 1) (unhide HC).bu (unhide HC).iv (by omega) (unhide PR))
            go_wp2_with fail
            refine (unhide PT).mono ?_
            rintro r w4 ⟨rfl, hb4, hk4⟩
            have HB4 := hide hb4
            have HK4 : Hid (Kp [] w w4) := hide ((unhide HC).kp.trans hk4 (by simp))
            have HI4 := hide ((unhide PR).iv (unhide HC).iv (by omega))
            have o1 : w4.ownsRow (w.heap.size + 1) 3 1 u6 l.length (idC l.length) := own_kp (unhide HC).ids hk4 (fun b hb => by have := own_ge (unhide HC).ids b hb; simp; omega)
            have o2 : w4.ownsRow (w.heap.size + 1) 41 2 u7 l.length (prC l) := own_kp (unhide HC).way hk4 (fun b hb => by have := own_ge (unhide HC).way b hb; simp; omega)
            have hsz : w.heap.size + 1 ≤ w4.heap.size := by have := hb4.lt; omega
            clear PT PR hb4 hk4 HC HM
            obtain ⟨i0, hi0, hz0, hz1, hz2⟩ := info_parts info_intT
            obtain ⟨j0, hj0, hy0, hy1, hy2⟩ := info_parts info_pair
            have HO2 := hide o2
            have HO1 := hide o1
            have hb1 : l.length + 1 ≤ maxLen := by unfold maxLen; omega
            have hb2 : (l.length + 1) * 8 ≤ 140737488355328 := by omega
            have hb3 : (l.length + 1) * 16 ≤ 140737488355328 := by omega
            clear o2
            go_wp2_with (first
              | (at_builtin; refine wpList_append_lies _ rfl _ _ 37 rfl (w.heap.size + 1) 41 j0 (.agg #[.int .i64 0, .int .i64 0]) 2 16 Try.underlying37 hj0 hy0 hy1 hy2 rfl (by decide) u7 l.length (prC l) rfl (o5.alloc _) ⟨w5.heap.size, 0, none⟩ 1 1 [.int .i64 S', .int .i64 P'] rfl rfl (two_new w5 _ rfl _ _ _) (by intro u hu; simp at hu; rcases hu with rfl | rfl <;> rfl) (by omega) hb1 hb3 (by simp; omega) _ rfl ?_; intro g6 cap6 w6 hown6 hgr6 hat6 hlt6; have HO6 := hide hown6; have HG6 := hide hgr6; clear hown6 hgr6 hat6 hlt6)
              | (at_builtin; refine wpList_append_lies _ rfl _ _ 51 rfl (w.heap.size + 1) 3 i0 (.int .i64 0) 1 8 Try.underlying51 hi0 hz0 hz1 hz2 rfl (by decide) u6 l.length (idC l.length) rfl (o1.alloc _) ⟨w4.heap.size, 0, none⟩ 1 1 [.int .i64 (l.length : Int)] rfl rfl (one_new w4 _ _) (by intro u hu; simp at hu; subst hu; rfl) (by omega) hb1 hb2 (by simp; omega) _ rfl ?_; intro g5 cap5 w5 hown5 hgr5 hat5 hlt5; have k5 : Kp [] w w5 := ((unhide HK4).trans (Kp.alloc _ _) (by simp)).trans (Kp.of hgr5) (fun x hx => Or.inr (by have := own_ge (unhide HO1) x (by simpa using hx); omega)); have o5 : w5.ownsRow (w.heap.size + 1) 41 2 u7 l.length (prC l) := own_kp (World.ownsRow.alloc (unhide HO2) _) (Kp.of hgr5) (fun b hb hm => own_ne (unhide HO1) (unhide HO2) (by decide) b hb (by simpa using hm)); have b5 := ((unhide HB4).kp (Kp.alloc _ _) (by simp)).kp (Kp.of hgr5) (fun hm => by have := own_ge (unhide HO1) w.heap.size (by simpa using hm); omega); have HB5 := hide b5; have HK5 := hide k5; have HO5 := hide hown5; have hsz5 : w.heap.size + 1 ≤ w5.heap.size := (by have := b5.lt; omega); clear hgr5 hat5 hlt5 hown5 b5 k5))
            have HC6 : Hid (CnS w w6 (.slice (some ⟨g5, 0, none⟩) (l.length + 1) cap5) (.slice (some ⟨g6, 0, none⟩) (l.length + 1) cap6) (l ++ [(S', P')]) one1 ((l.length : Int) + 1)) := hide (by
              have e1 : (l ++ [(S', P')]).length = l.length + 1 := by simp
              have k6 : Kp u7.ownBlock.toList w5 w6 := ((Kp.alloc _ _).mono (by simp)).trans (Kp.of (unhide HG6)) (fun x hx => Or.inl hx)
              refine ⟨?_, ?_, ?_, ?_, (unhide HK5).trans k6 (fun x hx => Or.inr (by have := own_ge (unhide HO2) x (by simpa using hx); omega))⟩
              · rw [e1, idC_next]
                exact own_kp (unhide HO5) k6 (fun b hb hm => own_ne o5 (unhide HO5) (by decide) b hb (by simpa using hm))
              · unfold OwP
                rw [e1, prC_snoc]
                exact unhide HO6
              · rw [e1]
                exact (unhide HB5).kp k6 (fun hm => by have := own_ge (unhide HO2) w.heap.size (by simpa using hm); omega)
              · rw [e1]
                exact unhide HI4)
            clear HO1 HO2 HO5 HO6 HG6 HB5 HB4 HK5 HK4 HI4 o1 o5
            go_wp2_with fail
            go_roundw
            case rel => exact ⟨l ++ [(S', P')], S', P', by simp; omega, by simp; omega, by simp, rfl, rfl, by simp, HM2, by simpa using HC6⟩
            case measure => simp [intOf]; omega
    · obtain ⟨ad6, cap6, hu6⟩ : ∃ ad cap, u6 = .slice ad l.length cap := by
        obtain ⟨_, ⟨rfl, h0⟩ | ⟨g, cap, cur, rfl, _⟩⟩ := (unhide HC).ids
        · exact ⟨none, 0, by rw [h0]⟩
        · exact ⟨_, _, rfl⟩
      rcases (show ¬ (l.length : Int) < (ls.length : Int) ∨ ((l.length : Int) < (ls.length : Int) ∧ ¬ (l.length : Int) < 60) by omega) with i1 | ⟨i1, i2⟩
      all_goals
        by_cases hl0 : l.length = 0
        · have hli : (l.length : Int) = 0 := by omega
          subst hu6
          first
            | (exfalso; omega)
            | (go_wp2_with fail
               go_ret
               exact ⟨rfl, (unhide HC).kp.below (Nat.le_refl _) (by simp)⟩)
        · have hli : ¬ (l.length : Int) = 0 := by omega
          obtain ⟨g, cap, hv, hg, hcap, hgl, hcell⟩ := own_id (unhide HC).ids (by omega)
          rw [hv] at hu6
          simp only [Value.slice.injEq, true_and] at hu6
          obtain ⟨rfl, rfl⟩ := hu6
          subst hv
          obtain ⟨k, hk⟩ : ∃ k, l.length = k + 1 := ⟨l.length - 1, by omega⟩
          have hk1 : (l.length : Int) - 1 = (k : Int) := by omega
          have hw1 : IntKind.i64.wrap ((l.length : Int) - 1) = (k : Int) := by rw [IntKind.wrap_i64] <;> omega
          have hkc : (k : Int) ≤ (cap : Int) := by omega
          have hcw : IntKind.i64.wrap (cap : Int) = (cap : Int) := by
            have : cap ≤ maxLen := by
              obtain ⟨_, ⟨h, _⟩ | ⟨_, _, _, h, _, _, _, h3, _⟩⟩ := (unhide HC).ids
              · cases h
              · injection h with _ _ h; omega
            unfold maxLen at this
            rw [IntKind.wrap_i64] <;> omega
          rw [hk1]
          have HK := hide hk
          have HCE := hide hcell
          have hk60 : k < 60 := by omega
          clear hcell hl0 hk hgl hcap
          go_wp2_with fail
          go_loopw [89] (fun v wq => ∃ t : Nat, t ≤ k ∧ v = .int .i64 (t : Int) ∧ Hid (CnS w wq (.slice (some ⟨g, 0, none⟩) l.length cap) u7 l (drp t) (l.length : Int))) (fun v _ => k - (intOf v).toNat)
          case atStart => exact ⟨0, Nat.zero_le _, rfl, by rw [drp_zero]; exact HC⟩
          case round =>
            clear HC HCE
            obtain ⟨t, htk, rfl, HC⟩ := hrel
            obtain ⟨_, _, hv9, _, _, hgl, hcell⟩ := own_id (unhide HC).ids (by omega)
            simp only [Value.slice.injEq, true_and, Option.some.injEq, Addr.mk.injEq, and_true] at hv9
            obtain ⟨rfl, rfl⟩ := hv9
            by_cases htl : t < k
            · have hti : (t : Int) < (k : Int) := by omega
              have c9 := hcell t (by omega)
              have hln := unhide HK
              have DR := hide (buDrop_ok w.heap.size t (by omega) _ l.length (l.length : Int) _ (unhide HC).bu (unhide HC).iv (by omega) (by omega) (ch_held l l.length t (by omega)))
              clear hln hcell
              go_wp2_with fail
              refine (unhide DR).mono ?_
              rintro r w7 ⟨n, d, rfl, _, hsw, hb7, hi7, hk7⟩
              obtain ⟨rfl, rfl⟩ := Swp.one (unhide hsw) (ch_stays l l.length t (by have := unhide HK; omega))
              have HC7 := hide ((unhide HC).step rfl hb7 (unhide hi7) hk7)
              clear DR hsw hb7 hi7 hk7 HC c9
              go_wp2_with fail
              go_roundw
              case rel => exact ⟨t + 1, by omega, by go_num, HC7⟩
              case measure => simp [intOf]; omega
            · obtain rfl : t = k := by omega
              have htt : ¬ (t : Int) < (t : Int) := by omega
              have hln := unhide HK
              have hvl : ∀ j, j < l.length → lvE (chX l l.length (drp t) j) = true := fun j hj => by
                rw [chX_in _ _ _ _ hj, lvE_iff]
                show 0 < drp t j + (if j + 1 < l.length then 1 else 0)
                unfold drp
                by_cases h : j < t
                · rw [if_pos h, if_pos (by omega)]; decide
                · rw [if_neg h]; split <;> decide
              have HWY : Hid (IsWay (chX l l.length (drp t)) (t : Int) l) := hide (by
                have := ch_way l l.length (drp t) (by omega) hvl l.length (Nat.le_refl _) (Nat.le_refl _)
                rw [List.take_length, hk1] at this
                exact this)
              have WY := hide (buWay_ok w.heap.size t (by omega) _ l.length (l.length : Int) _ (unhide HC).bu (unhide HC).iv (by omega) (hvl t (by omega)))
              clear hln hvl hcell
              go_wp2_with fail
              refine (unhide WY).mono ?_
              rintro r w7 ⟨l', v7, rfl, hw7, hl7, ho7, hk7⟩
              obtain rfl := IsWay.one (unhide HWY) (unhide hw7)
              have HC7 := hide ((unhide HC).step rfl ((unhide HC).bu.kp hk7 (by simp)) (unhide HC).iv (hk7.mono (by simp)))
              have WS := hide (ways_any v7 u7 l l w7 ho7.read (unhide HC7).way.read (by omega) true (by simp))
              clear WY hw7 ho7 hk7 HC HWY
              go_wp2_with fail
              refine (unhide WS).mono ?_
              rintro r w8 ⟨rfl, hk8⟩
              have HC8 := hide ((unhide HC7).step rfl ((unhide HC7).bu.kp hk8 (by simp)) (unhide HC7).iv (hk8.mono (by simp)))
              have LN := hide (buLen_any w.heap.size _ _ w8 (unhide HC8).bu)
              clear WS hk8 HC7
              go_wp2_with fail
              refine (unhide LN).mono ?_
              rintro r w9 ⟨rfl, rfl⟩
              have hln := unhide HK
              have DR := hide (buDrop_ok w.heap.size t (by omega) _ l.length (l.length : Int) w9 (unhide HC8).bu (unhide HC8).iv (by omega) (by omega) (ch_held l l.length t (by omega)))
              clear LN hln
              go_wp2_with fail
              refine (unhide DR).mono ?_
              rintro r w10 ⟨n, d, rfl, _, hsw, hb10, hi10, hk10⟩
              have hn : n = l.length := by
                have e := unhide hsw
                rw [unhide HK, ch_last] at e
                have f := ch_swp l (t + 1)
                rw [show ((t + 1 : Nat) : Int) - 1 = (t : Int) by omega] at f
                rw [unhide HK]
                exact (Swp.one e f).1
              have LN := hide (buLen_any w.heap.size _ _ w10 hb10)
              have HKF : Hid (Kp [] w w10) := hide ((unhide HC8).kp.trans hk10 (by simp))
              rw [hn, Nat.sub_self] at LN
              subst hn
              clear DR hsw hb10 hi10 hk10 HC8
              go_wp2_with fail
              refine (unhide LN).mono ?_
              rintro r w11 ⟨rfl, rfl⟩
              clear LN
              go_wp2_with fail
              go_ret
              exact ⟨rfl, (unhide HKF).below (Nat.le_refl _) (by simp)⟩
end Go.Proofs.Ythdfaidjdddagaa
namespace Go.Proofs.Ythdfaidjdddagaa
open Go.RowKit Go.Deep

theorem cells_int : Try.prog.cellsOf 3 = 1 := by kernel_rfl
section
variable {H : Type} {enc : TypeId × Value → H} {W : World} {spare : Nat → Bool} {held : Bool} {fuel : Nat} {v : Value} {x : DataW H × List MemPlace}
theorem open_ints (h : DataW.trod enc Try.prog W 0 spare held fuel 51 [v] = some x) :
    ∃ (ad : Option Addr) (cap : Nat) (l : List Int), v = .slice ad l.length cap ∧ l.length ≤ 9223372036854775807 ∧ IntsAt W ad l ∧ (∀ y ∈ l, -9223372036854775808 ≤ y ∧ y ≤ 9223372036854775807) ∧ (ad = none → cap = 0) := by
  rcases open_slice1 Try.underlying51 cells_int h with ⟨hcs, _⟩ | ⟨a, len, cap, m, n, V, D, Pl, hcs, hb, hl, hm, hmm, _, hx⟩
  · simp only [List.cons.injEq, and_true] at hcs
    subst hcs
    exact ⟨none, 0, [], rfl, by simp, fun hne => absurd rfl hne, by simp, fun _ => rfl⟩
  · simp only [List.cons.injEq, and_true] at hcs
    subst hcs
    have hlm : len ≤ m := by rw [hmm]; split <;> omega
    have each : ∀ i, i < len → ∃ y : Int, W.cell? (a.add i) = some (.int .i64 y) ∧ -9223372036854775808 ≤ y ∧ y ≤ 9223372036854775807 := by
      intro i hi
      obtain ⟨h1, h2⟩ := hx i (by omega)
      obtain ⟨k1, q1, _, wf⟩ := DataW.trod_int Try.underlying3 h2
      simp only [List.cons.injEq, and_true] at q1
      rw [q1] at h1
      have := bounds_i64 wf
      exact ⟨k1, h1, this.1, by omega⟩
    have hinh : Inhabited Int := ⟨0⟩
    obtain ⟨q, hq⟩ := choose_lt each
    refine ⟨some a, cap, (List.range len).map q, by simp, by simp; unfold maxLen at hm; omega, fun hne => ?_, fun y hy => ?_, fun e => by cases e⟩
    · have h0 : 0 < len := by
        rcases Nat.eq_zero_or_pos len with e | e
        · subst e; simp at hne
        · exact e
      obtain ⟨b, off, spot⟩ := a
      have hc0 := (hq 0 h0).1
      have hspot : spot = none := by simpa [Addr.add] using World.cell?_spot hc0
      subst hspot
      refine ⟨b, off, rfl, ?_, fun i hi => ?_⟩
      · rcases Nat.lt_or_ge b W.heap.size with hlt | hge
        · exact hlt
        · exfalso
          rw [Go.WideShapes.add_plain] at hc0
          simp [World.cell?, Array.getElem?_eq_none hge] at hc0
      · have hi' : i < len := by simpa using hi
        obtain ⟨c0, _⟩ := hq i hi'
        rw [Go.WideShapes.add_plain] at c0
        simp only [List.getElem_map, List.getElem_range]
        exact c0
    · obtain ⟨i, hi, rfl⟩ := List.mem_map.1 hy
      exact (hq i (List.mem_range.1 hi)).2
theorem open_intsB (h : DataW.trod enc Try.prog W 0 spare held fuel 51 [v] = some x) :
    ∃ (ad : Option Addr) (cap : Nat) (l : List Int), v = .slice ad l.length cap ∧ l.length ≤ 9223372036854775807 ∧ IntsAt W ad l ∧ ∀ y ∈ l, -9223372036854775808 ≤ y ∧ y ≤ 9223372036854775807 :=
  let ⟨ad, cap, l, h1, h2, h3, h4, _⟩ := open_ints h
  ⟨ad, cap, l, h1, h2, h3, h4⟩
end
end Go.Proofs.Ythdfaidjdddagaa
namespace Go.Proofs.Ythdfaidjdddagaa.bufferChains
open Go.ChangeShapes Go.WideShapes Go.ChangeAt Go.RowKit

theorem laidOut : laidOutB Try.prog = true := by kernel_rfl
theorem own : ownKnob Try.prog.godebug = none := by kernel_rfl
set_option maxRecDepth 100000 in
/-- What the walk gives, for every argument and every world. -/
theorem contract (H : Type) (enc : TypeId × Value → H) (W : World) (base : Nat) (args : Array Value) (ds gs : List (DataW H)) (before : List MemPlace)
    (hval : ∀ (j : Nat) t v, Try.f7.params[j]? = some t → args[j]? = some v → Value.okWide Try.prog W .any base t v)
    (hW : DataW.Whole enc Try.prog Try.f7.params.toList Rows.bufferChainsSpec.vars false W args.toList ds gs before) :
    Calls Try.prog 7 args W fun e W' => ∃ v, e = .returned v ∧ Rows.bufferChainsSpec.post enc Try.prog Try.f7 false true false false W args v W' := by
  have hW' := hW
  obtain ⟨p, q, hA0, hV, rfl, hfz, hnd⟩ := hW
  have hA : DataW.TrodAll enc Try.prog W 0 (fun _ => true) true Try.f7.params.toList args.toList ds p := hA0
  rw [Try.params7] at hA hval
  obtain ⟨v0, vs0, d0, ds0, p0, q0, hargs, rfl, rfl, h0, r0⟩ := trodAll_cons hA
  obtain ⟨v1, vs1, d1, ds1, p1, q1, rfl, rfl, rfl, h1, r1⟩ := trodAll_cons r0
  obtain ⟨rfl, rfl, rfl⟩ := trodAll_nil r1
  obtain rfl : args = #[v0, v1] := by cases args; simp_all
  obtain ⟨rfl, rfl⟩ := trodVars_none hV
  have h0k := h0
  obtain ⟨ad0, len0, cap0, rfl⟩ := okWide_slice Try.underlying51 (hval 0 51 v0 rfl rfl)
  obtain ⟨fuel0, hf0⟩ := h0
  obtain ⟨ad0', cap0', l0, he0, hl0, hA10, hok0⟩ := open_intsB (by simpa [Value.cells] using hf0)
  simp only [Value.slice.injEq] at he0
  obtain ⟨rfl, rfl, rfl⟩ := he0
  have h1k := h1
  obtain ⟨ad1, len1, cap1, rfl⟩ := okWide_slice Try.underlying51 (hval 1 51 v1 rfl rfl)
  obtain ⟨fuel1, hf1⟩ := h1
  obtain ⟨ad1', cap1', l1, he1, hl1, hA11, hok1⟩ := open_intsB (by simpa [Value.cells] using hf1)
  simp only [Value.slice.injEq] at he1
  obtain ⟨rfl, rfl, rfl⟩ := he1
  clear hA0 hf0 hf1
  simp only [List.append_nil] at hW'
  have hlt0 : ∀ x ∈ p0, x.block < W.heap.size := fun x hx => by simpa using hW'.lt x (by simp [hx])
  have hlt1 : ∀ x ∈ p1, x.block < W.heap.size := fun x hx => by simpa using hW'.lt x (by simp [hx])
  refine (bchains_walk ad0 cap0 l0 ad1 cap1 l1 W hl0 hA10 hok0 hl1 hA11 hok1).mono fun e W' ⟨he, hg⟩ => ?_
  subst he
  exact ⟨_, rfl, _, _, _, [], p0 ++ (p1 ++ []), [], hW', trodAll_cons_mk (shut_bool Try.underlying4 _) trodAll_mk0, trodAll_cons_mk (Below.trod laidOut (by kernel_rfl) (of_decide_eq_true (by kernel_rfl)) h0k hg hlt0) (trodAll_cons_mk (Below.trod laidOut (by kernel_rfl) (of_decide_eq_true (by kernel_rfl)) h1k hg hlt1) trodAll_mk0), rfl, hg.frame _, fun h => by cases h⟩

theorem reads (os : Os) {H : Type} (enc : TypeId × Value → H) : ∃ places, DataW.whole enc Try.prog ((World.holding Try.prog os ⟨#[], #[], []⟩).forCall (fun _ _ => 0) ⟨#[], #[.slice none 0 0, .slice none 0 0], []⟩).memory Try.f7.params.toList Rows.bufferChainsSpec.vars false #[Value.slice none 0 0, Value.slice none 0 0].toList 8 = some ([.nil, .nil], [], places) :=
  ⟨[], by kernel_rfl⟩
set_option maxRecDepth 100000 in
theorem lifted (os : Os) (started : os.Started) (H : Type) (enc : TypeId × Value → H) (F : Stop.Interp) :
    ReturnsInHanded {} Try.checked os 7 .any ((OpenSpec.ofChange Rows.bufferChainsSpec).preRow enc Try.prog Try.f7 Rows.bufferChainsRow.domain false Rows.bufferChainsRow.laid) (((OpenSpec.ofChange Rows.bufferChainsSpec).at F).post enc Try.prog Try.f7 false true false false) := by
  obtain ⟨places, hx⟩ := reads os enc
  refine returnsInHanded_of_row (C := Try.checked) (s := OpenSpec.ofChange Rows.bufferChainsSpec) own started (by kernel_rfl) Try.func7
    (witness_row_at (enc := enc) (C := Try.checked) false (World.holding Try.prog os ⟨#[], #[], []⟩) #[.slice none 0 0, .slice none 0 0] rfl (by kernel_rfl) (by kernel_rfl) (by kernel_rfl)
      (OpenSpec.preRow_of_cond 8 hx (by kernel_rfl) (fun k hk => by cases hk) (by kernel_rfl) (laidMet_of_run' 8 (by kernel_rfl) (by kernel_rfl)))) ?_
  intro W base args ds gs before hval hW _ _ _ _ _ _
  exact contract H enc W base args ds gs before hval hW
end Go.Proofs.Ythdfaidjdddagaa.bufferChains
namespace Go.Proofs.Ythdfaidjdddagaa
/-- For all rows of stages and of steps BufferChains returns true. -/
theorem bufferChains_said : Rows.BufferChainsSaid :=
  OpenClaim.holds_of_cond 7 Try.f7 rfl rfl rfl rfl rfl rfl rfl ⟨rfl, rfl, rfl, rfl, rfl⟩ rfl rfl rfl rfl rfl (by kernel_rfl) Try.func7 (by kernel_rfl)
    (of_decide_eq_true (by kernel_rfl)) (by unfold Func.isWrapper; first | (rw [if_pos (by decide +kernel)]; kernel_rfl) | (rw [if_neg (by decide +kernel)]; exact ⟨rfl, rfl⟩))
    (fun os started H enc _ F => by rw [OpenClaim.pre_eq_preRow]; exact bufferChains.lifted os started H enc F)
end Go.Proofs.Ythdfaidjdddagaa
