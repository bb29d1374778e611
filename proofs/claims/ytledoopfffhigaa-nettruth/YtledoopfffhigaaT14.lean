/-
  The document's net: Clear.
-/
import Derived.Test.YtledoopfffhigaaT12
import Derived.Test.YtledoopfffhigaaT13
namespace Go.Proofs.Ytledoopfffhigaa
open Go.RowKit Nt

/-- Of the first j ways what stays. -/
def dw (x : Int) (ws : List (List Pk)) (j : Nat) : List (List Pk) := (clr x 0 ws).take j ++ ws.drop j
theorem dw_len (x : Int) (ws : List (List Pk)) (j : Nat) : (dw x ws j).length = ws.length := by
  unfold dw
  rw [List.length_append, List.length_take, clr_len, List.length_drop]
  omega
theorem dw_zero (x : Int) (ws : List (List Pk)) : dw x ws 0 = ws := by unfold dw; simp
theorem dw_all (x : Int) (ws : List (List Pk)) : dw x ws ws.length = clr x 0 ws := by
  unfold dw
  rw [List.take_of_length_le (by rw [clr_len]; exact Nat.le_refl _), List.drop_of_length_le (Nat.le_refl _), List.append_nil]
/-- What stays of a way. -/
def kpt (b : Bool) (x : Int) (l : List Pk) : List Pk := if b then [] else l.filter (stays x)
theorem dw_at (x : Int) (ws : List (List Pk)) (j : Nat) (hj : j < ws.length) : (dw x ws j)[j]? = some ws[j] := by
  have hl : ((clr x 0 ws).take j).length = j := by rw [List.length_take, clr_len]; omega
  unfold dw
  rw [List.getElem?_append_right (by omega), hl, Nat.sub_self, List.getElem?_drop, Nat.add_zero, List.getElem?_eq_getElem hj]
theorem dw_next (x : Int) (ws : List (List Pk)) (j : Nat) (hj : j < ws.length) : dw x ws (j + 1) = (dw x ws j).set j (kpt (decide ((j : Int) = x)) x ws[j]) := by
  have hc := clr_get x 0 ws j ws[j] (List.getElem?_eq_getElem hj)
  rw [Nat.zero_add] at hc
  have hjc : j < (clr x 0 ws).length := by rw [clr_len]; exact hj
  have hcj : (clr x 0 ws)[j] = kpt (decide ((j : Int) = x)) x ws[j] := by
    rw [List.getElem?_eq_getElem hjc] at hc
    injection hc with hc
    rw [hc]
    unfold kpt
    by_cases hm : (j : Int) = x
    · rw [if_pos hm, if_pos (by simpa using hm)]
    · rw [if_neg hm, if_neg (by simpa using hm)]; rfl
  have hl : ((clr x 0 ws).take j).length = j := by rw [List.length_take, clr_len]; omega
  have hd : ws.drop j = ws[j] :: ws.drop (j + 1) := List.drop_eq_getElem_cons hj
  unfold dw
  rw [List.take_succ_eq_append_getElem hjc, List.append_assoc, List.set_append_right _ _ (by omega), hl, Nat.sub_self, hd, List.set_cons_zero, hcj]
  rfl
theorem kpt_nil (b : Bool) (x : Int) : kpt b x [] = [] := by unfold kpt; split <;> rfl
theorem kpt_snoc (b : Bool) (x : Int) (l : List Pk) (p : Pk) : kpt b x (l ++ [p]) = if b || !stays x p then kpt b x l else kpt b x l ++ [p] := by
  unfold kpt
  cases b with
  | true => rfl
  | false =>
    simp only [Bool.false_eq_true, if_false, Bool.false_or, List.filter_append]
    cases hs : stays x p with
    | true => simp [hs]
    | false => simp [hs]
theorem kpt_le (b : Bool) (x : Int) (l : List Pk) : (kpt b x l).length ≤ l.length := by
  unfold kpt
  split
  · exact Nat.zero_le _
  · exact List.length_filter_le _ _
theorem dw_tot (x : Int) (ws : List (List Pk)) : ∀ j, j ≤ ws.length → tot (dw x ws j) ≤ tot ws
  | 0, _ => by rw [dw_zero]; exact Nat.le_refl _
  | j + 1, h => by
    have := dw_tot x ws j (by omega)
    have h2 := tot_set (dw x ws j) j ws[j] (kpt (decide ((j : Int) = x)) x ws[j]) (dw_at x ws j (by omega))
    have h3 := kpt_le (decide ((j : Int) = x)) x ws[j]
    rw [dw_next x ws j (by omega)]
    omega
/-- A row of packets of the call's own, no block of it below B. -/
def RpO (B : Nat) (w : World) (v : Value) (l : List Pk) : Prop := w.ownsRow B 79 2 v l.length (pkC l)
theorem RpO.row {B : Nat} {w : World} {v : Value} {l : List Pk} (h : RpO B w v l) : RpRow w v l := by
  obtain ⟨h1, h2 | ⟨g, cp, cur, e, _, r⟩⟩ := h
  · exact ⟨h1, Or.inl h2⟩
  · exact ⟨h1, Or.inr ⟨g, cp, cur, e, Nat.zero_le _, r⟩⟩
/-- The state of a clearing. -/
structure Dg (w : World) (g q : Nat) (s : St) (x : Int) (j : Nat) (G : Int) (wr : World) : Prop where
  at_ : ∃ vs, RnV wr g q vs ⟨dw x s.ws j, s.c⟩
  kp : Kp [q] w wr
  g : G = (tot s.ws : Int) - (tot (dw x s.ws j) : Int)
set_option maxHeartbeats 8000000 in
set_option maxRecDepth 100000 in
theorem rclear_any (B g : Nat) (s : St) (x : Int) (w : World) (M : Int) (h : RnAt B w g s) (ok : Ok M s) (hM : M ≤ 2305843009213693952) :
    Calls Try.prog 23 #[.pointer (some ⟨g, 0, none⟩), .int .i64 x] w fun e w' => e = .returned (.tuple #[.int .i64 (clN s x), .int .i64 (wyE s x)]) ∧ RnAt B w' g (clS s x) ∧ Ks B rnT w w' := by
  obtain ⟨q, vs, hn, hB⟩ := h
  have HA := hide (rnone_any g q vs s x w hn)
  have hclb := clN_bd ok x
  unfold clS wyE
  cases ht : hasN s.ws.length x with
  | false =>
    have HS : Hid (RnAt B w g s ∧ Ks B rnT w w) := hide ⟨⟨q, vs, hn, hB⟩, Ks.refl _ _ _⟩
    have hcl : clN s x = 0 := by unfold clN; rw [ht]; rfl
    rw [ht] at HA
    rw [hcl]
    simp only [Bool.false_eq_true, if_false]
    clear hn hclb hcl
    go_enter Try.func23, Try.ntmps23
    go_wp2_with fail
    refine (unhide HA).mono ?_
    rintro r w1 ⟨rfl, rfl⟩
    go_wp2
    go_ret2
    exact ⟨rfl, unhide HS⟩
  | true =>
    have hcl : clN s x = (tot s.ws : Int) - (tot (clr x 0 s.ws) : Int) := by unfold clN; rw [ht]; rfl
    rw [ht] at HA
    simp only [if_true]
    have hn17 : s.ws.length ≤ 17 := ok.few
    have htl : tot s.ws ≤ 69632 := by have := tot_le s.ws ok.lim; omega
    obtain ⟨i0, hi0, hz0, hz1, hz2⟩ := info_parts info_rp
    have HST : Hid (Dg w g q s x 0 0 w) := hide ⟨⟨vs, by rw [dw_zero]; exact hn⟩, Kp.refl _ _, by rw [dw_zero]; omega⟩
    go_enter Try.func23, Try.ntmps23
    go_wp2_with fail
    refine (unhide HA).mono ?_
    rintro r w1 ⟨rfl, hw1⟩
    obtain rfl := hw1.symm
    clear HA
    go_wp2_with fail
    go_loopw [6, 7] (fun gv iv wr => ∃ (j : Nat) (G : Int), j ≤ s.ws.length ∧ gv = .int .i64 G ∧ iv = .int .i64 (j : Int) ∧ Hid (Dg w g q s x j G wr)) (fun _ iv _ => s.ws.length - (intOf iv).toNat)
    case atStart => exact ⟨0, 0, Nat.zero_le _, rfl, rfl, HST⟩
    case round =>
      clear HST
      obtain ⟨j, G, hj, rfl, rfl, HG⟩ := hrel
      obtain ⟨⟨vs1, hn1⟩, hk1, hg1⟩ := unhide HG
      have hlen1 : (St.ws ⟨dw x s.ws j, s.c⟩).length = s.ws.length := dw_len x s.ws j
      have c0 := hn1.cell
      rw [hlen1] at c0
      have hdt := dw_tot x s.ws j hj
      have hG0 : 0 ≤ G := by omega
      have hG1 : G ≤ 69632 := by omega
      by_cases hlt : j < s.ws.length
      · have hji : (j : Int) < (s.ws.length : Int) := by omega
        obtain ⟨ad, cap, c1, hv, hr⟩ := hn1.at j (by rw [hlen1]; exact hlt)
        have hrow : row ⟨dw x s.ws j, s.c⟩ (j : Int) = s.ws[j] := by
          unfold row
          rw [Int.toNat_natCast, dw_at x s.ws j hlt]
          rfl
        rw [hrow] at c1 hr hv
        have hll : (s.ws[j]).length ≤ 4096 := ok.lim _ (List.getElem_mem hlt)
        have HNX : Hid (∀ wr2 v K, Kp [] wr wr2 → RpRow wr2 v K → K = kpt (decide ((j : Int) = x)) x s.ws[j] → Dg w g q s x (j + 1) (G + (s.ws[j]).length - K.length) (wr2.setCell ⟨q, j, none⟩ v) ∧ wr2.frozen? ⟨q, j, none⟩ = false) := hide (fun wr2 v K hk hr2 he => by
          obtain ⟨a1, a2⟩ := hn1.put (t := j) (by rw [hlen1]; exact hlt) hk hr2
          refine ⟨⟨⟨_, by rw [dw_next x s.ws j hlt, ← he]; exact a1⟩, hk1.trans a2 (fun _ hx => Or.inl hx), ?_⟩, (hn1.kp hk).row.froz j⟩
          rw [dw_next x s.ws j hlt, ← he, hg1]
          have := tot_set (dw x s.ws j) j s.ws[j] K (dw_at x s.ws j hlt)
          omega)
        have HCE : Hid (∀ W, Kp [] wr W → W.cell? ⟨g, 0, none⟩ = some (.slice (some ⟨q, 0, none⟩) s.ws.length s.ws.length) ∧ W.cell? ⟨q, j, none⟩ = some (.slice ad (s.ws[j]).length cap)) := hide (fun W hk => ⟨hk.cell c0 (by simp), hk.cell c1 (by simp)⟩)
        have HRW : Hid (∀ W, Kp [] wr W → RpRow W (.slice ad (s.ws[j]).length cap) s.ws[j]) := hide (fun W hk => hr.kp hk (by simp))
        obtain ⟨b, hb⟩ : ∃ b, b = decide ((j : Int) = x) := ⟨_, rfl⟩
        rw [← hb] at HNX
        have hbx : b = true ↔ (j : Int) = x := by rw [hb]; simp
        clear hb hr hv hrow hn1 hk1 hg1 HG hdt hcl
        have hjl := hlt
        generalize hl0 : s.ws[j] = l at *
        clear hl0
        generalize hw0 : wr = w0 at *
        clear hw0
        go_wp2_with fail
        go_loopw [6, 8, 9] (fun gv ov iv wr2 => ∃ (i : Nat) (o : Value), o = ov ∧ i ≤ l.length ∧ gv = .int .i64 (G + i - ((kpt b x (l.take i)).length : Int)) ∧ iv = .int .i64 (i : Int) ∧ Hid (RpO w0.heap.size wr2 o (kpt b x (l.take i)) ∧ Kp [] w0 wr2)) (fun _ _ iv _ => l.length - (intOf iv).toNat)
        case atStart => exact ⟨0, _, rfl, Nat.zero_le _, by rw [List.take_zero, kpt_nil]; simp, rfl, hide ⟨by rw [List.take_zero, kpt_nil]; exact World.ownsRow_nil _ _ _ _, Kp.refl _ _⟩⟩
        case round =>
          obtain ⟨i, o, rfl, hi, rfl, rfl, HO⟩ := hrel
          obtain ⟨d0, d1⟩ := unhide HCE _ (unhide HO).2
          have hkl := kpt_le b x (l.take i)
          rw [List.length_take] at hkl
          by_cases hil : i < l.length
          · have hili : (i : Int) < (l.length : Int) := by omega
            have hrw := unhide HRW _ (unhide HO).2
            obtain ⟨gr, rfl⟩ : ∃ gr, ad = some ⟨gr, 0, none⟩ := by
              rcases hrw.form with ⟨_, e⟩ | ⟨g', c, e, _⟩
              · rw [e] at hil; cases hil
              · injection e with e1; exact ⟨g', e1⟩
            obtain ⟨e0, e1⟩ := hrw.cell i hil
            have HSN : Hid (kpt b x (l.take (i + 1)) = if b || !stays x l[i] then kpt b x (l.take i) else kpt b x (l.take i) ++ [l[i]]) := hide (by rw [List.take_succ_eq_append_getElem hil, kpt_snoc])
            have hst : stays x l[i] = true ↔ l[i].fr ≠ x := by unfold stays; simp
            clear hrw
            have HLK := hide (rfl : kpt b x (l.take i) = kpt b x (l.take i))
            generalize hK2e : kpt b x (l.take (i + 1)) = K2 at *
            have HKE := hide hK2e
            clear hK2e
            generalize kpt b x (l.take i) = K at *
            generalize l[i] = p at *
            clear HLK
            obtain ⟨fr, bb⟩ := p
            dsimp only at *
            by_cases hjx : (j : Int) = x
            · have hb1 : b = true := hbx.2 hjx
              have hjb : ((j : Int) == x) = true := by simpa using hjx
              have HK2 : Hid (K2 = K) := hide (by have := unhide HSN; rw [hb1] at this; simpa using this)
              have HO2 : Hid (RpO w0.heap.size wr o K2 ∧ Kp [] w0 wr) := hide (by rw [unhide HK2]; exact unhide HO)
              have hl2 : G + (i : Int) - (K.length : Int) + 1 = G + ((i + 1 : Nat) : Int) - (K2.length : Int) := by rw [unhide HK2]; omega
              clear HSN HO hst hjx e0 e1
              have HL2 := hide hl2
              have hww : wrap64 (G + (i : Int) - (K.length : Int) + 1) = G + (i : Int) - (K.length : Int) + 1 := by unfold wrap64; omega
              clear hl2
              go_wp2
              go_roundw
              case rel => exact ⟨i + 1, o, rfl, by omega, by rw [unhide HKE, ← unhide HL2], by go_num, by rw [unhide HKE]; exact HO2⟩
              case measure => simp [intOf]; omega
            · have hb1 : b = false := by
                cases b with
                | false => rfl
                | true => exact absurd (hbx.1 rfl) hjx
              have hjb : ((j : Int) == x) = false := by simpa using hjx
              by_cases hfx : fr = x
              · have hfb : (fr == x) = true := by simpa using hfx
                have hs : stays x ⟨fr, bb⟩ = false := by
                  cases h : stays x ⟨fr, bb⟩ with
                  | false => rfl
                  | true => exact absurd hfx (hst.1 h)
                have HK2 : Hid (K2 = K) := hide (by have := unhide HSN; rw [hb1, hs] at this; simpa using this)
                have HO2 : Hid (RpO w0.heap.size wr o K2 ∧ Kp [] w0 wr) := hide (by rw [unhide HK2]; exact unhide HO)
                have hl2 : G + (i : Int) - (K.length : Int) + 1 = G + ((i + 1 : Nat) : Int) - (K2.length : Int) := by rw [unhide HK2]; omega
                have HL2 := hide hl2
                have hww : wrap64 (G + (i : Int) - (K.length : Int) + 1) = G + (i : Int) - (K.length : Int) + 1 := by unfold wrap64; omega
                clear HSN HO hst hjx hs hfx hl2
                go_wp2
                go_roundw
                case rel => exact ⟨i + 1, o, rfl, by omega, by rw [unhide HKE, ← unhide HL2], by go_num, by rw [unhide HKE]; exact HO2⟩
                case measure => simp [intOf]; omega
              · have hfb : (fr == x) = false := by simpa using hfx
                have hs : stays x ⟨fr, bb⟩ = true := hst.2 hfx
                have HK2 : Hid (K2 = K ++ [⟨fr, bb⟩]) := hide (by have := unhide HSN; rw [hb1, hs] at this; simpa using this)
                have hl2 : G + (i : Int) - (K.length : Int) = G + ((i + 1 : Nat) : Int) - (K2.length : Int) := by rw [unhide HK2, List.length_append]; simp; omega
                have HL2 := hide hl2
                have hown : wr.ownsRow w0.heap.size 79 2 o K.length (pkC K) := (unhide HO).1
                have hkr := (unhide HO).2
                have hsz := hkr.size
                clear HSN hst hjx hs hfx hl2
                go_wp2_with (at_builtin; refine wpList_append_own _ rfl _ _ 77 rfl w0.heap.size 79 i0 (.agg #[.int .i64 0, .string ⟨#[]⟩]) 2 24 Try.underlying77 hi0 hz0 hz1 hz2 rfl (by decide) _ _ _ rfl (hown.alloc _) ⟨wr.heap.size, 0, none⟩ 1 1 [.int .i64 fr, .string bb] rfl rfl ?c1 ?c2 ?c3 ?c4 ?c5 ?_)
                case c1 =>
                  intro jj u hj
                  rw [Go.WideShapes.add_plain, Nat.zero_add]
                  exact (CBox.new wr #[.int .i64 fr, .string bb] _).cell (by simpa using hj)
                case c2 => intro u hu; simp at hu; rcases hu with rfl | rfl <;> rfl
                case c3 => unfold maxLen; omega
                case c4 => omega
                case c5 => simp; omega
                intro v' w5 hown2 hgrow _
                have HO2 : Hid (RpO w0.heap.size w5 v' K2 ∧ Kp [] w0 w5) := hide (by
                  refine ⟨?_, ?_⟩
                  · unfold RpO
                    rw [unhide HK2, List.length_append, pkC_append]
                    exact hown2
                  · refine (kp_tr hkr (Kp.alloc wr (.cells #[.int .i64 fr, .string bb] 79))).trans (Kp.of hgrow) (fun k hk => Or.inr ?_)
                    have hk : o.ownBlock = some k := by simpa using hk
                    exact (World.ownsRow.lt hown k hk).1)
                clear hown hown2 hgrow HO e0 e1
                go_wp2
                go_roundw
                case rel => exact ⟨i + 1, v', rfl, by omega, by rw [unhide HKE, ← unhide HL2], by go_num, by rw [unhide HKE]; exact HO2⟩
                case measure => simp [intOf]; omega
          · obtain rfl : i = l.length := by omega
            have hili : ¬ (l.length : Int) < (l.length : Int) := by omega
            rw [List.take_length] at HO
            obtain ⟨n1, n2⟩ := unhide HNX _ o _ (unhide HO).2 (unhide HO).1.row rfl
            have N1 := hide n1
            obtain ⟨oa, oc, hov⟩ := (unhide HO).1.row.slice
            rw [List.take_length]
            generalize kpt b x l = K at *
            subst hov
            clear n1 HO HNX HCE HRW
            go_wp2
            go_roundw
            case rel => exact ⟨j + 1, _, by omega, rfl, by go_num, N1⟩
            case measure => simp [intOf]; omega
      · obtain rfl : j = s.ws.length := by omega
        have hji : ¬ (s.ws.length : Int) < (s.ws.length : Int) := by omega
        rw [dw_all] at hn1 hg1
        rw [← hcl] at hg1
        obtain ⟨V2, hV2⟩ : ∃ V2, V2 = wr.drew := ⟨_, rfl⟩
        have kV2 : Kp [] wr V2 := by rw [hV2]; exact Kp.drew wr
        have b0 : V2.cell? ⟨g, 2, none⟩ = some (.int .i64 (s.c 1)) := (hn1.kp kV2).box.cell (ntC_at _ _ _ 1 (by decide))
        have fz := (hn1.kp kV2).box.froz 2
        have hw : IntKind.i64.wrap (s.c 1 + G) = s.c 1 + G := by
          have h1 := ok.lo 1
          have h2 := ok.hi 1
          rw [IntKind.wrap_i64]
          omega
        have FN : Hid (RnAt B (V2.setCell ⟨g, 2, none⟩ (.int .i64 (s.c 1 + G))) g ⟨clr x 0 s.ws, up s.c 1 (s.c 1 + clN s x)⟩ ∧ Ks B rnT w (V2.setCell ⟨g, 2, none⟩ (.int .i64 (s.c 1 + G)))) := hide (by
          obtain ⟨a1, a2⟩ := hn1.count kV2 1 (by decide) (s.c 1 + G)
          rw [hg1] at a1 a2 ⊢
          refine ⟨⟨q, vs1, a1, hB⟩, rn_ks hn hB (F := [q, g]) ((hk1.mono (by simp)).trans (a2.mono (G := [q, g]) (by simp)) (fun _ hx => Or.inl hx)) (fun k hk => ?_)⟩
          simp at hk
          rcases hk with rfl | rfl
          · exact Or.inr (Or.inl rfl)
          · exact Or.inl rfl)
        have HG1 := hide hg1
        clear HG hn1 hk1 hg1 hdt hcl ok hn hB hclb ht
        obtain ⟨C, hC⟩ : ∃ C, C = s.c 1 := ⟨_, rfl⟩
        rw [← hC] at b0 hw
        have HC := hide hC
        clear hC
        go_upto_region 15 with fail
        refine wp_region_late (fun W => W.cell? ⟨g, 2, none⟩ = some (.int .i64 C)) 10 (by kernel_rfl) ?_
        rw [← hV2]
        clear hV2
        show wpAnyL _ _ _ _ _ _ 11 (Array.replicate 11 false) _ _
        refine wpAnyL_take3 (i := 0) (oi := { dst := some 74, op := Op.move (Operand.tmp 0), type := 27, pos := "ref.go:127", after := #[], guard := none }) (v := ?_) rfl (by kernel_rfl) (by kernel_rfl) (by kernel_rfl) (by kernel_rfl) (fun _ _ _ h => h) (Or.inl ⟨by rfl, ?_⟩) b0 ?_
        rotate_left 1
        · intro w0 hSw
          (try dsimp only at hSw)
          go_simp
          (try with_reducible rfl)
        try simp only [Act.put, List.setIfInBounds_toArray, List.set_cons_zero, List.set_cons_succ]
        refine wpAnyL_take3 (i := 1) (oi := { dst := some 75, op := Op.nilCheck (Operand.tmp 74), type := 0, pos := "ref.go:127", after := #[{ on := 0, ground := Ground.data }], guard := none }) (v := ?_) rfl (by kernel_rfl) (by kernel_rfl) (by kernel_rfl) (by kernel_rfl) (fun _ _ _ h => h) (Or.inl ⟨by rfl, ?_⟩) b0 ?_
        rotate_left 1
        · intro w0 hSw
          (try dsimp only at hSw)
          go_simp
          (try with_reducible rfl)
        try simp only [Act.put, List.setIfInBounds_toArray, List.set_cons_zero, List.set_cons_succ]
        refine wpAnyL_take3 (i := 2) (oi := { dst := some 76, op := Op.fieldAddr 37 (Operand.tmp 75) 1, type := 0, pos := "ref.go:127", after := #[{ on := 1, ground := Ground.data }], guard := none }) (v := ?_) rfl (by kernel_rfl) (by kernel_rfl) (by kernel_rfl) (by kernel_rfl) (fun _ _ _ h => h) (Or.inl ⟨by rfl, ?_⟩) b0 ?_
        rotate_left 1
        · intro w0 hSw
          (try dsimp only at hSw)
          go_simp
          (try with_reducible rfl)
        try simp only [Act.put, List.setIfInBounds_toArray, List.set_cons_zero, List.set_cons_succ]
        refine wpAnyL_take3 (i := 3) (oi := { dst := some 77, op := Op.indexAddr 33 (Operand.tmp 76) (Operand.const (Value.int IntKind.i64 1)), type := 0, pos := "ref.go:127", after := #[{ on := 2, ground := Ground.data }], guard := none }) (v := ?_) rfl (by kernel_rfl) (by kernel_rfl) (by kernel_rfl) (by kernel_rfl) (fun _ _ _ h => h) (Or.inl ⟨by rfl, ?_⟩) b0 ?_
        rotate_left 1
        · intro w0 hSw
          (try dsimp only at hSw)
          go_simp
          (try with_reducible rfl)
        try simp only [Act.put, List.setIfInBounds_toArray, List.set_cons_zero, List.set_cons_succ]
        refine wpAnyL_take3 (i := 4) (oi := { dst := some 78, op := Op.load 3 (Operand.tmp 77), type := 3, pos := "ref.go:127", after := #[{ on := 3, ground := Ground.data }], guard := none }) (v := ?_) rfl (by kernel_rfl) (by kernel_rfl) (by kernel_rfl) (by kernel_rfl) (fun _ _ _ h => h) (Or.inl ⟨by rfl, ?_⟩) b0 ?_
        rotate_left 1
        · intro w0 hSw
          (try dsimp only at hSw)
          go_simp
          (try with_reducible rfl)
        try simp only [Act.put, List.setIfInBounds_toArray, List.set_cons_zero, List.set_cons_succ]
        refine wpAnyL_take3 (i := 5) (oi := { dst := some 79, op := Op.move (Operand.tmp 6), type := 3, pos := "ref.go:127", after := #[], guard := none }) (v := ?_) rfl (by kernel_rfl) (by kernel_rfl) (by kernel_rfl) (by kernel_rfl) (fun _ _ _ h => h) (Or.inl ⟨by rfl, ?_⟩) b0 ?_
        rotate_left 1
        · intro w0 hSw
          (try dsimp only at hSw)
          go_simp
          (try with_reducible rfl)
        try simp only [Act.put, List.setIfInBounds_toArray, List.set_cons_zero, List.set_cons_succ]
        refine wpAnyL_take3 (i := 6) (oi := { dst := some 80, op := Op.binOp BinOp.add 3 (Operand.tmp 78) (Operand.tmp 79) 3, type := 3, pos := "ref.go:127", after := #[{ on := 4, ground := Ground.data }, { on := 5, ground := Ground.data }], guard := none }) (v := ?_) rfl (by kernel_rfl) (by kernel_rfl) (by kernel_rfl) (by kernel_rfl) (fun _ _ _ h => h) (Or.inl ⟨by rfl, ?_⟩) b0 ?_
        rotate_left 1
        · intro w0 hSw
          (try dsimp only at hSw)
          go_simp
          (try with_reducible rfl)
        try simp only [Act.put, List.setIfInBounds_toArray, List.set_cons_zero, List.set_cons_succ]
        refine wpAnyL_one (i := 7) (o := { dst := some 81, op := Op.nilCheck (Operand.tmp 74), type := 0, pos := "ref.go:127", after := #[{ on := 0, ground := Ground.data }], guard := none }) rfl (by kernel_rfl) (fun K hK => ?_)
        go_simp
        refine hK _ _ (Or.inr b0) ?_
        clear hK K
        try simp only [Act.put, List.setIfInBounds_toArray, List.set_cons_zero, List.set_cons_succ]
        refine wpAnyL_one (i := 8) (o := { dst := some 82, op := Op.fieldAddr 37 (Operand.tmp 81) 1, type := 0, pos := "ref.go:127", after := #[{ on := 7, ground := Ground.data }], guard := none }) rfl (by kernel_rfl) (fun K hK => ?_)
        go_simp
        refine hK _ _ (Or.inr b0) ?_
        clear hK K
        try simp only [Act.put, List.setIfInBounds_toArray, List.set_cons_zero, List.set_cons_succ]
        refine wpAnyL_one (i := 9) (o := { dst := some 83, op := Op.indexAddr 33 (Operand.tmp 82) (Operand.const (Value.int IntKind.i64 1)), type := 0, pos := "ref.go:127", after := #[{ on := 8, ground := Ground.data }, { on := 0, ground := Ground.phase }, { on := 1, ground := Ground.phase }, { on := 2, ground := Ground.phase }, { on := 3, ground := Ground.phase }, { on := 4, ground := Ground.phase }, { on := 5, ground := Ground.phase }, { on := 6, ground := Ground.phase }], guard := none }) rfl (by kernel_rfl) (fun K hK => ?_)
        go_simp
        refine hK _ _ (Or.inr b0) ?_
        clear hK K
        try simp only [Act.put, List.setIfInBounds_toArray, List.set_cons_zero, List.set_cons_succ]
        refine wpAnyL_one (i := 10) (o := { dst := none, op := Op.store 3 (Operand.tmp 83) (Operand.tmp 80), type := 0, pos := "ref.go:127", after := #[{ on := 9, ground := Ground.data }, { on := 6, ground := Ground.data }, { on := 0, ground := Ground.phase }, { on := 1, ground := Ground.phase }, { on := 2, ground := Ground.phase }, { on := 3, ground := Ground.phase }, { on := 4, ground := Ground.phase }, { on := 5, ground := Ground.phase }, { on := 6, ground := Ground.phase }], guard := none }) rfl (by kernel_rfl) (fun K hK => ?_)
        go_simp
        refine hK _ _ (Or.inl rfl) ?_
        clear hK K
        try simp only [Act.put, List.setIfInBounds_toArray, List.set_cons_zero, List.set_cons_succ]
        refine wpAnyL_done (by kernel_rfl) ?_ _
        go_wp2
        go_ret2
        obtain rfl := unhide HC
        exact ⟨by rw [← unhide HG1]; rfl, unhide FN⟩
end Go.Proofs.Ytledoopfffhigaa
