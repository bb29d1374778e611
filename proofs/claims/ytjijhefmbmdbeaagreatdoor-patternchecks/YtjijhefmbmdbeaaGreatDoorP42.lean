/-
  The reader of patterns: a stage behind its name.
-/
import Derived.Test.YtjijhefmbmdbeaaGreatDoorP41
namespace Go.Proofs.YtjijhefmbmdbeaaGreatDoor
open Go.RowKit Go.Shelf

set_option maxHeartbeats 8000000 in
set_option maxRecDepth 100000 in
theorem pstage_rest {gr : Nat} {tk : Value} {l : List Tk} {k n : Nat} {sv : Value} {wi : Int} {rs : List SR} {W : World} (h : PB gr tk l k sv wi 0 0 W) (hk : k < l.length) (q : Int) (hQ : hwOf (wdT l[k]) = some q) (hk1 : k + 1 < l.length) (hS : isSg (wdS l[k + 1]) = true) (hk2 : k + 1 + 1 < l.length) (hL2 : Tail (l.drop (k + 1 + 1)) n) (R : SRd) (hR : R = mnR q (wdS l[k + 1]) (l.drop (k + 1 + 1))) (hG : OwnsG (gr + 1) W sv rs) (hrs : rs.length ≤ 8) :
    Calls Tryz.prog 78 #[.pointer (some ⟨gr, 0, none⟩)] W (StT gr tk l n sv wi rs W R) := by
  have hlt := h.lt
  have ka := Kp.alloc W (.cells #[.string ⟨#[]⟩, .int .i64 0, .bool false, .slice none 0 0] 54)
  have hs0 : SB W.heap.size ⟨#[]⟩ 0 false (.slice none 0 0) (W.alloc (.cells #[.string ⟨#[]⟩, .int .i64 0, .bool false, .slice none 0 0] 54)) := CBox.new W _ _
  have C1 := hide (phow_any (h.kp ka (by simp)) (drop_cons hk) hs0 hlt)
  rw [hQ] at C1
  simp only [Option.isSome_some, Option.getD_some] at C1
  rw [if_pos trivial, if_pos trivial] at C1
  have HN := hide (fun W1 (hp : PB gr tk l (k + 1) sv wi 0 0 W1) (hs : SB W.heap.size ⟨#[]⟩ q false (.slice none 0 0) W1) => pname_any hp (drop_cons hk1) hs hlt)
  rw [hS] at HN
  simp only [if_true] at HN
  have HSK := hide (fun W1 (hp : PB gr tk l (k + 1 + 1) sv wi 0 0 W1) => pskip_any hp (drop_cons hk2) ⟨#[43]⟩)
  have e43 : (⟨#[43]⟩ : ByteArray).data.toList = [43] := rfl
  rw [e43] at HSK
  obtain ⟨B, K, hB, hK, hR3, hk3, hL3⟩ := plus_at hk2 hL2 hR
  rw [hB, hK] at HSK
  have HKA := hide ka
  have HG := hide hG
  have HR3 := hide hR3
  have HL3 := hide hL3
  have hK5 : K ≤ 100000 := by have := h.len; omega
  have hsvs : ∃ a c, sv = .slice a rs.length c := by
    obtain ⟨a, c, e, _⟩ := hG.at
    exact ⟨a, c, e⟩
  obtain ⟨sva, svc, rfl⟩ := hsvs
  have H58 := hide (fun W1 (hp : PB gr tk l K (.slice sva rs.length svc) wi 0 0 W1) => pskip_any hp (drop_cons hk3) ⟨#[58]⟩)
  have e58 : (⟨#[58]⟩ : ByteArray).data.toList = [58] := rfl
  rw [e58] at H58
  generalize wdS l[k + 1] = NM at *
  clear h ka hs0 hR hQ hS hG hB hK hR3 e43 e58 hL3 hL2
  by_cases hc : wdT l[K] = [58]
  · rw [hc] at H58
    simp only [decide_true, if_true] at H58
    have HR4 : Hid (R = cdR q NM B (l.drop (K + 1))) := hide (by
      rw [unhide HR3, drop_cons hk3]
      unfold clR
      simp only [wdL, List.drop_one, List.tail_cons]
      rw [if_pos hc])
    obtain ⟨hk4, hL4, _⟩ := (unhide HL3).step (drop_cons hk3) (wdT_kd (by rw [hc]; simp))
    have HL4 := hide hL4
    have HCD := hide (fun W1 (hp : PB gr tk l (K + 1) (.slice sva rs.length svc) wi 0 0 W1) (hs : SB W.heap.size NM q B (.slice none 0 0) W1) => pcond_any hp hk4 hL4 hs hlt)
    clear hL4 HR3 HL3 hc
    go_enter Tryz.func78, Tryz.ntmps78
    go_wp2_with fail
    refine (unhide C1).mono ?_
    rintro e w1 ⟨rfl, hp1, hs1, hkp1⟩
    have HK1 := hide (all_kp (gr := gr) (gs := W.heap.size) ((unhide HKA).mono (by simp)) hkp1 (by simp) (Nat.le_refl _))
    have N1 := hide (unhide HN w1 hp1 hs1)
    clear C1 hp1 hs1 hkp1 HN HKA
    go_wp2_with fail
    refine (unhide N1).mono ?_
    rintro e w2 ⟨rfl, hp2, hs2, hkp2⟩
    have HK2 := hide (all_kp (gr := gr) (gs := W.heap.size) (unhide HK1) hkp2 (by simp) (Nat.le_refl _))
    have K1 := hide (unhide HSK w2 hp2)
    have HS2 := hide hs2
    clear N1 hp2 hs2 hkp2 HK1 HSK
    go_wp2_with fail
    refine (unhide K1).mono ?_
    rintro e w3 ⟨rfl, hp3, hkp3⟩
    have hs3 : SB W.heap.size NM q false (.slice none 0 0) w3 := CBox.kp (unhide HS2) hkp3 (by simp; omega)
    have z2 := hs3.cell (i := 2) (v := .bool false) rfl
    have zf := CBox.froz hs3
    have hs4 : SB W.heap.size NM q B (.slice none 0 0) (w3.setCell ⟨W.heap.size, 2, none⟩ (.bool B)) := CBox.set hs3 2 _
    have hp4 := hp3.kp (Kp.set w3 W.heap.size 2 (.bool B)) (by simpa using hlt)
    have HK4 := hide (all_kp (gr := gr) (gs := W.heap.size) (all_kp (gr := gr) (gs := W.heap.size) (unhide HK2) hkp3 (by simp) (Nat.le_refl _)) (Kp.set w3 W.heap.size 2 (.bool B)) (by simp) (Nat.le_refl _))
    have S1 := hide (unhide H58 _ hp4)
    have HS4 := hide hs4
    have hl3 : W.heap.size < w3.heap.size := (Array.getElem?_eq_some_iff.1 hs3).1
    clear K1 hp3 hkp3 hs3 hs4 hp4 HK2 HS2 H58
    go_wp2_with fail
    refine (unhide S1).mono ?_
    rintro e w5 ⟨rfl, hp5, hkp5⟩
    have hs5 : SB W.heap.size NM q B (.slice none 0 0) w5 := CBox.kp (unhide HS4) hkp5 (by simp; omega)
    have HK5 := hide (all_kp (gr := gr) (gs := W.heap.size) (unhide HK4) hkp5 (by simp) (Nat.le_refl _))
    have D1 := hide (unhide HCD w5 hp5 hs5)
    have hw5 : W.heap.size ≤ w5.heap.size := (unhide HK5).size
    clear S1 hp5 hs5 hkp5 HK4 HS4 z2 zf HCD hl3
    go_wp2_with fail
    refine (unhide D1).mono ?_
    rintro e w6 ⟨ad, cp, j, A, C, x, rfl, hp6, hs6, ho6, hps, hkp6⟩
    have HK6 := hide (all_kp (gr := gr) (gs := W.heap.size) (unhide HK5) hkp6 (by simp) (Nat.le_refl _))
    have hjb : K + 1 + j ≤ 100000 := by
      have h1 := hp6.len
      rcases hps with ⟨_, _, hj, _⟩ | ⟨_, hj, _⟩
      · rw [List.length_drop] at hj; omega
      · omega
    rcases hps with ⟨rfl, rfl, hj, hgd, hck⟩ | ⟨rfl, rfl, rfl, hbd⟩
    · obtain ⟨hk7, hL7, hdr⟩ := (unhide HL4).far hgd
      have HR5 : Hid (R = if wdL (l.drop (K + 1 + j)) = [59] then .good ⟨NM, q, B, x⟩ ((l.drop (K + 1 + j)).drop 1) else .bad (hdPl (l.drop (K + 1 + j))) 120) := hide (by
        rw [unhide HR4]
        unfold cdR
        rw [hgd]
        dsimp only
        rw [if_neg hck, hdr])
      have S2 := pskip_any hp6 (drop_cons hk7) ⟨#[59]⟩
      have e59 : (⟨#[59]⟩ : ByteArray).data.toList = [59] := rfl
      rw [e59] at S2
      have HS6 := hide hs6
      have HO6 := hide ho6
      rw [drop_cons hk7] at HR5
      simp only [wdL, List.drop_one, List.tail_cons] at HR5
      clear D1 hp6 hs6 ho6 hkp6 HK5 hgd hck hdr HR4 HL4 e59
      by_cases h59 : wdT l[K + 1 + j] = [59]
      · rw [h59] at S2 HR5
        simp only [decide_true, if_true] at S2 HR5
        obtain ⟨hk8, hL8, _⟩ := hL7.step (drop_cons hk7) (wdT_kd (by rw [h59]; simp))
        have HS2 := hide S2
        have HL8 := hide hL8
        clear S2 hL8 hL7 h59
        go_wp2_with fail
        refine (unhide HS2).mono ?_
        rintro e w7 ⟨rfl, hp7, hkp7⟩
        have hK7 := all_kp (gr := gr) (gs := W.heap.size) (unhide HK6) hkp7 (by simp) (Nat.le_refl _)
        have hs7 : SB W.heap.size NM q B (.slice ad x.length cp) w7 := CBox.kp (unhide HS6) hkp7 (by simp; omega)
        have hG7 := (unhide HG).kp hK7 (by simp)
        have hC7 : OwnsP (gr + 1) w7 (.slice ad x.length cp) x := OwnsP.mono (row_kp (unhide HO6) hkp7 (fun g hg => by have := (World.ownsRow.lt (unhide HO6) g hg).1; simp; omega)) (by omega)
        have hB7 : Below gr W w7 := hK7.below (by omega) (by simp)
        obtain ⟨i0, hi, hz0, hz1, hz2⟩ := info_parts info_St
        have hs7d : SB W.heap.size NM q B (.slice ad x.length cp) w7.drew := CBox.kp hs7 (Kp.drew w7) (by simp)
        have y0 := hs7d.cell (i := 0) (v := .string NM) rfl
        have y1 := hs7d.cell (i := 1) (v := .int .i64 q) rfl
        have y2 := hs7d.cell (i := 2) (v := .bool B) rfl
        have y3 := hs7d.cell (i := 3) (v := .slice ad x.length cp) rfl
        obtain ⟨_, _, u2, _⟩ := (hp7.kp (Kp.drew w7) (by simp)).cells
        have k8 : Kp [] w7 (w7.alloc (.cells #[.string NM, .int .i64 q, .bool B, .slice ad x.length cp] 54)).drew := (Kp.alloc w7 _).trans (Kp.drew _) (by simp)
        obtain ⟨_, _, v2, _⟩ := (hp7.kp k8 (by simp)).cells
        have own8 := row_kp hG7.row k8 (by simp)
        have HST : Hid (∀ g8 cap8 w8, w8.ownsRow (gr + 1) 54 4 (.slice (some ⟨g8, 0, none⟩) (rs.length + 1) cap8) (rs.length + 1) (rs.flatMap srE ++ [.string NM, .int .i64 q, .bool B, .slice ad x.length cp]) → (w7.alloc (.cells #[.string NM, .int .i64 q, .bool B, .slice ad x.length cp] 54)).drew.grownBy w8 (Value.slice sva rs.length svc).ownBlock → (w8.cell? ⟨gr, 2, none⟩ = some (.slice sva rs.length svc) ∧ (∀ i, w8.frozen? ⟨gr, i, none⟩ = false)) ∧ StT gr tk l n (.slice sva rs.length svc) wi rs W R (.returned (.bool true)) (w8.setCell ⟨gr, 2, none⟩ (.slice (some ⟨g8, 0, none⟩) (rs.length + 1) cap8))) := hide (fun g8 cap8 w8 h8 hg8 => by
          have hp8 := (hp7.kp k8 (by simp)).kp (Kp.of hg8) (fun z hz => by have := (World.ownsRow.lt hG7.row z (by simpa using hz)).1; omega)
          obtain ⟨_, _, a2, _, _, _, az⟩ := hp8.cells
          exact ⟨⟨a2, az⟩, stage_added (s := ⟨NM, q, B, x⟩) (ad := ad) (c := cp) hp7 hG7 hC7 hB7 hk8 (unhide HL8) h8 hg8 R (unhide HR5)⟩)
        have hlc : (w7.alloc (.cells #[.string NM, .int .i64 q, .bool B, .slice ad x.length cp] 54)).drew.heap.size = w7.heap.size + 1 := by show (w7.alloc _).heap.size = _; simp
        have hgw : gr < w7.heap.size := hp7.lt
        clear HS2 hp7 hkp7 hK7 hs7 hs7d hG7 hC7 hB7 k8 HG HO6 HS6 HL8 HR5 HK6
        generalize x.length = XL at *
        go_wp2_with fail
        go_region_law
          (first
            | (refine step_append_lies rfl (.tmp 33) (.tmp 35) 22 rfl (gr + 1) 54 i0 (.agg #[.string ⟨#[]⟩, .int .i64 0, .bool false, .slice none 0 0]) 4 56 Tryz.underlying22 hi hz0 hz1 hz2 rfl (by decide) (.slice sva rs.length svc) rs.length (rs.flatMap srE) rfl own8 ⟨w7.heap.size, 0, none⟩ 1 1 [.string NM, .int .i64 q, .bool B, .slice ad XL cp] rfl rfl (bytes4 w7 _ _ _ _ _) (by intro u hu; simp only [List.mem_cons, List.not_mem_nil, or_false] at hu; rcases hu with rfl | rfl | rfl | rfl <;> rfl) (by omega) (by unfold maxLen; omega) (by omega) (by rw [hlc]; omega) ?_; intro g8 cap8 w8 h8 hg8 hat8; obtain ⟨⟨a2, az⟩, hst⟩ := unhide HST g8 cap8 w8 h8 hg8; have HF := hide hst; clear h8 hg8 hat8 hst))
        all_goals
          clear HST
          go_wp2
          refine bodyPost_ret (results_tmp rfl _ _ _) rfl ?_
          exact unhide HF
      · rw [decide_eq_false h59, if_neg h59] at S2
        have HR6 : Hid (R = .bad (hdPl (l.drop (K + 1 + j))) 120) := hide (by rw [unhide HR5, if_neg h59, ← drop_cons hk7])
        have HS2 := hide S2
        clear S2 HR5 h59 hL7
        go_wp2_with fail
        refine (unhide HS2).mono ?_
        rintro e w7 ⟨rfl, hp7, hkp7⟩
        have HF := hide (StT.bad (n := n) (rs := rs) hp7 hk7 (all_kp (gr := gr) (gs := W.heap.size) (unhide HK6) hkp7 (by simp) (Nat.le_refl _)) (unhide HR6))
        clear HS2 hp7 hkp7 HK6 HR6
        go_wp2
        refine bodyPost_ret (results_tmp rfl _ _ _) rfl ?_
        exact unhide HF
    · have hRb : R = .bad A 110 := by
        rw [unhide HR4]
        unfold cdR
        rcases hbd with ⟨q, h1, h2⟩ | ⟨y, q, h1, h2, h3⟩
        · rw [h1, h2]
        · rw [h1, h3]
          dsimp only
          rw [if_pos h2]
      have HF : Hid (StT gr tk l n (.slice sva rs.length svc) wi rs W R (.returned (.bool false)) w6) := hide (by
        rw [hRb]
        exact ⟨rfl, K + 1 + 0, A, 110, hp6, by omega, Or.inl ⟨by omega, rfl, rfl⟩, unhide HK6⟩)
      clear hRb hbd hp6 hs6 ho6 hkp6 HK6 D1 HK5 HR4 HL4 HG
      go_wp2
      refine bodyPost_ret (results_tmp rfl _ _ _) rfl ?_
      exact unhide HF
  · rw [decide_eq_false hc, if_neg hc] at H58
    have HRb : Hid (R = .bad (hdPl (l.drop K)) 120) := hide (by
      rw [unhide HR3, drop_cons hk3]
      unfold clR
      exact if_neg hc)
    clear hc HR3 HL3
    go_enter Tryz.func78, Tryz.ntmps78
    go_wp2_with fail
    refine (unhide C1).mono ?_
    rintro e w1 ⟨rfl, hp1, hs1, hkp1⟩
    have HK1 := hide (all_kp (gr := gr) (gs := W.heap.size) ((unhide HKA).mono (by simp)) hkp1 (by simp) (Nat.le_refl _))
    have N1 := hide (unhide HN w1 hp1 hs1)
    clear C1 hp1 hs1 hkp1 HN HKA
    go_wp2_with fail
    refine (unhide N1).mono ?_
    rintro e w2 ⟨rfl, hp2, hs2, hkp2⟩
    have HK2 := hide (all_kp (gr := gr) (gs := W.heap.size) (unhide HK1) hkp2 (by simp) (Nat.le_refl _))
    have K1 := hide (unhide HSK w2 hp2)
    have HS2 := hide hs2
    clear N1 hp2 hs2 hkp2 HK1 HSK
    go_wp2_with fail
    refine (unhide K1).mono ?_
    rintro e w3 ⟨rfl, hp3, hkp3⟩
    have hs3 : SB W.heap.size NM q false (.slice none 0 0) w3 := CBox.kp (unhide HS2) hkp3 (by simp; omega)
    have z2 := hs3.cell (i := 2) (v := .bool false) rfl
    have zf := CBox.froz hs3
    have hp4 := hp3.kp (Kp.set w3 W.heap.size 2 (.bool B)) (by simpa using hlt)
    have HK4 := hide (all_kp (gr := gr) (gs := W.heap.size) (all_kp (gr := gr) (gs := W.heap.size) (unhide HK2) hkp3 (by simp) (Nat.le_refl _)) (Kp.set w3 W.heap.size 2 (.bool B)) (by simp) (Nat.le_refl _))
    have S1 := hide (unhide H58 _ hp4)
    have hl3 : W.heap.size < w3.heap.size := (Array.getElem?_eq_some_iff.1 hs3).1
    clear K1 hp3 hkp3 hs3 hp4 HK2 HS2 H58
    go_wp2_with fail
    refine (unhide S1).mono ?_
    rintro e w5 ⟨rfl, hp5, hkp5⟩
    have HF := hide (StT.bad (n := n) (rs := rs) hp5 hk3 (all_kp (gr := gr) (gs := W.heap.size) (unhide HK4) hkp5 (by simp) (Nat.le_refl _)) (unhide HRb))
    clear S1 hp5 hkp5 HK4 HRb z2 zf HG
    go_wp2
    refine bodyPost_ret (results_tmp rfl _ _ _) rfl ?_
    exact unhide HF
end Go.Proofs.YtjijhefmbmdbeaaGreatDoor
