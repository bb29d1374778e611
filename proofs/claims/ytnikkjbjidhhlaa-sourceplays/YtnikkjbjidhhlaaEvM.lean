/-
  CheckMatch and lastPlace: which matches may be, and their last place, as the plain functions have it.
-/
import Derived.Test.YtnikkjbjidhhlaaEvL
namespace Go.Proofs.Ytnikkjbjidhhlaa
open Go.RowKit

/-- Stages lie where the slice says. -/
def StagesAt (w : World) (ad : Option Addr) (ss : List (List Int)) : Prop :=
  ss ≠ [] → ∃ b off, ad = some ⟨b, off, none⟩ ∧ b < w.heap.size ∧ ∀ i (h : i < ss.length), ∃ a c, w.cell? ⟨b, off + i, none⟩ = some (.slice a ss[i].length c) ∧ IntsAt w a ss[i]
theorem StagesAt.below {w w' : World} {B : Nat} {ad : Option Addr} {ss : List (List Int)} (h : StagesAt w ad ss) (hb : Below B w w') (hB : w.heap.size ≤ B) : StagesAt w' ad ss := fun hl => by
  obtain ⟨b, off, e, hlt, hc⟩ := h hl
  refine ⟨b, off, e, Nat.lt_of_lt_of_le hlt hb.size, fun i hi => ?_⟩
  obtain ⟨a, c, h1, h2⟩ := hc i hi
  exact ⟨a, c, (hb.cell (p := ⟨b, off + i, none⟩) (Nat.lt_of_lt_of_le hlt hB)).trans h1, h2.below hb hB⟩
def lastI (p : List Int) : Int := p.getD (p.length - 1) 0
def stagesB : Int → Int → List (List Int) → Bool
  | _, _, [] => true
  | left, a, p :: r => if p.length < 1 ∨ left < (p.length : Int) ∨ riseB a p = false then false else stagesB (left - p.length) (lastI p) r
/-- May a match be? -/
def mayM (k : ByteArray) (ss : List (List Int)) : Bool := nameB k && decide (1 ≤ ss.length) && decide (ss.length ≤ 8) && stagesB 256 (-1) ss
def chkM (k : ByteArray) (ss : List (List Int)) : Int := if mayM k ss = true then 0 else 20
/-- A match that a Go program can hold. -/
def MtOk (k : ByteArray) (ss : List (List Int)) : Prop := k.size ≤ 9223372036854775807 ∧ ss.length ≤ 9223372036854775807 ∧ ∀ p ∈ ss, p.length ≤ 9223372036854775807
theorem lastI_get {p : List Int} (h : 0 < p.length) : lastI p = p[p.length - 1]'(by omega) := by
  unfold lastI; rw [List.getD_eq_getElem?_getD, List.getElem?_eq_getElem (by omega)]; rfl
set_option maxHeartbeats 2000000 in
theorem checkMatch_any (k : ByteArray) (ad : Option Addr) (cap : Nat) (ss : List (List Int)) (w : World) (hok : MtOk k ss) (hA : StagesAt w ad ss) :
    Calls Try.prog 10 #[.agg #[.string k, .slice ad ss.length cap]] w fun e w' => e = .returned (.int .i64 (chkM k ss)) ∧ w' = w.alloc (.cells #[.string k, .slice ad ss.length cap] 28) := by
  obtain ⟨hk, hs, hp⟩ := hok
  have hname := fun w => isName_any k w hk
  by_cases h1 : nameB k = true
  · simp only [h1] at hname
    have HN := hide hname
    clear hname
    by_cases h2 : 1 ≤ ss.length
    · by_cases h3 : ss.length ≤ 8
      · have hR : chkM k ss = if stagesB 256 (-1) ss = true then 0 else 20 := by unfold chkM mayM; simp [h1, h2, h3]
        rw [hR]
        clear hR
        generalize hR : stagesB 256 (-1) ss = R
        have HR := hide hR
        have hA' := hA.below ((Below.refl w.heap.size w).alloc (Nat.le_refl _) (.cells #[.string k, .slice ad ss.length cap] 28)) (Nat.le_refl _)
        have HA := hide hA'
        have HP := hide hp
        clear hR hA hA' hp h1 hk
        go_enter Try.func10, Try.ntmps10
        go_wp2_with fail
        refine (unhide HN _).mono ?_
        rintro e w1 ⟨rfl, rfl⟩
        go_wp2_with fail
        generalize hW : w.alloc (.cells #[.string k, .slice ad ss.length cap] 28) = W at *
        go_loop [3, 4, 26] (fun l a i => ∃ (j : Nat) (x y : Int), j ≤ ss.length ∧ i = .int .i64 (j : Int) ∧ l = .int .i64 x ∧ a = .int .i64 y ∧ 0 ≤ x ∧ x ≤ 256 ∧ Hid (stagesB x y (ss.drop j) = R)) (fun _ _ i => ss.length - (intOf i).toNat)
        case atStart => exact ⟨0, 256, -1, Nat.zero_le _, rfl, rfl, rfl, by omega, by omega, HR⟩
        case round =>
          obtain ⟨j, x, y, hj, rfl, rfl, rfl, hx0, hx1, HK⟩ := hrel
          by_cases hlt : j < ss.length
          · obtain ⟨b, off, rfl, _, hc⟩ := unhide HA (fun e => by rw [e] at hlt; simp at hlt)
            obtain ⟨pa, pc, hcell, hI⟩ := hc j hlt
            have hK := unhide HK
            rw [List.drop_eq_getElem_cons hlt, stagesB] at hK
            have hpl := unhide HP ss[j] (List.getElem_mem hlt)
            clear hc HA HR HK HP
            generalize ss[j] = p at *
            by_cases g1 : p.length < 1
            · rw [if_pos (Or.inl g1)] at hK
              subst hK
              clear hI
              generalize p.length = m at *
              go_wp2
              go_ret
              exact ⟨rfl, rfl⟩
            · by_cases g2 : x < (p.length : Int)
              · rw [if_pos (Or.inr (Or.inl g2))] at hK
                subst hK
                clear hI
                generalize p.length = m at *
                go_wp2
                go_ret
                exact ⟨rfl, rfl⟩
              · have hr := rise_any y pa pc p W hpl hI
                by_cases g3 : riseB y p = false
                · rw [if_pos (Or.inr (Or.inr g3))] at hK
                  subst hK
                  rw [g3] at hr
                  have HRI := hide hr
                  clear hr hI g3
                  generalize p.length = m at *
                  go_wp2_with fail
                  refine (unhide HRI).mono ?_
                  rintro e w2 ⟨rfl, rfl⟩
                  go_wp2
                  go_ret
                  exact ⟨rfl, rfl⟩
                · rw [if_neg (by rintro (h | h | h); exact g1 h; exact g2 h; exact g3 h)] at hK
                  have g3' : riseB y p = true := by simpa using g3
                  rw [g3'] at hr
                  have HK := hide hK
                  have HRI := hide hr
                  have hlast := lastI_get (p := p) (by omega)
                  obtain ⟨pb, po, rfl, _, hpc⟩ := hI (fun e => by rw [e] at g1; simp at g1)
                  have hcl := hpc (p.length - 1) (by omega)
                  rw [← hlast] at hcl
                  generalize lastI p = z at *
                  clear hr g3 g3' hK hpc hlast
                  generalize p.length = m at *
                  obtain ⟨m, rfl⟩ : ∃ q, m = q + 1 := ⟨m - 1, by omega⟩
                  rw [Nat.add_sub_cancel] at hcl
                  have em : (((m + 1 : Nat)) : Int) - 1 = (m : Int) := by omega
                  go_wp2_with fail
                  refine (unhide HRI).mono ?_
                  rintro e w2 ⟨rfl, rfl⟩
                  go_wp2
                  go_round
                  case rel => exact ⟨j + 1, _, z, by omega, by go_num, rfl, rfl, by omega, by omega, HK⟩
                  case measure => simp [intOf]; omega
          · have hK := unhide HK
            rw [List.drop_of_length_le (by omega), stagesB] at hK
            subst hK
            clear HK HR
            go_wp2
            go_ret
            exact ⟨rfl, rfl⟩
      · have hR : chkM k ss = 20 := by unfold chkM mayM; simp [h3]
        rw [hR]
        clear hR hA hp h1 hk
        generalize ss.length = n at *
        go_enter Try.func10, Try.ntmps10
        go_wp2_with fail
        refine (unhide HN _).mono ?_
        rintro e w1 ⟨rfl, rfl⟩
        go_wp2
        go_ret
        exact ⟨rfl, rfl⟩
    · have hR : chkM k ss = 20 := by unfold chkM mayM; simp [h2]
      rw [hR]
      clear hR hA hp h1 hk
      generalize ss.length = n at *
      go_enter Try.func10, Try.ntmps10
      go_wp2_with fail
      refine (unhide HN _).mono ?_
      rintro e w1 ⟨rfl, rfl⟩
      go_wp2
      go_ret
      exact ⟨rfl, rfl⟩
  · have h1' : nameB k = false := by simpa using h1
    have hR : chkM k ss = 20 := by unfold chkM mayM; simp [h1']
    rw [hR]
    simp only [h1'] at hname
    have HN := hide hname
    clear hname hR hA hp h1 h1' hk
    generalize ss.length = n at *
    go_enter Try.func10, Try.ntmps10
    go_wp2_with fail
    refine (unhide HN _).mono ?_
    rintro e w1 ⟨rfl, rfl⟩
    go_wp2
    go_ret
    exact ⟨rfl, rfl⟩
theorem stagesB_ne : ∀ (x a : Int) (ss : List (List Int)), stagesB x a ss = true → ∀ p ∈ ss, 0 < p.length
  | _, _, [], _, p, hp => by cases hp
  | x, a, q :: r, h, p, hp => by
    rw [stagesB] at h
    split at h
    · cases h
    · rename_i hn
      rcases List.mem_cons.1 hp with rfl | hp
      · rcases Nat.eq_zero_or_pos p.length with e | e
        · exact absurd (Or.inl (by omega)) hn
        · exact e
      · exact stagesB_ne _ _ r h p hp
theorem mayM_ne {k : ByteArray} {ss : List (List Int)} (h : mayM k ss = true) : 0 < ss.length ∧ ss.length ≤ 8 ∧ ∀ p ∈ ss, 0 < p.length := by
  unfold mayM at h
  simp only [Bool.and_eq_true, decide_eq_true_eq] at h
  exact ⟨by omega, by omega, stagesB_ne _ _ _ h.2⟩
/-- The last place of the last stage. -/
def lastM (ss : List (List Int)) : Int := lastI (ss.getD (ss.length - 1) [])
set_option maxHeartbeats 1000000 in
theorem lastPlace_any (k : ByteArray) (ad : Option Addr) (cap : Nat) (ss : List (List Int)) (w : World) (hok : MtOk k ss) (hm : mayM k ss = true) (hA : StagesAt w ad ss) :
    Calls Try.prog 37 #[.agg #[.string k, .slice ad ss.length cap]] w fun e w' => e = .returned (.int .i64 (lastM ss)) ∧ w' = w.alloc (.cells #[.string k, .slice ad ss.length cap] 28) := by
  obtain ⟨h0, h8, hne⟩ := mayM_ne hm
  have hA' := hA.below ((Below.refl w.heap.size w).alloc (Nat.le_refl _) (.cells #[.string k, .slice ad ss.length cap] 28)) (Nat.le_refl _)
  obtain ⟨b, off, rfl, _, hc⟩ := hA' (fun e => by rw [e] at h0; simp at h0)
  obtain ⟨pa, pc, hcell, hI⟩ := hc (ss.length - 1) (by omega)
  have hp0 := hne _ (List.getElem_mem (show ss.length - 1 < ss.length by omega))
  have hpl := hok.2.2 _ (List.getElem_mem (show ss.length - 1 < ss.length by omega))
  have hL : lastM ss = lastI (ss[ss.length - 1]'(by omega)) := by unfold lastM; rw [List.getD_eq_getElem?_getD, List.getElem?_eq_getElem (by omega)]; rfl
  rw [hL]
  clear hL hc hne hA hA' hok hm
  generalize ss[ss.length - 1]'(by omega) = p at *
  have hlast := lastI_get (p := p) hp0
  obtain ⟨pb, po, rfl, _, hpc⟩ := hI (fun e => by rw [e] at hp0; simp at hp0)
  have hcl := hpc (p.length - 1) (by omega)
  rw [← hlast] at hcl
  clear hI hpc hlast
  generalize lastI p = z at *
  generalize p.length = m at *
  generalize ss.length = n at *
  obtain ⟨m, rfl⟩ : ∃ q, m = q + 1 := ⟨m - 1, by omega⟩
  obtain ⟨n, rfl⟩ : ∃ q, n = q + 1 := ⟨n - 1, by omega⟩
  rw [Nat.add_sub_cancel] at hcl hcell
  have em : (((m + 1 : Nat)) : Int) - 1 = (m : Int) := by omega
  have en : (((n + 1 : Nat)) : Int) - 1 = (n : Int) := by omega
  go_enter Try.func37, Try.ntmps37
  go_wp2
  go_ret
  exact ⟨rfl, rfl⟩
end Go.Proofs.Ytnikkjbjidhhlaa
