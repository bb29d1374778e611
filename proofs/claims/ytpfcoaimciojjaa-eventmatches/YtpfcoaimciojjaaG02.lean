/-
  Names and places: isNameByte, isName, rise return what the plain functions say, and leave the world as it was.
  CheckMatch and lastPlace: which matches may be, and their last place, as the plain functions have it.
-/
import Derived.Test.YtpfcoaimciojjaaChecked
import Derived.Test.YtpfcoaimciojjaaG01
import Derived.WalkLawsBesides
import Derived.Deep.QuietTactic
import Derived.BigQuiet
namespace Go.Proofs.Ytpfcoaimciojjaa
open Go.RowKit

/-- Numbers lie where the slice says. -/
def IntsAt (w : World) (ad : Option Addr) (l : List Int) : Prop :=
  l ≠ [] → ∃ b off, ad = some ⟨b, off, none⟩ ∧ b < w.heap.size ∧ ∀ i (h : i < l.length), w.cell? ⟨b, off + i, none⟩ = some (.int .i64 l[i])
theorem IntsAt.below {w w' : World} {B : Nat} {ad : Option Addr} {l : List Int} (h : IntsAt w ad l) (hb : Below B w w') (hB : w.heap.size ≤ B) : IntsAt w' ad l := fun hl => by
  obtain ⟨b, off, e, hlt, hc⟩ := h hl
  exact ⟨b, off, e, Nat.lt_of_lt_of_le hlt hb.size, fun i hi => (hb.cell (p := ⟨b, off + i, none⟩) (Nat.lt_of_lt_of_le hlt hB)).trans (hc i hi)⟩
def nb (c : UInt8) : Bool := (decide ((97 : Int) ≤ (c.toNat : Int)) && decide ((c.toNat : Int) ≤ 122)) || (decide ((48 : Int) ≤ (c.toNat : Int)) && decide ((c.toNat : Int) ≤ 57))
/-- Is a text a name? -/
def nameB (s : ByteArray) : Bool := decide (1 ≤ s.size) && decide (s.size ≤ 32) && s.data.toList.all nb
set_option maxHeartbeats 400000 in
theorem isNameByte_any (c : UInt8) (w : World) :
    Calls Try.prog 47 #[.int .u8 (c.toNat : Int)] w fun e w' => e = .returned (.bool (nb c)) ∧ w' = w := by
  unfold nb
  have hc := c.toNat_lt
  generalize c.toNat = n at *
  by_cases h1 : 97 ≤ n <;> by_cases h2 : n ≤ 122 <;> by_cases h3 : 48 ≤ n <;> by_cases h4 : n ≤ 57 <;> first | (exfalso; omega) | skip
  all_goals
    go_enter Try.func47, Try.ntmps47
    go_wp2
    go_ret
    refine ⟨ret_bool ?_, rfl⟩
    rw [Bool.eq_iff_iff]
    first | done | (simp; omega) | simp
set_option maxHeartbeats 1000000 in
theorem isName_any (s : ByteArray) (w : World) (hs : s.size ≤ 9223372036854775807) :
    Calls Try.prog 29 #[.string s] w fun e w' => e = .returned (.bool (nameB s)) ∧ w' = w := by
  by_cases h1 : 1 ≤ s.size
  · by_cases h2 : s.size ≤ 32
    · have hn : nameB s = s.data.toList.all nb := by unfold nameB; simp [h1, h2]
      rw [hn]
      clear hn
      generalize hR : s.data.toList.all nb = R
      have HR := hide hR
      clear hR
      have hlen : s.data.toList.length = s.size := Array.length_toList
      go_enter Try.func29, Try.ntmps29
      go_wp2
      go_loop [14, 3] (fun i _ => ∃ k : Nat, k ≤ s.size ∧ i = .int .i64 (k : Int) ∧ Hid (∀ c ∈ s.data.toList.take k, nb c = true)) (fun i _ => s.size - (intOf i).toNat)
      case atStart => exact ⟨0, Nat.zero_le _, rfl, hide (by simp)⟩
      case round =>
        obtain ⟨k, hk, rfl, HK⟩ := hrel
        by_cases hlt : k < s.size
        · have hget : s[k] ∈ s.data.toList := by
            have : s[k] = s.data.toList[k]'(by omega) := rfl
            rw [this]; exact List.getElem_mem _
          have hsn : s.data.toList.take (k + 1) = s.data.toList.take k ++ [s[k]] := by
            rw [List.take_succ_eq_append_getElem (by omega)]; rfl
          have HG := hide hget
          have HS := hide hsn
          clear hget hsn hlen
          have hby := fun w => isNameByte_any s[k] w
          by_cases hb : nb s[k] = true
          · simp only [hb] at hby
            have HB := hide hby
            clear hby
            go_wp2_with fail
            refine (unhide HB _).mono ?_
            rintro e w1 ⟨rfl, rfl⟩
            go_wp2
            go_round
            case rel => exact ⟨k + 1, by omega, by go_num, hide (fun c hc => by
              rw [unhide HS, List.mem_append] at hc
              rcases hc with hc | hc
              · exact unhide HK c hc
              · rw [List.mem_singleton] at hc; rw [hc]; exact hb)⟩
            case measure => simp [intOf]; omega
          · have hb' : nb s[k] = false := by simpa using hb
            have hall : s.data.toList.all nb = false := List.all_eq_false.2 ⟨_, unhide HG, by rw [hb']; simp⟩
            have HALL := hide hall
            simp only [hb'] at hby
            have HB := hide hby
            clear hby hb hb' hall
            go_wp2_with fail
            refine (unhide HB _).mono ?_
            rintro e w1 ⟨rfl, rfl⟩
            go_wp2
            go_ret
            exact ⟨by rw [← unhide HR, unhide HALL]; rfl, rfl⟩
        · have hall : s.data.toList.all nb = true := List.all_eq_true.2 (fun c hc => unhide HK c (by rw [List.take_of_length_le (by omega)]; exact hc))
          have HALL := hide hall
          clear hall
          go_wp2
          go_ret
          exact ⟨by rw [← unhide HR, unhide HALL]; rfl, rfl⟩
    · have hn : nameB s = false := by unfold nameB; simp [h2]
      rw [hn]
      go_enter Try.func29, Try.ntmps29
      go_wp2
      all_goals go_ret
      all_goals exact ⟨rfl, rfl⟩
  · have hn : nameB s = false := by unfold nameB; simp [h1]
    rw [hn]
    go_enter Try.func29, Try.ntmps29
    go_wp2
    all_goals go_ret
    all_goals exact ⟨rfl, rfl⟩
/-- Do places rise from above a on, to 2^30 at most? -/
def riseB : Int → List Int → Bool
  | _, [] => true
  | a, p :: r => if p ≤ a ∨ 1073741824 < p then false else riseB p r
set_option maxHeartbeats 1000000 in
theorem rise_any (a : Int) (ad : Option Addr) (cap : Nat) (l : List Int) (w : World) (hl : l.length ≤ 9223372036854775807) (hA : IntsAt w ad l) :
    Calls Try.prog 36 #[.int .i64 a, .slice ad l.length cap] w fun e w' => e = .returned (.bool (riseB a l)) ∧ w' = w := by
  generalize hR : riseB a l = R
  have HR := hide hR
  have HA := hide hA
  clear hR hA
  go_enter Try.func36, Try.ntmps36
  go_wp2
  go_loop [0, 9, 6] (fun x i _ => ∃ (k : Nat) (y : Int), k ≤ l.length ∧ i = .int .i64 (k : Int) ∧ x = .int .i64 y ∧ Hid (riseB y (l.drop k) = R)) (fun _ i _ => l.length - (intOf i).toNat)
  case atStart => exact ⟨0, a, Nat.zero_le _, rfl, rfl, HR⟩
  case round =>
    obtain ⟨k, y, hk, rfl, rfl, HK⟩ := hrel
    by_cases hlt : k < l.length
    · obtain ⟨b, off, rfl, _, hc⟩ := unhide HA (fun e => by rw [e] at hlt; simp at hlt)
      have c := hc k hlt
      have hK := unhide HK
      rw [List.drop_eq_getElem_cons hlt, riseB] at hK
      clear hc HA HR HK
      generalize l[k] = p at *
      by_cases h1 : p ≤ y
      · rw [if_pos (Or.inl h1)] at hK
        subst hK
        go_wp2
        go_ret
        exact ⟨rfl, rfl⟩
      · by_cases h2 : 1073741824 < p
        · rw [if_pos (Or.inr h2)] at hK
          subst hK
          go_wp2
          go_ret
          exact ⟨rfl, rfl⟩
        · rw [if_neg (by rintro (h | h) <;> omega)] at hK
          have HK := hide hK
          clear hK
          go_wp2
          go_round
          case rel => exact ⟨k + 1, p, by omega, by go_num, rfl, HK⟩
          case measure => simp [intOf]; omega
    · have hK := unhide HK
      rw [List.drop_of_length_le (by omega), riseB] at hK
      subst hK
      clear HK HR
      go_wp2
      go_ret
      exact ⟨rfl, rfl⟩
end Go.Proofs.Ytpfcoaimciojjaa
namespace Go.Proofs.Ytpfcoaimciojjaa
open Go.RowKit

/-- Stages lie where the slice says. -/
def StagesAt (w : World) (ad : Option Addr) (ss : List (List Int)) : Prop :=
  ss ≠ [] → ∃ b off, ad = some ⟨b, off, none⟩ ∧ b < w.heap.size ∧ ∀ i (h : i < ss.length), ∃ a c, w.cell? ⟨b, off + i, none⟩ = some (.slice a ss[i].length c) ∧ IntsAt w a ss[i]
theorem StagesAt.below {w w' : World} {B : Nat} {ad : Option Addr} {ss : List (List Int)} (h : StagesAt w ad ss) (hb : Below B w w') (hB : w.heap.size ≤ B) : StagesAt w' ad ss := fun hl => by
  obtain ⟨b, off, e, hlt, hc⟩ := h hl
  refine ⟨b, off, e, Nat.lt_of_lt_of_le hlt hb.size, fun i hi => ?_⟩
  obtain ⟨a, c, h1, h2⟩ := hc i hi
  exact ⟨a, c, (hb.cell (p := ⟨b, off + i, none⟩) (Nat.lt_of_lt_of_le hlt hB)).trans h1, h2.below hb hB⟩
def lastI (p : List Int) : Int := p.getD (p.length - 1) 0
def stagesB : Int → Int → List (List Int) → Bool
  | _, _, [] => true
  | left, a, p :: r => if p.length < 1 ∨ left < (p.length : Int) ∨ riseB a p = false then false else stagesB (left - p.length) (lastI p) r
/-- May a match be? -/
def mayM (k : ByteArray) (ss : List (List Int)) : Bool := nameB k && decide (1 ≤ ss.length) && decide (ss.length ≤ 8) && stagesB 256 (-1) ss
def chkM (k : ByteArray) (ss : List (List Int)) : Int := if mayM k ss = true then 0 else 20
/-- A match that a Go program can hold. -/
def MtOk (k : ByteArray) (ss : List (List Int)) : Prop := k.size ≤ 9223372036854775807 ∧ ss.length ≤ 9223372036854775807 ∧ ∀ p ∈ ss, p.length ≤ 9223372036854775807
theorem lastI_get {p : List Int} (h : 0 < p.length) : lastI p = p[p.length - 1]'(by omega) := by
  unfold lastI; rw [List.getD_eq_getElem?_getD, List.getElem?_eq_getElem (by omega)]; rfl
set_option maxHeartbeats 2000000 in
theorem checkMatch_any (k : ByteArray) (ad : Option Addr) (cap : Nat) (ss : List (List Int)) (w : World) (hok : MtOk k ss) (hA : StagesAt w ad ss) :
    Calls Try.prog 18 #[.agg #[.string k, .slice ad ss.length cap]] w fun e w' => e = .returned (.int .i64 (chkM k ss)) ∧ w' = w.alloc (.cells #[.string k, .slice ad ss.length cap] 35) := by
  obtain ⟨hk, hs, hp⟩ := hok
  have hname := fun w => isName_any k w hk
  by_cases h1 : nameB k = true
  · simp only [h1] at hname
    have HN := hide hname
    clear hname
    by_cases h2 : 1 ≤ ss.length
    · by_cases h3 : ss.length ≤ 8
      · have hR : chkM k ss = if stagesB 256 (-1) ss = true then 0 else 20 := by unfold chkM mayM; simp [h1, h2, h3]
        rw [hR]
        clear hR
        generalize hR : stagesB 256 (-1) ss = R
        have HR := hide hR
        have hA' := hA.below ((Below.refl w.heap.size w).alloc (Nat.le_refl _) (.cells #[.string k, .slice ad ss.length cap] 35)) (Nat.le_refl _)
        have HA := hide hA'
        have HP := hide hp
        clear hR hA hA' hp h1 hk
        go_enter Try.func18, Try.ntmps18
        go_wp2_with fail
        refine (unhide HN _).mono ?_
        rintro e w1 ⟨rfl, rfl⟩
        go_wp2_with fail
        generalize hW : w.alloc (.cells #[.string k, .slice ad ss.length cap] 35) = W at *
        go_loop [3, 4, 26] (fun l a i => ∃ (j : Nat) (x y : Int), j ≤ ss.length ∧ i = .int .i64 (j : Int) ∧ l = .int .i64 x ∧ a = .int .i64 y ∧ 0 ≤ x ∧ x ≤ 256 ∧ Hid (stagesB x y (ss.drop j) = R)) (fun _ _ i => ss.length - (intOf i).toNat)
        case atStart => exact ⟨0, 256, -1, Nat.zero_le _, rfl, rfl, rfl, by omega, by omega, HR⟩
        case round =>
          obtain ⟨j, x, y, hj, rfl, rfl, rfl, hx0, hx1, HK⟩ := hrel
          by_cases hlt : j < ss.length
          · obtain ⟨b, off, rfl, _, hc⟩ := unhide HA (fun e => by rw [e] at hlt; simp at hlt)
            obtain ⟨pa, pc, hcell, hI⟩ := hc j hlt
            have hK := unhide HK
            rw [List.drop_eq_getElem_cons hlt, stagesB] at hK
            have hpl := unhide HP ss[j] (List.getElem_mem hlt)
            clear hc HA HR HK HP
            generalize ss[j] = p at *
            by_cases g1 : p.length < 1
            · rw [if_pos (Or.inl g1)] at hK
              subst hK
              clear hI
              generalize p.length = m at *
              go_wp2
              go_ret
              exact ⟨rfl, rfl⟩
            · by_cases g2 : x < (p.length : Int)
              · rw [if_pos (Or.inr (Or.inl g2))] at hK
                subst hK
                clear hI
                generalize p.length = m at *
                go_wp2
                go_ret
                exact ⟨rfl, rfl⟩
              · have hr := rise_any y pa pc p W hpl hI
                by_cases g3 : riseB y p = false
                · rw [if_pos (Or.inr (Or.inr g3))] at hK
                  subst hK
                  rw [g3] at hr
                  have HRI := hide hr
                  clear hr hI g3
                  generalize p.length = m at *
                  go_wp2_with fail
                  refine (unhide HRI).mono ?_
                  rintro e w2 ⟨rfl, rfl⟩
                  go_wp2
                  go_ret
                  exact ⟨rfl, rfl⟩
                · rw [if_neg (by rintro (h | h | h); exact g1 h; exact g2 h; exact g3 h)] at hK
                  have g3' : riseB y p = true := by simpa using g3
                  rw [g3'] at hr
                  have HK := hide hK
                  have HRI := hide hr
                  have hlast := lastI_get (p := p) (by omega)
                  obtain ⟨pb, po, rfl, _, hpc⟩ := hI (fun e => by rw [e] at g1; simp at g1)
                  have hcl := hpc (p.length - 1) (by omega)
                  rw [← hlast] at hcl
                  generalize lastI p = z at *
                  clear hr g3 g3' hK hpc hlast
                  generalize p.length = m at *
                  obtain ⟨m, rfl⟩ : ∃ q, m = q + 1 := ⟨m - 1, by omega⟩
                  rw [Nat.add_sub_cancel] at hcl
                  have em : (((m + 1 : Nat)) : Int) - 1 = (m : Int) := by omega
                  go_wp2_with fail
                  refine (unhide HRI).mono ?_
                  rintro e w2 ⟨rfl, rfl⟩
                  go_wp2
                  go_round
                  case rel => exact ⟨j + 1, _, z, by omega, by go_num, rfl, rfl, by omega, by omega, HK⟩
                  case measure => simp [intOf]; omega
          · have hK := unhide HK
            rw [List.drop_of_length_le (by omega), stagesB] at hK
            subst hK
            clear HK HR
            go_wp2
            go_ret
            exact ⟨rfl, rfl⟩
      · have hR : chkM k ss = 20 := by unfold chkM mayM; simp [h3]
        rw [hR]
        clear hR hA hp h1 hk
        generalize ss.length = n at *
        go_enter Try.func18, Try.ntmps18
        go_wp2_with fail
        refine (unhide HN _).mono ?_
        rintro e w1 ⟨rfl, rfl⟩
        go_wp2
        go_ret
        exact ⟨rfl, rfl⟩
    · have hR : chkM k ss = 20 := by unfold chkM mayM; simp [h2]
      rw [hR]
      clear hR hA hp h1 hk
      generalize ss.length = n at *
      go_enter Try.func18, Try.ntmps18
      go_wp2_with fail
      refine (unhide HN _).mono ?_
      rintro e w1 ⟨rfl, rfl⟩
      go_wp2
      go_ret
      exact ⟨rfl, rfl⟩
  · have h1' : nameB k = false := by simpa using h1
    have hR : chkM k ss = 20 := by unfold chkM mayM; simp [h1']
    rw [hR]
    simp only [h1'] at hname
    have HN := hide hname
    clear hname hR hA hp h1 h1' hk
    generalize ss.length = n at *
    go_enter Try.func18, Try.ntmps18
    go_wp2_with fail
    refine (unhide HN _).mono ?_
    rintro e w1 ⟨rfl, rfl⟩
    go_wp2
    go_ret
    exact ⟨rfl, rfl⟩
theorem stagesB_ne : ∀ (x a : Int) (ss : List (List Int)), stagesB x a ss = true → ∀ p ∈ ss, 0 < p.length
  | _, _, [], _, p, hp => by cases hp
  | x, a, q :: r, h, p, hp => by
    rw [stagesB] at h
    split at h
    · cases h
    · rename_i hn
      rcases List.mem_cons.1 hp with rfl | hp
      · rcases Nat.eq_zero_or_pos p.length with e | e
        · exact absurd (Or.inl (by omega)) hn
        · exact e
      · exact stagesB_ne _ _ r h p hp
theorem mayM_ne {k : ByteArray} {ss : List (List Int)} (h : mayM k ss = true) : 0 < ss.length ∧ ss.length ≤ 8 ∧ ∀ p ∈ ss, 0 < p.length := by
  unfold mayM at h
  simp only [Bool.and_eq_true, decide_eq_true_eq] at h
  exact ⟨by omega, by omega, stagesB_ne _ _ _ h.2⟩
/-- The last place of the last stage. -/
def lastM (ss : List (List Int)) : Int := lastI (ss.getD (ss.length - 1) [])
set_option maxHeartbeats 1000000 in
theorem lastPlace_any (k : ByteArray) (ad : Option Addr) (cap : Nat) (ss : List (List Int)) (w : World) (hok : MtOk k ss) (hm : mayM k ss = true) (hA : StagesAt w ad ss) :
    Calls Try.prog 50 #[.agg #[.string k, .slice ad ss.length cap]] w fun e w' => e = .returned (.int .i64 (lastM ss)) ∧ w' = w.alloc (.cells #[.string k, .slice ad ss.length cap] 35) := by
  obtain ⟨h0, h8, hne⟩ := mayM_ne hm
  have hA' := hA.below ((Below.refl w.heap.size w).alloc (Nat.le_refl _) (.cells #[.string k, .slice ad ss.length cap] 35)) (Nat.le_refl _)
  obtain ⟨b, off, rfl, _, hc⟩ := hA' (fun e => by rw [e] at h0; simp at h0)
  obtain ⟨pa, pc, hcell, hI⟩ := hc (ss.length - 1) (by omega)
  have hp0 := hne _ (List.getElem_mem (show ss.length - 1 < ss.length by omega))
  have hpl := hok.2.2 _ (List.getElem_mem (show ss.length - 1 < ss.length by omega))
  have hL : lastM ss = lastI (ss[ss.length - 1]'(by omega)) := by unfold lastM; rw [List.getD_eq_getElem?_getD, List.getElem?_eq_getElem (by omega)]; rfl
  rw [hL]
  clear hL hc hne hA hA' hok hm
  generalize ss[ss.length - 1]'(by omega) = p at *
  have hlast := lastI_get (p := p) hp0
  obtain ⟨pb, po, rfl, _, hpc⟩ := hI (fun e => by rw [e] at hp0; simp at hp0)
  have hcl := hpc (p.length - 1) (by omega)
  rw [← hlast] at hcl
  clear hI hpc hlast
  generalize lastI p = z at *
  generalize p.length = m at *
  generalize ss.length = n at *
  obtain ⟨m, rfl⟩ : ∃ q, m = q + 1 := ⟨m - 1, by omega⟩
  obtain ⟨n, rfl⟩ : ∃ q, n = q + 1 := ⟨n - 1, by omega⟩
  rw [Nat.add_sub_cancel] at hcl hcell
  have em : (((m + 1 : Nat)) : Int) - 1 = (m : Int) := by omega
  have en : (((n + 1 : Nat)) : Int) - 1 = (n : Int) := by omega
  go_enter Try.func50, Try.ntmps50
  go_wp2
  go_ret
  exact ⟨rfl, rfl⟩
end Go.Proofs.Ytpfcoaimciojjaa
