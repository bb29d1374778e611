/-
  The document's answer for which matches may be (MayMatch) is the plain function's.
  The document's CheckMatch, BytesMatch and EncodeMatch: they return what they should, and nothing that was there has changed.
-/
import Derived.Test.YtpfcoaimciojjaaG03
import Derived.Test.YtpfcoaimciojjaaG22
import Derived.Test.YtpfcoaimciojjaaG15
namespace Go.Proofs.Ytpfcoaimciojjaa
open Go.RowKit

theorem MBox.new (w : World) (k : ByteArray) (ad : Option Addr) (n cap : Nat) : MBox w.heap.size k ad n cap (w.alloc (.cells #[.string k, .slice ad n cap] 35)) := heap_alloc_new w _
set_option maxHeartbeats 4000000 in
set_option maxRecDepth 100000 in
theorem refMayMatch_any (k : ByteArray) (ad : Option Addr) (cap : Nat) (ss : List (List Int)) (w : World) (hok : MtOk k ss) (hA : StagesAt w ad ss) :
    Calls Try.prog 32 #[.agg #[.string k, .slice ad ss.length cap]] w fun e w' => e = .returned (.bool (mayM k ss)) ∧ w' = w.alloc (.cells #[.string k, .slice ad ss.length cap] 35) := by
  obtain ⟨hk, hs, hp⟩ := hok
  have hname := fun w => refNamed_any k w hk
  by_cases h1 : nameB k = true
  · simp only [h1] at hname
    have HN := hide hname
    clear hname
    by_cases h2 : 1 ≤ ss.length
    · by_cases h3 : ss.length ≤ 8
      · have hR : mayM k ss = stagesB 256 (-1) ss := by unfold mayM; simp [h1, h2, h3]
        rw [hR]
        clear hR
        generalize hR : stagesB 256 (-1) ss = R
        have HR := hide hR
        have hA' := hA.below ((Below.refl w.heap.size w).alloc (Nat.le_refl _) (.cells #[.string k, .slice ad ss.length cap] 35)) (Nat.le_refl _)
        have HA := hide hA'
        have HP := hide hp
        have fb := (MBox.new w k ad ss.length cap).cells
        clear hR hA hA' hp h1 hk
        go_enter Try.func32, Try.ntmps32
        go_wp2_with fail
        refine (unhide HN _).mono ?_
        rintro e w1 ⟨rfl, rfl⟩
        go_wp2_with fail
        generalize hW : w.alloc (.cells #[.string k, .slice ad ss.length cap] 35) = W at *
        go_loop [3, 4, 5] (fun l m i => ∃ (j M : Nat) (y : Int), j ≤ ss.length ∧ i = .int .i64 (j : Int) ∧ l = .int .i64 y ∧ m = .int .i64 (M : Int) ∧ M ≤ 256 ∧ Hid (stagesB (256 - (M : Int)) y (ss.drop j) = R)) (fun _ _ i => ss.length - (intOf i).toNat)
        case atStart => exact ⟨0, 0, -1, Nat.zero_le _, rfl, rfl, rfl, by omega, HR⟩
        case round =>
          obtain ⟨j, M, y, hj, rfl, rfl, rfl, hM, HK⟩ := hrel
          by_cases hlt : j < ss.length
          · obtain ⟨b, off, rfl, _, hc⟩ := unhide HA (fun e => by rw [e] at hlt; simp at hlt)
            obtain ⟨pa, pc, hcell, hI⟩ := hc j hlt
            have hK := unhide HK
            rw [List.drop_eq_getElem_cons hlt, stagesB] at hK
            have hpl := unhide HP ss[j] (List.getElem_mem hlt)
            have hli : (j : Int) < (ss.length : Int) := by omega
            clear hc HA HR HK HP
            generalize ss[j] = p at *
            by_cases g1 : p.length < 1
            · rw [if_pos (Or.inl g1)] at hK
              subst hK
              have e0 : p.length = 0 := by omega
              rw [e0] at hcell
              clear hI g1 e0
              go_wp2
              go_ret
              exact ⟨rfl, rfl⟩
            · have e0 : ((p.length : Int) == 0) = false := beq_eq_false_iff_ne.2 (by omega)
              obtain ⟨pb, po, rfl, _, hpc⟩ := hI (fun e => by rw [e] at g1; simp at g1)
              have HK := hide hK
              have HPC := hide hpc
              clear hK hI hpc
              go_wp2
              go_loop [3, 4, 6] (fun l m i => ∃ (q T : Nat) (z : Int), q ≤ p.length ∧ i = .int .i64 (q : Int) ∧ l = .int .i64 z ∧ m = .int .i64 (T : Int) ∧ T ≤ 256 ∧ Hid (T = M + q) ∧ Hid (riseB z (p.drop q) = riseB y p) ∧ Hid (q = p.length → z = lastI p)) (fun _ _ i => p.length - (intOf i).toNat)
              case atStart => exact ⟨0, M, y, Nat.zero_le _, rfl, rfl, rfl, hM, hide rfl, hide rfl, hide (fun e => by omega)⟩
              case round =>
                obtain ⟨q, T, z, hq, rfl, rfl, rfl, hMq, HT, HZ, HL⟩ := hrel
                by_cases hql : q < p.length
                · have x1 := unhide HPC q hql
                  have hz := unhide HZ
                  rw [List.drop_eq_getElem_cons hql, riseB] at hz
                  have hlast : q + 1 = p.length → p[q] = lastI p := fun e => by rw [lastI_get (p := p) (by omega)]; congr 1; omega
                  have HLA := hide hlast
                  have hqi : (q : Int) < (p.length : Int) := by omega
                  clear HZ hlast HL
                  generalize p[q] = x at *
                  by_cases i1 : x ≤ z
                  · rw [if_pos (Or.inl i1)] at hz
                    have hK := unhide HK
                    rw [if_pos (Or.inr (Or.inr hz.symm))] at hK
                    subst hK
                    clear hz HK HLA HPC
                    go_wp2
                    go_ret
                    exact ⟨rfl, rfl⟩
                  · by_cases i2 : 1073741824 < x
                    · rw [if_pos (Or.inr i2)] at hz
                      have hK := unhide HK
                      rw [if_pos (Or.inr (Or.inr hz.symm))] at hK
                      subst hK
                      clear hz HK HLA HPC
                      go_wp2
                      go_ret
                      exact ⟨rfl, rfl⟩
                    · rw [if_neg (by rintro (h | h) <;> omega)] at hz
                      by_cases i3 : 256 < T + 1
                      · have hK := unhide HK
                        rw [if_pos (Or.inr (Or.inl (by have := unhide HT; omega)))] at hK
                        subst hK
                        clear hz HK HLA HPC
                        go_wp2
                        go_ret
                        exact ⟨rfl, rfl⟩
                      · have HZ := hide hz
                        clear hz
                        go_wp2
                        go_round
                        case rel => exact ⟨q + 1, T + 1, x, by omega, by go_num, rfl, by go_num, by omega, hide (by have := unhide HT; omega), HZ, HLA⟩
                        case measure => simp [intOf]; omega
                · obtain rfl : q = p.length := by omega
                  have hz := unhide HZ
                  rw [List.drop_length, riseB] at hz
                  have hK := unhide HK
                  have hT := unhide HT
                  rw [if_neg (by rintro (h | h | h); exact g1 h; omega; rw [← hz] at h; cases h)] at hK
                  rw [← unhide HL rfl] at hK
                  have HK2 : Hid (stagesB (256 - (T : Int)) z (ss.drop (j + 1)) = R) := hide (by rw [← hK]; congr 1; omega)
                  clear hz hK HK HZ HL HPC hT HT
                  go_wp2
                  go_round
                  case rel => exact ⟨j + 1, T, z, by omega, by go_num, rfl, rfl, hMq, HK2⟩
                  case measure => simp [intOf]; omega
          · have hK := unhide HK
            rw [List.drop_of_length_le (by omega), stagesB] at hK
            subst hK
            clear HK HR
            go_wp2
            go_ret
            exact ⟨rfl, rfl⟩
      · have hR : mayM k ss = false := by unfold mayM; simp [h3]
        rw [hR]
        clear hR hA hp h1 hk
        generalize ss.length = n at *
        go_enter Try.func32, Try.ntmps32
        go_wp2_with fail
        refine (unhide HN _).mono ?_
        rintro e w1 ⟨rfl, rfl⟩
        go_wp2
        go_ret
        exact ⟨rfl, rfl⟩
    · have hR : mayM k ss = false := by unfold mayM; simp [h2]
      rw [hR]
      clear hR hA hp h1 hk
      generalize ss.length = n at *
      go_enter Try.func32, Try.ntmps32
      go_wp2_with fail
      refine (unhide HN _).mono ?_
      rintro e w1 ⟨rfl, rfl⟩
      go_wp2
      go_ret
      exact ⟨rfl, rfl⟩
  · have h1' : nameB k = false := by simpa using h1
    have hR : mayM k ss = false := by unfold mayM; simp [h1']
    rw [hR]
    simp only [h1'] at hname
    have HN := hide hname
    clear hname hR hA hp h1 h1' hk
    generalize ss.length = n at *
    go_enter Try.func32, Try.ntmps32
    go_wp2_with fail
    refine (unhide HN _).mono ?_
    rintro e w1 ⟨rfl, rfl⟩
    go_wp2
    go_ret
    exact ⟨rfl, rfl⟩
end Go.Proofs.Ytpfcoaimciojjaa
namespace Go.Proofs.Ytpfcoaimciojjaa
open Go.RowKit

set_option maxHeartbeats 1000000 in
theorem refCheckMatch_any (k : ByteArray) (ad : Option Addr) (cap : Nat) (ss : List (List Int)) (w : World) (hok : MtOk k ss) (hA : StagesAt w ad ss) :
    Calls Try.prog 19 #[.agg #[.string k, .slice ad ss.length cap]] w fun r w' => r = .returned (.int .i64 (chkM k ss)) ∧ Below w.heap.size w w' := by
  have s0 : MS w k ad ss.length cap (w.alloc (.cells #[.string k, .slice ad ss.length cap] 35)) := ⟨(Below.refl _ _).alloc (Nat.le_refl _) _, heap_alloc_new w _⟩
  have ck := fun W (hW : Below w.heap.size w W) => refMayMatch_any k ad cap ss W hok (hA.below hW (Nat.le_refl _))
  by_cases hm : mayM k ss = true
  · have hc : chkM k ss = 0 := if_pos hm
    rw [hm] at ck
    rw [hc]
    have CK := hide ck
    clear ck hc hm hA hok
    generalize ss.length = n at *
    go_enter Try.func19, Try.ntmps19
    go_wp2_with fail
    generalize w.alloc (.cells #[.string k, .slice ad n cap] 35) = W0 at *
    refine (unhide CK W0 s0.bel).mono ?_
    rintro r w1 ⟨rfl, rfl⟩
    go_wp2
    go_ret
    exact ⟨rfl, (s0.alloc _).bel⟩
  · have hc : chkM k ss = 20 := if_neg hm
    have hm' : mayM k ss = false := by simpa using hm
    rw [hm'] at ck
    rw [hc]
    have CK := hide ck
    clear ck hc hm hm' hA hok
    generalize ss.length = n at *
    go_enter Try.func19, Try.ntmps19
    go_wp2_with fail
    generalize w.alloc (.cells #[.string k, .slice ad n cap] 35) = W0 at *
    refine (unhide CK W0 s0.bel).mono ?_
    rintro r w1 ⟨rfl, rfl⟩
    go_wp2
    go_ret
    exact ⟨rfl, (s0.alloc _).bel⟩
set_option maxHeartbeats 8000000 in
set_option maxRecDepth 100000 in
theorem refBytesMatch_any (k : ByteArray) (ad : Option Addr) (cap : Nat) (ss : List (List Int)) (w : World) (hok : MtOk k ss) (hm : mayM k ss = true) (hA : StagesAt w ad ss) :
    Calls Try.prog 33 #[.agg #[.string k, .slice ad ss.length cap]] w fun r w' => r = .returned (.string (mtS k ss)) ∧ Below w.heap.size w w' := by
  have s0 : MS w k ad ss.length cap (w.alloc (.cells #[.string k, .slice ad ss.length cap] 35)) := ⟨(Below.refl _ _).alloc (Nat.le_refl _) _, heap_alloc_new w _⟩
  have s1 := s0.alloc (.cells #[.bool true, .int .i64 0, .string k, .bool false, .int .i64 (ss.length : Int), .string ⟨#[]⟩] 47)
  have ow := OwnsI.builtM w.heap.size (w.alloc (.cells #[.string k, .slice ad ss.length cap] 35)) k (ss.length : Int) s0.bel.size
  have hsz : (w.alloc (.cells #[.string k, .slice ad ss.length cap] 35)).heap.size = w.heap.size + 1 := by simp
  rw [hsz] at ow
  have by_ := fun a c W hI => refBytes_any a c (mtL k ss) W (by have := (mtL_len hm).1; omega) hI (fun y hy => (mtL_ok hm y hy).1) (fun y hy => by
    rcases mtL_mem hm y hy with rfl | ⟨n, rfl, _, _⟩
    · have := (mayM_parts hm).1; show k.size ≤ _; omega
    · show (⟨#[]⟩ : ByteArray).size ≤ _; decide)
  have hfull : ∀ q, q ≤ (mtL k ss).length → (q = (mtL k ss).length ∨ 262144 < (listB ((mtL k ss).take q)).length) → (⟨(listB ((mtL k ss).take q)).toArray⟩ : ByteArray) = mtS k ss := fun q hq h => by
    have e1 : mtS k ss = ⟨(listB (mtL k ss)).toArray⟩ := if_pos hm
    rw [e1]
    rcases h with h | h
    · rw [h, List.take_length]
    · have h1 := listB_take_le (mtL k ss) q
      have h2 := listB_le (mtL k ss) (fun y hy => (mtL_ok hm y hy).2.2)
      have h3 := (mtL_len hm).1
      omega
  have FU := hide hfull
  have BY := hide by_
  have LEN := hide (mtL_len hm)
  have HPL := hide hok.2.2
  have HA := hide hA
  have h8 : ss.length ≤ 9223372036854775807 := hok.2.1
  have S1 := hide s1
  have OW := hide ow
  have f0 := s0.full.2
  clear s0 s1 ow hsz by_ hfull hm hA hok
  go_enter Try.func33, Try.ntmps33
  go_wp2_with fail
  have s4 := unhide S1
  have ow := unhide OW
  clear S1 OW f0
  generalize (w.alloc (.cells #[.string k, .slice ad ss.length cap] 35)).alloc (.cells #[.bool true, .int .i64 0, .string k, .bool false, .int .i64 (ss.length : Int), .string ⟨#[]⟩] 47) = W4 at *
  go_loopw [3, 4] (fun v i wr => ∃ j : Nat, j ≤ ss.length ∧ i = .int .i64 (j : Int) ∧ MS w k ad ss.length cap wr ∧ OwnsI w.heap.size wr v ([tx k, nu (ss.length : Int)] ++ (ss.take j).flatMap stL)) (fun _ i _ => ss.length - (intOf i).toNat)
  case atStart => exact ⟨0, Nat.zero_le _, rfl, s4, by simpa using ow⟩
  case round =>
    clear s4 ow
    obtain ⟨j, hj, rfl, s4, ow⟩ := hrel
    have f4 := s4.full.2
    by_cases hlt : j < ss.length
    · obtain ⟨b, off, rfl, hbl, hc⟩ := (unhide HA) (fun e => by rw [e] at hlt; simp at hlt)
      obtain ⟨pa, pc, hcell, hI⟩ := hc j hlt
      have hst : ∀ W, Below w.heap.size w W → W.cell? ⟨b, off + j, none⟩ = some (.slice pa ss[j].length pc) ∧ IntsAt W pa ss[j] := fun W hW =>
        ⟨(hW.cell (p := ⟨b, off + j, none⟩) hbl).trans hcell, hI.below hW (Nat.le_refl _)⟩
      have hpl := unhide HPL ss[j] (List.getElem_mem hlt)
      have hfl := flat_take hlt
      have hle := flat_le ss (j + 1)
      have hle0 := flat_le ss j
      have hL := (unhide LEN).2
      rw [hfl, List.length_append] at hle
      have c4 := (hst _ s4.bel).1
      have HST := hide hst
      have HFL := hide hfl
      clear hc hst hfl HPL hcell hI hbl HA
      generalize ss[j] = p at *
      generalize hB : (ss.take j).flatMap stL = base at *
      clear hB
      have hpn : (stL p).length = p.length + 1 := by simp [stL]
      have hji : (j : Int) < (ss.length : Int) := by omega
      have hz4 := s4.bel.size
      have cc := cell3_new wr false (p.length : Int) ⟨#[]⟩ 47
      have CC := hide cc
      clear cc
      go_wp2_with (at_builtin; refine wpList_item rfl _ _ rfl w.heap.size _ _ rfl (ow.alloc _) (nu (p.length : Int)) wr.heap.size rfl (unhide CC).1 (unhide CC).2.1 (unhide CC).2.2 (by simp; omega) (by simp; omega) ?_)
      intro v6 w6 ow6 hf6
      have s6 := (s4.alloc _).fr hf6
      clear s4 ow hf6 CC f4 c4
      go_wp2_with fail
      go_loopw [3, 5] (fun v i wr => ∃ q : Nat, q ≤ p.length ∧ i = .int .i64 (q : Int) ∧ MS w k (some ⟨b, off, none⟩) ss.length cap wr ∧ OwnsI w.heap.size wr v ([tx k, nu (ss.length : Int)] ++ base ++ [nu (p.length : Int)] ++ (p.take q).map nu)) (fun _ i _ => p.length - (intOf i).toNat)
      case atStart => exact ⟨0, Nat.zero_le _, rfl, s6, by simpa using ow6⟩
      case round =>
        clear s6 ow6
        obtain ⟨q, hq, rfl, s6, ow6⟩ := hrel
        have f6 := s6.full.2
        obtain ⟨c6, hI6⟩ := unhide HST _ s6.bel
        by_cases hql : q < p.length
        · obtain ⟨pb, po, rfl, _, hpc⟩ := hI6 (fun e => by rw [e] at hql; simp at hql)
          have x1 := hpc q hql
          have htk : (p.take (q + 1)).map nu = (p.take q).map nu ++ [nu p[q]] := by rw [List.take_succ_eq_append_getElem hql, List.map_append]; rfl
          have HTK := hide htk
          have hqi : (q : Int) < (p.length : Int) := by omega
          have hql2 : ((p.take q).map nu).length ≤ p.length := by rw [List.length_map, List.length_take]; omega
          clear hpc htk HST hI6
          generalize p[q] = y at *
          have hz6 := s6.bel.size
          have cc := cell3_new wr false y ⟨#[]⟩ 47
          have CC := hide cc
          clear cc
          go_wp2_with (at_builtin; refine wpList_item rfl _ _ rfl w.heap.size _ _ rfl (ow6.alloc _) (nu y) wr.heap.size rfl (unhide CC).1 (unhide CC).2.1 (unhide CC).2.2 (by simp only [List.length_append, List.length_cons, List.length_nil]; omega) (by simp; omega) ?_)
          intro v8 w8 ow8 hf8
          have s8 := (s6.alloc _).fr hf8
          have ow9 : OwnsI w.heap.size w8 v8 ([tx k, nu (ss.length : Int)] ++ base ++ [nu (p.length : Int)] ++ (p.take (q + 1)).map nu) := by
            rw [unhide HTK]
            simpa using ow8
          clear s6 ow6 hf8 CC ow8 f6 c6 x1
          go_wp2
          go_roundw
          case rel => exact ⟨q + 1, by omega, by go_num, s8, ow9⟩
          case measure => simp [intOf]; omega
        · obtain rfl : q = p.length := by omega
          have conv : [tx k, nu (ss.length : Int)] ++ base ++ [nu (p.length : Int)] ++ (p.take p.length).map nu = [tx k, nu (ss.length : Int)] ++ (ss.take (j + 1)).flatMap stL := by
            rw [unhide HFL, List.take_length]
            simp [stL]
          rw [conv] at ow6
          have ow7 := ow6
          clear ow6 conv hI6
          go_wp2
          go_roundw
          case rel => exact ⟨j + 1, by omega, by go_num, s6, ow7⟩
          case measure => simp [intOf]; omega
    · obtain rfl : j = ss.length := by omega
      rw [List.take_length] at ow
      obtain ⟨a6, c6, rfl, hi6⟩ := OwnsI.items (l := mtL k ss) ow
      have en := unhide BY a6 c6 wr hi6
      have EN := hide en
      clear en ow hi6 BY
      generalize (mtL k ss).length = ml at *
      go_wp2_with fail
      refine (unhide EN).mono ?_
      rintro r w7 ⟨q, hq, rfl, hor, hb7⟩
      have hb8 := s4.bel.trans (hb7.mono s4.bel.size)
      have eZ := unhide FU q hq hor
      rw [eZ]
      clear s4 hb7 EN hor eZ f4
      go_wp2
      go_ret
      exact ⟨rfl, hb8⟩
set_option maxHeartbeats 1000000 in
set_option maxRecDepth 100000 in
theorem refEncodeMatch_any (k : ByteArray) (ad : Option Addr) (cap : Nat) (ss : List (List Int)) (w : World) (hok : MtOk k ss) (hA : StagesAt w ad ss) :
    Calls Try.prog 15 #[.agg #[.string k, .slice ad ss.length cap]] w fun r w' => r = .returned (.tuple #[.string (mtS k ss), .int .i64 (chkM k ss)]) ∧ Below w.heap.size w w' := by
  have s0 : MS w k ad ss.length cap (w.alloc (.cells #[.string k, .slice ad ss.length cap] 35)) := ⟨(Below.refl _ _).alloc (Nat.le_refl _) _, heap_alloc_new w _⟩
  have ck := fun W (hW : Below w.heap.size w W) => refMayMatch_any k ad cap ss W hok (hA.below hW (Nat.le_refl _))
  by_cases hm : mayM k ss = true
  · have hc : chkM k ss = 0 := if_pos hm
    have by_ := fun W (hW : Below w.heap.size w W) => refBytesMatch_any k ad cap ss W hok hm (hA.below hW (Nat.le_refl _))
    rw [hm] at ck
    rw [hc]
    have CK := hide ck
    have BY := hide by_
    clear ck hc hm hA hok by_
    generalize mtS k ss = Z at *
    generalize ss.length = n at *
    go_enter Try.func15, Try.ntmps15
    go_wp2_with fail
    generalize w.alloc (.cells #[.string k, .slice ad n cap] 35) = W0 at *
    refine (unhide CK W0 s0.bel).mono ?_
    rintro r w1 ⟨rfl, rfl⟩
    have s1 := s0.alloc (.cells #[.string k, .slice ad n cap] 35)
    generalize W0.alloc (.cells #[.string k, .slice ad n cap] 35) = W1 at *
    clear s0 CK
    have f1 := s1.full.2
    go_wp2_with fail
    refine (unhide BY W1 s1.bel).mono ?_
    rintro r w2 ⟨rfl, hb2⟩
    have hb3 := s1.bel.trans (hb2.mono s1.bel.size)
    clear s1 f1 hb2 BY
    go_wp2
    go_ret2
    exact ⟨rfl, hb3⟩
  · have hc : chkM k ss = 20 := if_neg hm
    have hsn : mtS k ss = ⟨#[]⟩ := if_neg hm
    have hm' : mayM k ss = false := by simpa using hm
    rw [hm'] at ck
    rw [hc, hsn]
    have CK := hide ck
    clear ck hc hsn hm hm' hA hok
    generalize ss.length = n at *
    go_enter Try.func15, Try.ntmps15
    go_wp2_with fail
    generalize w.alloc (.cells #[.string k, .slice ad n cap] 35) = W0 at *
    refine (unhide CK W0 s0.bel).mono ?_
    rintro r w1 ⟨rfl, rfl⟩
    go_wp2
    go_ret2
    exact ⟨rfl, (s0.alloc _).bel⟩
end Go.Proofs.Ytpfcoaimciojjaa
