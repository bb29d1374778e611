/-
  The document's Join.
-/
import Derived.Test.YtglfjgnbfligoaaDoorRkH
import Derived.Test.YtglfjgnbfligoaaDoorTkK
import Derived.Deep.DeepCutAuto
namespace Go.Proofs.YtglfjgnbfligoaaDoor
open Go.RowKit

theorem Owns.keepB {B B' : Nat} {w w' : World} {v : Value} {l : List UInt8} (h : Owns B w v l) (hb : Below B' w w') (hB : w.heap.size ≤ B') : Owns B w' v l := by
  refine World.ownsRow.kept (row := none) h ⟨hb.os, hb.tape, hb.output, hb.size, fun k hk _ => hb.block k (by omega)⟩ ?_
  cases v.ownBlock
  · exact Or.inl rfl
  · exact Or.inr (by simp)
theorem cut_len {l : List Tk} {m : Nat} (h : l.length = m + 1) (he : isEnd l = true) : (cutL l).length = m := by unfold cutL; rw [if_pos he, List.length_dropLast]; omega
theorem cut_all {l : List Tk} (he : isEnd l = false) : cutL l = l := by unfold cutL; rw [he]; rfl
theorem end_zero {l : List Tk} (he : isEnd l = false) : endT l = ⟨0, ⟨#[]⟩, 0, 0⟩ := by unfold endT; rw [he]; rfl
theorem joR_bad {l : List Tk} (h : ¬ 4096 < (cutL l).length) (he : ¬ ((endT l).s.size = 0 ∧ (endT l).n = 0)) : joR l = ([], 100) := by
  unfold joR
  rw [if_neg h]
  split
  · rfl
  · rfl
theorem joR_go {l : List Tk} (h : ¬ 4096 < (cutL l).length) (he : (endT l).s.size = 0 ∧ (endT l).n = 0) : joR l = if ¬ (∀ t ∈ cutL l, wrOk t = true) then ([], 100) else if 262144 < (joinB (cutL l)).length then ([], 2) else (joinB (cutL l), 0) := by
  unfold joR
  rw [if_neg h]
  split
  · rfl
  · rfl
theorem joR_long {l : List Tk} (h : 4096 < (cutL l).length) : joR l = ([], 2) := by unfold joR; rw [if_pos h]
set_option maxHeartbeats 1000000 in
set_option maxRecDepth 100000 in
theorem rJoin_any (ad : Option Addr) (cap : Nat) (l : List Tk) (w : World) (hl : l.length ≤ 9223372036854775807) (hcap : l.length ≤ cap) (hA : TksAt w ad l) (hok : ∀ t ∈ l, t.ok) (hsz : ∀ t ∈ l, t.s.size ≤ 140737488351232) :
    Calls Tryd.prog 15 #[.slice ad l.length cap] w fun e w' => e = .returned (.tuple #[.string (txt (joR l).1), .int .i64 (joR l).2]) ∧ Below w.heap.size w w' := by
  have HA := hide hA
  have HOK := hide hok
  have HSZ := hide hsz
  clear hA hok hsz
  generalize hR : joR l = R
  have HR := hide hR
  clear hR
  go_enter Tryd.func15, Tryd.ntmps15
  go_upto_region 1 with fail
  go_cut [21] (fun c wx => c = .bool (isEnd l) ∧ wx = w)
  case first =>
    by_cases hnil : l = []
    · have gl : ¬ 0 < l.length := by rw [hnil]; simp
      have HE : Hid (isEnd l = false) := by rw [hnil]; exact hide rfl
      clear hnil
      go_wp2
      go_meet
      exact ⟨by rw [unhide HE], rfl⟩
    · obtain ⟨m, hm⟩ : ∃ m, l.length = m + 1 := ⟨l.length - 1, by have := List.length_pos_iff.2 hnil; omega⟩
      have gl : 0 < l.length := by omega
      have hm1 : (l.length : Int) - 1 = (m : Int) := by omega
      have hml : m < l.length := by omega
      obtain ⟨b, off, rfl, hbl, c0, _, _, _⟩ := (unhide HA).at m hml
      have HE := hide (isEnd_at l m hm)
      generalize l[m].kd = kd at *
      clear hnil hm
      go_wp2
      go_meet
      exact ⟨by rw [unhide HE], rfl⟩
  case rest =>
    obtain ⟨rfl, hw⟩ := hcut
    obtain rfl := hw.symm
    clear hw
    generalize heb : isEnd l = eb
    have HEB := hide heb
    clear heb
    go_upto_if 21 with fail
    go_cut [0] (fun v wx => v = .slice ad (cutL l).length cap ∧ Hid (Below w.heap.size w wx) ∧ Hid (4096 < (cutL l).length ∨ ((endT l).s.size = 0 ∧ (endT l).n = 0)))
    case first =>
      cases eb with
      | false =>
        have HC := hide (cut_all (unhide HEB))
        have HZ := hide (end_zero (unhide HEB))
        go_wp2
        go_meet
        exact ⟨by rw [unhide HC], hide (Below.refl _ _), hide (Or.inr (by rw [unhide HZ]; exact ⟨rfl, rfl⟩))⟩
      | true =>
        obtain ⟨m, hm⟩ : ∃ m, l.length = m + 1 := ⟨l.length - 1, by
          have : l ≠ [] := fun e => by have := unhide HEB; rw [e] at this; cases this
          have := List.length_pos_iff.2 this
          omega⟩
        have hm1 : (l.length : Int) - 1 = (m : Int) := by omega
        have hml : m < l.length := by omega
        have hmc : m ≤ cap := by omega
        have hm0 : m ≤ l.length := by omega
        obtain ⟨b, off, rfl, hbl, c0, c1, c2, c3⟩ := (unhide HA).at m hml
        have HL := hide (cut_len hm (unhide HEB))
        have HT := hide (endT_at l m hm (unhide HEB))
        have HBX : Hid (Below w.heap.size w (w.alloc (.cells l[m].c 35))) := hide ((Below.refl _ _).alloc (Nat.le_refl _) _)
        generalize l[m] = T at *
        obtain ⟨tk, ts, tn, tp⟩ := T
        unfold Tk.c at HBX
        dsimp only at *
        clear hm
        by_cases hlen : 4096 < m
        · go_wp2
          go_meet
          exact ⟨by rw [unhide HL], HBX, hide (Or.inl (by rw [unhide HL]; exact hlen))⟩
        · have hbad : ¬ (ts.size = 0 ∧ tn = 0) → R = ([], 100) := fun h => by rw [← unhide HR]; exact joR_bad (by rw [unhide HL]; exact hlen) (by rw [unhide HT]; exact h)
          have HBD := hide hbad
          clear hbad
          by_cases hts : ts.size = 0
          · obtain rfl := size_zero hts
            by_cases htn : tn = 0
            · subst htn
              have gn : ((0 : Int) != 0) = false := rfl
              go_wp2
              go_meet
              exact ⟨by rw [unhide HL], HBX, hide (Or.inr (by rw [unhide HT]; exact ⟨rfl, rfl⟩))⟩
            · have e := unhide HBD (fun h => htn h.2)
              subst e
              have gn : (tn != 0) = true := by simpa using htn
              clear hts htn
              go_wp2
              go_ret2
              exact ⟨rfl, unhide HBX⟩
          · have e := unhide HBD (fun h => hts h.1)
            subst e
            have ge : ts.toList.isEmpty = false := by
              rw [ByteArray.toList_eq, List.isEmpty_eq_false_iff]
              intro e
              have := size_list ts
              rw [e] at this
              simp at this
              omega
            clear hts
            go_wp2
            go_ret2
            exact ⟨rfl, unhide HBX⟩
    case rest =>
      obtain ⟨rfl, HBC, HEN⟩ := hcut
      have hlc : (cutL l).length ≤ 9223372036854775807 := by
        unfold cutL
        split
        · rw [List.length_dropLast]; omega
        · exact hl
      have HAC := hide ((unhide HA).cut)
      have HOKC : Hid (∀ t ∈ cutL l, t.ok ∧ t.s.size ≤ 140737488351232) := hide (fun t ht => ⟨unhide HOK t (cutL_mem ht), unhide HSZ t (cutL_mem ht)⟩)
      have HLO := hide (fun h => (joR_long (l := l) h))
      have HGO := hide (fun h he => (joR_go (l := l) h he))
      clear HOK HSZ HA HEB hl hcap
      generalize hae : cutL l = a at *
      clear hae
      have hbl0 := (unhide HBC).size
      by_cases hbig : 4096 < a.length
      · have e : R = ([], 2) := by rw [← unhide HR]; exact unhide HLO hbig
        subst e
        clear HLO HGO HR HEN HOKC HAC
        generalize a.length = n at *
        go_wp2
        go_ret2
        exact ⟨rfl, unhide HBC⟩
      · have hen := (unhide HEN).resolve_left hbig
        have hR2 : (if ¬ (∀ t ∈ a, wrOk t = true) then (([], 100) : List UInt8 × Int) else if 262144 < (joinB a).length then ([], 2) else (joinB a, 0)) = R := by rw [← unhide HR]; exact (unhide HGO hbig hen).symm
        have HR2 := hide hR2
        obtain ⟨i0, hi, hz0, hz1, hz2⟩ := info_parts info_u8
        clear HLO HGO HR HEN hen hR2
        go_wp2_with fail
        go_loopw [5, 6] (fun v i wr => ∃ k : Nat, k ≤ a.length ∧ i = .int .i64 (k : Int) ∧ Owns w.heap.size wr v (joinB (a.take k)) ∧ Below w.heap.size w wr ∧ Hid (∀ t ∈ a.take k, wrOk t = true)) (fun _ i _ => a.length - (intOf i).toNat)
        case atStart => exact ⟨0, Nat.zero_le _, rfl, Owns.nil _ _, unhide HBC, hide (by simp)⟩
        case round =>
          obtain ⟨k, hk, rfl, hown, hbe, HW⟩ := hrel
          have hwr := hbe.size
          obtain ⟨va, vc, rfl⟩ := hown.form
          by_cases hlt : k < a.length
          · obtain ⟨b, off, rfl, hbl2, c0, c1, c2, c3⟩ := ((unhide HAC).below hbe (Nat.le_refl _)).at k hlt
            obtain ⟨hokk, hszk⟩ := unhide HOKC a[k] (List.getElem_mem hlt)
            have JN := join_next hlt
            have hJL := join_len hk (by omega) (unhide HW)
            have WN := fun h => wr_next hlt (unhide HW) h
            have WR := rWritten_any a[k] wr hszk hokk.2.2.1.1 hokk.2.2.1.2
            have hno : wrOk a[k] = false → ¬ (∀ t ∈ a, wrOk t = true) := fun h hh => by have := hh a[k] (List.getElem_mem hlt); rw [h] at this; cases this
            generalize wrOk a[k] = OK at *
            generalize a[k] = T at *
            obtain ⟨tk, ts, tn, tp⟩ := T
            unfold Tk.v at WR
            dsimp only at *
            have HJN := hide JN
            have HWN := hide WN
            have HWR := hide WR
            have HNO := hide hno
            clear JN WN WR hno
            go_wp2_with fail
            refine (unhide HWR).mono ?_
            rintro e w2 ⟨bb, rfl, hbb, hb2⟩
            have hown2 := hown.keepB hb2 (Nat.le_refl _)
            have hbe2 : Below w.heap.size w w2 := hbe.trans (hb2.mono hwr)
            have hs2 : w.heap.size ≤ w2.heap.size := hbe2.size
            clear hown hbe hb2 HWR c0 c1 c2 c3
            cases OK with
            | false =>
              have hr := unhide HR2
              rw [if_pos (unhide HNO rfl)] at hr
              subst hr
              have HB3 := hide hbe2
              clear hbe2 hown2
              go_wp2
              go_ret2
              exact ⟨rfl, unhide HB3⟩
            | true =>
              obtain rfl := hbb rfl
              have hall := unhide HWN rfl
              have hlen := join_len (k := k + 1) hlt (by omega) hall
              have hjn := unhide HJN
              rw [hjn] at hlen
              have HALL := hide hall
              clear hall hbb HWN HJN HNO
              generalize spell ⟨tk, ts, tn, tp⟩ = sp at *
              unfold Owns at hown2
              by_cases hk0 : 0 < k
              · rw [if_neg (by omega)] at hlen hjn
                have hsp : (txt sp).size ≤ 1060864 := by rw [txt_size]; simp only [List.length_append, List.length_singleton] at hlen; omega
                have HJ : Hid (joinB (a.take k) ++ [32] ++ (txt sp).data.toList = joinB (a.take (k + 1))) := hide (by rw [hjn, txt_list])
                clear hjn hlen
                go_wp2_with (at_builtin; refine wpList_append_own _ rfl _ _ 50 rfl w.heap.size 5 i0 (.int .u8 0) 1 1 Tryd.underlying50 hi hz0 hz1 hz2 rfl (by decide) _ _ _ rfl (hown2.alloc _) ⟨w2.heap.size, 0, none⟩ 1 1 [.int .u8 32] rfl rfl ?c1 ?c2 ?c3 ?c4 ?c5 ?_)
                case c1 =>
                  intro j u hj
                  match j, hj with
                  | 0, hj => simp at hj; subst hj; simp [Addr.add]
                case c2 => intro u hu; simp at hu; subst hu; rfl
                case c3 => unfold maxLen; omega
                case c4 => omega
                case c5 => simp; omega
                intro v3 w3 hown3 hgrow3 _
                have hbe3 : Below w.heap.size w w3 := (hbe2.alloc hs2 _).grown hgrow3 (by simp; omega) (fun q hq => (hown2.lt q hq).1)
                have hs3 : w.heap.size ≤ w3.heap.size := hbe3.size
                have hown3' : w3.ownsRow w.heap.size 5 1 v3 (joinB (a.take k) ++ [32]).length (byteC (joinB (a.take k) ++ [32])) := by
                  rw [byteC_append, List.length_append]
                  exact hown3
                have hjl1 : (joinB (a.take k) ++ [32]).length ≤ 1060865 := by simp only [List.length_append, List.length_singleton]; omega
                obtain ⟨v3a, v3c, rfl⟩ := Owns.form (l := joinB (a.take k) ++ [32]) hown3'
                clear hown3 hgrow3 hown2 hbe2
                generalize joinB (a.take k) ++ [32] = J1 at *
                go_wp2_with (at_builtin; refine Lib.wpList_append_own_string _ rfl _ _ 50 9 rfl w.heap.size 5 i0 Tryd.underlying50 Tryd.underlying9 hi hz0 hz1 hz2 _ _ _ rfl hown3' (txt sp) rfl ?d3 ?d4 ?d5 ?_)
                case d3 => unfold maxLen; omega
                case d4 => omega
                case d5 => exact hs3
                intro v4 w4 hown4 hgrow4 _
                have hbe4 : Below w.heap.size w w4 := hbe3.grown hgrow4 hs3 (fun q hq => (hown3'.lt q hq).1)
                have hown5 : Owns w.heap.size w4 v4 (joinB (a.take (k + 1))) := by
                  unfold Owns
                  rw [← unhide HJ, byteC_append, ← byteC_str (txt sp), List.length_append, size_list]
                  exact hown4
                clear hown4 hgrow4 hown3' hbe3 HJ
                go_wp2
                go_roundw
                case rel => exact ⟨k + 1, by omega, by go_num, hown5, hbe4, HALL⟩
                case measure => simp [intOf]; omega
              · rw [if_pos (by omega)] at hlen hjn
                have hsp : (txt sp).size ≤ 1060864 := by rw [txt_size]; exact hlen
                have HJ : Hid (joinB (a.take k) ++ (txt sp).data.toList = joinB (a.take (k + 1))) := hide (by rw [hjn, txt_list, show k = 0 by omega]; rfl)
                clear hjn hlen
                generalize joinB (a.take k) = J1 at *
                go_wp2_with (at_builtin; refine Lib.wpList_append_own_string _ rfl _ _ 50 9 rfl w.heap.size 5 i0 Tryd.underlying50 Tryd.underlying9 hi hz0 hz1 hz2 _ _ _ rfl hown2 (txt sp) rfl ?e3 ?e4 ?e5 ?_)
                case e3 => unfold maxLen; omega
                case e4 => omega
                case e5 => exact hs2
                intro v4 w4 hown4 hgrow4 _
                have hbe4 : Below w.heap.size w w4 := hbe2.grown hgrow4 hs2 (fun q hq => (hown2.lt q hq).1)
                have hown5 : Owns w.heap.size w4 v4 (joinB (a.take (k + 1))) := by
                  unfold Owns
                  rw [← unhide HJ, byteC_append, ← byteC_str (txt sp), List.length_append, size_list]
                  exact hown4
                clear hown4 hgrow4 hown2 hbe2 HJ
                go_wp2
                go_roundw
                case rel => exact ⟨k + 1, by omega, by go_num, hown5, hbe4, HALL⟩
                case measure => simp [intOf]; omega
          · have hka : k = a.length := by omega
            have hhw := unhide HW
            have hr := unhide HR2
            rw [hka, List.take_length] at hown hhw
            rw [if_neg (not_not_intro hhw)] at hr
            have hJL := joinB_len a hhw
            have OS := hown.string
            have HBE := hide hbe
            rw [hka, List.take_length]
            generalize joinB a = J at *
            clear HR2 HW hhw hbe hown
            by_cases hJ : 262144 < J.length
            · rw [if_pos hJ] at hr
              subst hr
              clear OS
              go_wp2
              go_ret2
              exact ⟨rfl, unhide HBE⟩
            · rw [if_neg hJ] at hr
              subst hr
              go_wp2
              go_ret2
              exact ⟨rfl, unhide HBE⟩
end Go.Proofs.YtglfjgnbfligoaaDoor
