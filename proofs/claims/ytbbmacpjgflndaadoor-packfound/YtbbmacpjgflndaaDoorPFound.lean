/-
  PackFound: whatever the texts and what stands around, the law returns true; nothing that was there has changed.
-/
import Derived.Test.YtbbmacpjgflndaaDoorFnd
import Derived.Lib.SmallJoins
namespace Go.Proofs.YtbbmacpjgflndaaDoor
open Go.RowKit

theorem allF_len (bs : List (List UInt8)) (h : ∀ b ∈ bs, b.length ≤ 65536) : (allF bs).length ≤ bs.length * 65546 := by
  induction bs with
  | nil => exact Nat.zero_le _
  | cons b bs ih =>
    have e1 : allF (b :: bs) = frameL b ++ allF bs := by unfold allF; rw [List.flatMap_cons]
    have := h b List.mem_cons_self
    have := ih (fun x hx => h x (List.mem_cons_of_mem _ hx))
    rw [e1, List.length_append, frameL_len, List.length_cons]; omega
theorem allF_snoc (bs : List (List UInt8)) (b : List UInt8) : allF (bs ++ [b]) = allF bs ++ frameL b := by
  unfold allF; rw [List.flatMap_append]; simp
theorem ba_append (a b : List UInt8) : (⟨a.toArray⟩ : ByteArray) ++ ⟨b.toArray⟩ = ⟨(a ++ b).toArray⟩ := by
  apply ByteArray.ext
  apply Array.ext'
  rw [Joins.data_append]
theorem ba_size (a : List UInt8) : (⟨a.toArray⟩ : ByteArray).size = a.length := by show (List.toArray _).size = _; rw [List.size_toArray]
set_option maxHeartbeats 2000000 in
theorem packFound_walk (ad : Option Addr) (cap : Nat) (L : List (List UInt8)) (A C : ByteArray) (w : World) (hlen : L.length ≤ 9223372036854775807) (hA : TextsAt w ad L) (hL : ∀ x ∈ L, x.length ≤ 9223372036854775807)
    (ha : A.size ≤ 140737488351232) (hc : C.size ≤ 140737488351232) (hT : TabW w) :
    Calls Tryd.prog 7 #[.slice ad L.length cap, .string A, .string C] w fun e w' => e = .returned (.bool true) ∧ Below w.heap.size w w' := by
  have hw := works_any w hT
  have HW := hide hw
  have h0 := hT.1
  have HT := hide hT
  have HA := hide hA
  have HL := hide hL
  clear hw hT hA hL
  by_cases hbig : 30 < L.length
  · go_enter Tryd.func7, Tryd.ntmps7
    go_wp2_with fail
    refine (unhide HW).mono ?_
    rintro e w1 ⟨rfl, hb1⟩
    go_wp2
    go_ret
    exact ⟨rfl, hb1⟩
  · obtain ⟨i0, hi, hz0, hz1, hz2⟩ := info_parts info_string
    go_enter Tryd.func7, Tryd.ntmps7
    go_wp2_with fail
    refine (unhide HW).mono ?_
    rintro e w1 ⟨rfl, hb1⟩
    go_wp2_with fail
    go_loopw [7, 8, 27] (fun s v i wr => ∃ (k : Nat) (acc : List (List UInt8)), k ≤ L.length ∧ i = .int .i64 (k : Int) ∧ s = .string ⟨(allF acc).toArray⟩ ∧ OwnsS w.heap.size wr v acc ∧ Below w.heap.size w wr ∧ acc.length ≤ k ∧ Hid (∀ b ∈ acc, b.length ≤ 65536)) (fun _ _ i _ => L.length - (intOf i).toNat)
    case atStart => exact ⟨0, [], Nat.zero_le _, rfl, rfl, OwnsS.nil _ _, hb1, by simp, hide (by simp)⟩
    case round =>
      clear hb1
      obtain ⟨k, acc, hk, rfl, rfl, hown, hbel, hacc, hall⟩ := hrel
      have hzb := hbel.size
      by_cases hlt : k < L.length
      · obtain ⟨b, off, rfl, hbw, hcs⟩ := (unhide HA).below hbel (Nat.le_refl _) (fun e => by rw [e] at hlt; simp at hlt)
        have c0 := hcs k hlt
        have hxl := unhide HL L[k] (List.getElem_mem hlt)
        clear hcs
        generalize L[k] = x at *
        have hxs := ba_size x
        have hfr := frame_any ⟨x.toArray⟩ wr (by rw [hxs]; exact hxl) ((unhide HT).below hbel h0)
        by_cases hb65 : 65536 < x.length
        · have e1 : frE ⟨x.toArray⟩ = 2 := if_pos (by rw [hxs]; exact hb65)
          have e2 : frS ⟨x.toArray⟩ = ⟨#[]⟩ := if_pos (by rw [hxs]; exact hb65)
          rw [e1, e2] at hfr
          have HF := hide hfr
          generalize ({ data := x.toArray } : ByteArray) = X at *
          have hx2 : (65536 : Int) < (X.size : Int) := by omega
          clear hfr e1 e2 hxs
          go_wp2_with fail
          refine (unhide HF).mono ?_
          rintro e w2 ⟨rfl, hb2⟩
          have hbel2 := hbel.trans (hb2.mono hzb)
          have hown2 := hown.below hb2 (Nat.le_refl _)
          clear hbel hown hb2
          go_wp2
          go_roundw
          case rel => exact ⟨k + 1, acc, by omega, by go_num, rfl, hown2, hbel2, by omega, hall⟩
          case measure => simp [intOf]; omega
        · have e1 : frE ⟨x.toArray⟩ = 0 := if_neg (by rw [hxs]; exact hb65)
          have e2 : frS ⟨x.toArray⟩ = ⟨(frameL x).toArray⟩ := if_neg (by rw [hxs]; exact hb65)
          rw [e1, e2] at hfr
          have hFs := ba_size (frameL x)
          rw [frameL_len] at hFs
          have hua := unfS_frame A.data.toList x C.data.toList (by omega)
          have hun := fun w hw => unframe_any (A ++ ⟨(frameL x).toArray⟩ ++ C) (A.size : Int) w (by rw [ByteArray.size_append, ByteArray.size_append, hFs]; omega) hw
          rw [Joins.data_append, Joins.data_append, show ({ data := (frameL x).toArray } : ByteArray).data.toList = frameL x from rfl, ← show A.data.toList.length = A.size from Array.length_toList, hua, show A.data.toList.length = A.size from Array.length_toList, frameL_len] at hun
          have hsn : allF (acc ++ [x]) = allF acc ++ frameL x := allF_snoc acc x
          have hcat : (⟨(allF acc).toArray⟩ : ByteArray) ++ ⟨(frameL x).toArray⟩ = ⟨(allF (acc ++ [x])).toArray⟩ := by rw [ba_append, hsn]
          have hal := allF_len acc (unhide hall)
          have hAs := ba_size (allF acc)
          generalize ({ data := (frameL x).toArray } : ByteArray) = F at *
          generalize ({ data := (allF acc).toArray } : ByteArray) = G at *
          have hXd : (⟨x.toArray⟩ : ByteArray) = ⟨x.toArray⟩ := rfl
          generalize hX : ({ data := x.toArray } : ByteArray) = X at *
          have hlenF : (A.size : Int) + (F.size : Int) = ((A.size + (x.length + 10) : Nat) : Int) := by rw [hFs]; omega
          have hend : (((A.size + (x.length + 10) : Nat) : Int) != (A.size : Int) + (F.size : Int)) = false := by simp; omega
          have HUN := hide hun
          have HF := hide hfr
          have HX := hide hX
          have HCAT := hide hcat
          have add1 : A.size + F.size ≤ 9223372036854775807 := by omega
          have add2 : (A ++ F).size + C.size ≤ 9223372036854775807 := by rw [ByteArray.size_append]; omega
          have add3 : G.size + F.size ≤ 9223372036854775807 := by omega
          clear hfr e1 e2 hxs hun hua hcat hX hXd hsn hFs hlenF hal hAs
          go_wp2_with fail
          refine (unhide HF).mono ?_
          rintro e w2 ⟨rfl, hb2⟩
          have hbel2 := hbel.trans (hb2.mono hzb)
          have hown2 := hown.below hb2 (Nat.le_refl _)
          have hz2' := hbel2.size
          clear hbel hown hb2
          go_wp2_with fail
          refine (unhide HUN w2 ((unhide HT).below hbel2 h0)).mono ?_
          rintro e w3 ⟨rfl, hb3⟩
          dsimp only
          have hbel3 := hbel2.trans (hb3.mono hz2')
          have hown3 := hown2.below hb3 (Nat.le_refl _)
          have hz3 := hbel3.size
          have hx30 : x.length ≤ 65536 := by omega
          clear hbel2 hown2 hb3
          go_wp2_with (at_builtin; refine wpList_append_own _ rfl _ _ 37 rfl w.heap.size 9 i0 (.string ⟨#[]⟩) 1 16 Tryd.underlying37 hi hz0 hz1 hz2 rfl (by decide) _ _ _ rfl ((hown3.alloc _).alloc _) ⟨w3.heap.size + 1, 0, none⟩ 1 1 [.string X] rfl rfl ?c1 ?c2 ?c3 ?c4 ?c5 ?_)
          case c1 =>
            intro q u hq
            match q, hq with
            | 0, hq => simp at hq; subst hq; simp [Addr.add]
          case c2 => intro u hu; simp at hu; subst hu; rfl
          case c3 => unfold maxLen; omega
          case c4 => omega
          case c5 => simp; omega
          intro v' w4 hown4 hgrow _
          have hfr4 : Fr w.heap.size 9 w3 w4 := (((Fr.refl _ _ w3).alloc hz3 _).alloc (by simp; omega) _).grown ((hown3.alloc _).alloc _) hgrow (by simp; omega)
          have hown5 : OwnsS w.heap.size w4 v' (acc ++ [x]) := by
            unfold OwnsS
            rw [textC_append, List.length_append]
            unfold textC at hown4 ⊢
            rw [List.map_cons, List.map_nil, unhide HX]
            exact hown4
          have hbel5 := hbel3.trans hfr4.below
          clear hown4 hgrow hown3 hfr4 hbel3
          go_wp2
          go_roundw
          case rel => exact ⟨k + 1, acc ++ [x], by omega, by go_num, by rw [unhide HCAT], hown5, hbel5, by simp; omega, hide (fun y hy => by
            rcases List.mem_append.1 hy with h | h
            · exact unhide hall y h
            · rw [List.mem_singleton] at h; rw [h]; exact hx30)⟩
          case measure => simp [intOf]; omega
      · obtain ⟨av, cv, rfl, hti⟩ := hown.texts
        have hal := allF_len acc (unhide hall)
        have hAs := ba_size (allF acc)
        have f1 := frsS_all acc [] (unhide hall) body_none
        have f2 := frsS_all acc [87, 70] (unhide hall) body_WF
        rw [List.append_nil] at f1
        have g1 := fun w hw => frames_any ⟨(allF acc).toArray⟩ w (by omega) hw
        rw [show ({ data := (allF acc).toArray } : ByteArray).data.toList = allF acc from rfl, f1] at g1
        have g2 := fun w hw => frames_any (⟨(allF acc).toArray⟩ ++ ⟨#[87, 70]⟩) w (by rw [ByteArray.size_append, hAs]; show (allF acc).length + 2 ≤ _; omega) hw
        rw [Joins.data_append, show ({ data := (allF acc).toArray } : ByteArray).data.toList = allF acc from rfl, show ({ data := #[87, 70] } : ByteArray).data.toList = [87, 70] from rfl, f2] at g2
        have hend : ((((allF acc).length : Nat) : Int) == ((⟨(allF acc).toArray⟩ : ByteArray).size : Int)) = true := beq_iff_eq.2 (by rw [hAs])
        have hsum : (⟨(allF acc).toArray⟩ : ByteArray).size + (⟨#[87, 70]⟩ : ByteArray).size ≤ 9223372036854775807 := by rw [hAs]; show (allF acc).length + 2 ≤ _; omega
        generalize ({ data := (allF acc).toArray } : ByteArray) = G at *
        have G1 := hide g1
        have G2 := hide g2
        have HTI := hide hti
        clear g1 g2 f1 f2 hal hAs hti hown
        have hsum2 : G.size + 2 ≤ 9223372036854775807 := hsum
        go_wp2_with fail
        refine (unhide G1 wr ((unhide HT).below hbel h0)).mono ?_
        rintro e w2 ⟨v2, rfl, hq2, hb2⟩
        dsimp only
        have hbel2 := hbel.trans (hb2.mono hzb)
        have hz2' := hbel2.size
        obtain ⟨a2, c2, rfl, ht2⟩ := hq2.texts
        have hti2 := (unhide HTI).below hb2 (Nat.le_refl _)
        have HT2 := hide ht2
        have HTI2 := hide hti2
        clear hq2 hb2 ht2 hti2 hbel HTI
        go_wp2_with fail
        refine (unhide G2 w2 ((unhide HT).below hbel2 h0)).mono ?_
        rintro e w3 ⟨v3, rfl, hq3, hb3⟩
        dsimp only
        have hbel3 := hbel2.trans (hb3.mono hz2')
        obtain ⟨a3, c3, rfl, ht3⟩ := hq3.texts
        have s1 := sameTexts_true a2 av c2 cv acc w3 ((unhide HT2).below hb3 (Nat.le_refl _)) ((unhide HTI2).below hb3 (Nat.le_refl _)) (by omega)
        have s2 := fun n => sameTexts_true a3 av c3 cv acc (w3.drewN n) (ht3.below (below_drewN (Below.refl w3.heap.size w3) n) (Nat.le_refl _)) (((unhide HTI2).below hb3 (Nat.le_refl _)).below (below_drewN (Below.refl w3.heap.size w3) n) (Nat.le_refl _)) (by omega)
        have S1 := hide s1
        have S2 := hide s2
        clear s1 s2 ht3 hq3 hb3 hbel2
        go_wp2_with fail
        refine (unhide S1).mono ?_
        rintro e w4 ⟨rfl, n4, rfl⟩
        go_wp2_with fail
        refine (unhide S2 n4).mono ?_
        rintro e w5 ⟨rfl, n5, rfl⟩
        go_wp2
        go_ret
        exact ⟨rfl, below_drewN hbel3 _⟩
end Go.Proofs.YtbbmacpjgflndaaDoor
