/-
  Snapshots: a file's name, taken apart rune by rune.
  A pair of results of which the first lies in cells. Of no program.
  Snapshots: a file that is just one frame; the manifest, read.
-/
import Derived.Test.YtdmckgcbmbhmmaaGreatDoorRw18
import Derived.BigQuiet
import Derived.Test.YtdmckgcbmbhmmaaGreatDoorRw09
import Derived.Laws.ResultCell
import Derived.Test.YtdmckgcbmbhmmaaGreatDoorRw17
import Derived.Deep.DeepCutAuto
namespace Go.Proofs.YtdmckgcbmbhmmaaGreatDoor
open Go.RowKit

theorem up_at (l : List UInt8) (k : Nat) (hk : k < l.length) (h : ∀ b ∈ l.take k, b ≠ 46) (he : l[k] = 46) : upA l = l.take k ∧ upB l = l.drop (k + 1) := by
  have hl : ∀ b ∈ l.take k, decide (b ≠ 46) = true := fun b hb => decide_eq_true (h b hb)
  have e : l = l.take k ++ 46 :: l.drop (k + 1) := by
    rw [← he, List.getElem_cons_drop hk, List.take_append_drop]
  have e1 : upA (l.take k ++ 46 :: l.drop (k + 1)) = l.take k := by
    unfold upA; rw [List.takeWhile_append_of_pos hl]; simp
  have e2 : upB (l.take k ++ 46 :: l.drop (k + 1)) = l.drop (k + 1) := by
    unfold upB; rw [List.dropWhile_append_of_pos hl]; simp
  rw [← e] at e1 e2
  exact ⟨e1, e2⟩
theorem up_none (l : List UInt8) (h : ∀ b ∈ l, b ≠ 46) : upA l = l ∧ upB l = [] := by
  have hl : ∀ b ∈ l, decide (b ≠ 46) = true := fun b hb => decide_eq_true (h b hb)
  unfold upA upB
  have e1 := List.takeWhile_append_of_pos (l₂ := []) hl
  have e2 := List.dropWhile_append_of_pos (l₂ := []) hl
  rw [List.append_nil] at e1 e2
  rw [e1, e2]
  simp
theorem ext_pre' (l : List UInt8) (k : Nat) : (⟨l.toArray⟩ : ByteArray).extract 0 k = ⟨(l.take k).toArray⟩ := by
  apply ByteArray.ext
  apply Array.ext'
  exact ext_pre ⟨l.toArray⟩ k
theorem ext_post' (l : List UInt8) (k : Nat) : (⟨l.toArray⟩ : ByteArray).extract k l.length = ⟨(l.drop k).toArray⟩ := by
  apply ByteArray.ext
  apply Array.ext'
  have := ext_drop ⟨l.toArray⟩ k
  have e : (⟨l.toArray⟩ : ByteArray).size = l.length := by simp [ByteArray.size]
  rw [e] at this
  simpa using this
set_option maxHeartbeats 1000000 in
set_option maxRecDepth 100000 in
theorem untilP_any (l : List UInt8) (w : World) (hs : l.length ≤ 1000000) (hA : ∀ b ∈ l, b.toNat < 128) :
    Calls Tryz.prog 91 #[.string ⟨l.toArray⟩] w fun e w' => e = .returned (.tuple #[.string ⟨(upA l).toArray⟩, .string ⟨(upB l).toArray⟩]) ∧ Kp [] w w' := by
  have hz : (⟨l.toArray⟩ : ByteArray).size = l.length := by simp [ByteArray.size]
  have hg : ∀ i (h : i < (⟨l.toArray⟩ : ByteArray).size), (⟨l.toArray⟩ : ByteArray)[i]'h = l[i]'(by omega) := fun i h => rfl
  have hup := up_at l
  have hun := up_none l
  have hp1 := ext_pre' l
  have hp2 := ext_post' l
  have hka := fun pos => Kp.alloc w (.stringIter ⟨l.toArray⟩ pos)
  have hnx : ∀ pos ty (h : pos < l.length), (Instr.next (.pointer (some ⟨w.heap.size, 0, none⟩)) true ty).run Tryz.prog (w.iter ⟨l.toArray⟩ pos) = .ok (.tuple #[.bool true, .int .i64 pos, .int .i32 (l[pos].toNat : Int)]) (w.iter ⟨l.toArray⟩ (pos + 1)) := fun pos ty h => by
    have := run_next_ascii (P := Tryz.prog) w ⟨l.toArray⟩ pos ty (by omega) (by rw [hg]; exact hA _ (List.getElem_mem _))
    rw [hg] at this
    exact this
  have hne : ∀ pos ty (h : ¬ pos < l.length), (Instr.next (.pointer (some ⟨w.heap.size, 0, none⟩)) true ty).run Tryz.prog (w.iter ⟨l.toArray⟩ pos) = .ok (.tuple #[.bool false]) (w.iter ⟨l.toArray⟩ pos) := fun pos ty h => run_next_end (P := Tryz.prog) w ⟨l.toArray⟩ pos ty (by omega)
  have HUP := hide hup
  have HUN := hide hun
  have HP1 := hide hp1
  have HP2 := hide hp2
  have HKA := hide hka
  have HNX := hide hnx
  have HNE := hide hne
  clear hup hun hp1 hp2 hka hnx hne hA hg
  generalize hse : (⟨l.toArray⟩ : ByteArray) = s at *
  have HSE := hide hse
  clear hse
  go_enter Tryz.func91, Tryz.ntmps91
  go_wp2
  go_loopw [4, 5] (fun _ _ w' => ∃ pos : Nat, pos ≤ l.length ∧ w' = w.iter s pos ∧ Hid (∀ b ∈ l.take pos, b ≠ 46)) (fun _ _ w' => l.length - w'.iterPos w.heap.size)
  case atStart => exact ⟨0, Nat.zero_le _, rfl, hide (by simp)⟩
  case round =>
    obtain ⟨pos, hp, rfl, HB⟩ := hrel
    by_cases hlt : pos < l.length
    · have hnx := fun ty => unhide HNX pos ty hlt
      have hst : l.take (pos + 1) = l.take pos ++ [l[pos]] := by rw [List.take_succ_eq_append_getElem hlt]
      by_cases h46 : l[pos] = 46
      · obtain ⟨e1, e2⟩ := unhide HUP pos hlt (unhide HB) h46
        have x1 := unhide HP1 pos
        have x2 := unhide HP2 (pos + 1)
        have h0 : (l[pos].toNat : Int) = 46 := by rw [h46]; rfl
        rw [h0] at hnx
        have E1 := hide e1
        have E2 := hide e2
        have X1 := hide x1
        have X2 := hide x2
        clear e1 e2 x1 x2 h0 hst h46
        go_wp2
        go_quiet (fail)
        go_wp2
        go_ret2
        exact ⟨by rw [unhide E1, unhide E2, ← unhide X1, ← unhide X2]; rfl, (unhide HKA (pos + 1)).trans (Kp.drewQ _ nq) (by simp)⟩
      · have hc : ((l[pos].toNat : Int) == 46) = false := by
          rw [beq_eq_false_iff_ne]
          intro h
          refine h46 (UInt8.toNat_inj.1 ?_)
          have : l[pos].toNat = 46 := by omega
          exact this
        have hb : ∀ b ∈ l.take (pos + 1), b ≠ 46 := by
          rw [hst]
          intro b hb
          rw [List.mem_append, List.mem_singleton] at hb
          rcases hb with hb | rfl
          · exact unhide HB b hb
          · exact h46
        have HB' := hide hb
        clear h46 hst hb
        generalize (l[pos].toNat : Int) = x at *
        go_wp2
        go_roundw
        case rel => exact ⟨pos + 1, by omega, rfl, HB'⟩
        case measure => simp [World.iterPos, World.iter_heap]; omega
    · have hnx := fun ty => unhide HNE pos ty hlt
      obtain rfl : pos = l.length := by omega
      have hall := unhide HB
      rw [List.take_length] at hall
      obtain ⟨e1, e2⟩ := unhide HUN hall
      have E1 := hide e1
      have E2 := hide e2
      clear hall e1 e2
      go_wp2
      go_ret2
      exact ⟨by rw [unhide E1, unhide E2, unhide HSE]; rfl, unhide HKA _⟩
/-- A number read on. -/
theorem nuF_step (l : List UInt8) (n : Nat) (first : Bool) (k : Nat) (hk : k < l.length) : nuF (l.drop k) n first = if (l[k].toNat < 48 ∨ 57 < l[k].toNat) ∨ (first = false ∧ n = 0) then none else if 1073741824 < n * 10 + (l[k].toNat - 48) then none else nuF (l.drop (k + 1)) (n * 10 + (l[k].toNat - 48)) false := by
  rw [List.drop_eq_getElem_cons hk, nuF]
set_option maxHeartbeats 2000000 in
set_option maxRecDepth 100000 in
theorem numberOf_any (l : List UInt8) (w : World) (hs : l.length ≤ 1000000) (hA : ∀ b ∈ l, b.toNat < 128) :
    Calls Tryz.prog 92 #[.string ⟨l.toArray⟩] w fun e w' => e = .returned (.tuple #[.int .i64 (((nuO l).getD 0 : Nat) : Int), .bool (nuO l).isSome]) ∧ Kp [] w w' := by
  have hz : (⟨l.toArray⟩ : ByteArray).size = l.length := by simp [ByteArray.size]
  have hg : ∀ i (h : i < (⟨l.toArray⟩ : ByteArray).size), (⟨l.toArray⟩ : ByteArray)[i]'h = l[i]'(by omega) := fun i h => rfl
  have hka := fun pos => Kp.alloc w (.stringIter ⟨l.toArray⟩ pos)
  have hnx : ∀ pos ty (h : pos < l.length), (Instr.next (.pointer (some ⟨w.heap.size, 0, none⟩)) true ty).run Tryz.prog (w.iter ⟨l.toArray⟩ pos) = .ok (.tuple #[.bool true, .int .i64 pos, .int .i32 (l[pos].toNat : Int)]) (w.iter ⟨l.toArray⟩ (pos + 1)) := fun pos ty h => by
    have := run_next_ascii (P := Tryz.prog) w ⟨l.toArray⟩ pos ty (by omega) (by rw [hg]; exact hA _ (List.getElem_mem _))
    rw [hg] at this
    exact this
  have hne : ∀ pos ty (h : ¬ pos < l.length), (Instr.next (.pointer (some ⟨w.heap.size, 0, none⟩)) true ty).run Tryz.prog (w.iter ⟨l.toArray⟩ pos) = .ok (.tuple #[.bool false]) (w.iter ⟨l.toArray⟩ pos) := fun pos ty h => run_next_end (P := Tryz.prog) w ⟨l.toArray⟩ pos ty (by omega)
  have hem : l ≠ [] → (⟨l.toArray⟩ : ByteArray).toList.isEmpty = false := fun h => by
    rw [ByteArray.toList_eq]
    cases l with
    | nil => exact absurd rfl h
    | cons a l => rfl
  have HKA := hide hka
  have HNX := hide hnx
  have HNE := hide hne
  have HA := hide hA
  have HEM := hide hem
  have HST := hide (nuF_step l)
  clear hka hnx hne hA hg hem
  by_cases hl : l = []
  · subst hl
    have hnx := fun ty => unhide HNE 0 ty (by simp)
    go_enter Tryz.func92, Tryz.ntmps92
    go_wp2
    go_loopw [2, 4, 5] (fun n _ _ w' => n = .int .i64 0 ∧ w' = w.iter ⟨#[]⟩ 0) (fun _ _ _ w' => 0)
    case atStart => exact ⟨rfl, rfl⟩
    case round =>
      obtain ⟨rfl, rfl⟩ := hrel
      go_wp2
      go_ret2
      exact ⟨rfl, unhide HKA 0⟩
  · have hem := unhide HEM hl
    have hR : nuO l = nuF l 0 true := by unfold nuO; rw [if_neg hl]
    rw [hR]
    have HR : Hid (∀ n k first, nuF (l.drop k) n first = nuF l 0 true → nuF (l.drop k) n first = nuF l 0 true) := hide (fun _ _ _ h => h)
    generalize hs' : (⟨l.toArray⟩ : ByteArray) = s at *
    clear hs'
    generalize hRR : nuF l 0 true = R at *
    have h00 : Hid (nuF (l.drop 0) 0 (decide (0 = 0)) = R) := hide (by rw [← hRR]; rfl)
    clear hRR hR
    go_enter Tryz.func92, Tryz.ntmps92
    go_wp2
    go_loopw [2, 4, 5] (fun nv _ _ w' => ∃ pos n : Nat, pos ≤ l.length ∧ n ≤ 1073741824 ∧ nv = .int .i64 (n : Int) ∧ w' = w.iter s pos ∧ Hid (nuF (l.drop pos) n (decide (pos = 0)) = R)) (fun _ _ _ w' => l.length - w'.iterPos w.heap.size)
    case atStart => exact ⟨0, 0, Nat.zero_le _, by decide, rfl, rfl, h00⟩
    case round =>
      obtain ⟨pos, n, hp, hn, rfl, rfl, HI⟩ := hrel
      by_cases hlt : pos < l.length
      · have hnx := fun ty => unhide HNX pos ty hlt
        have hst := unhide HST n (decide (pos = 0)) pos hlt
        rw [unhide HI] at hst
        have h128 := unhide HA _ (List.getElem_mem hlt)
        generalize l[pos] = b at *
        generalize hx : b.toNat = x at *
        clear hx HI
        by_cases hbad : (x < 48 ∨ 57 < x) ∨ (pos ≠ 0 ∧ n = 0)
        · rw [if_pos (by rcases hbad with h | h; exact Or.inl h; exact Or.inr ⟨decide_eq_false h.1, h.2⟩)] at hst
          subst hst
          rcases hbad with (h | h) | ⟨h, rfl⟩
          · go_wp2
            go_ret2
            exact ⟨rfl, unhide HKA _⟩
          · go_wp2
            go_ret2
            exact ⟨rfl, unhide HKA _⟩
          · by_cases h1 : x < 48
            · go_wp2
              go_ret2
              exact ⟨rfl, unhide HKA _⟩
            · by_cases h2 : 57 < x
              · go_wp2
                go_ret2
                exact ⟨rfl, unhide HKA _⟩
              · go_wp2
                go_ret2
                exact ⟨rfl, unhide HKA _⟩
        · rw [if_neg (fun h => hbad (by rcases h with h | h; exact Or.inl h; exact Or.inr ⟨of_decide_eq_false h.1, h.2⟩))] at hst
          have g1 : ¬ x < 48 := fun h => hbad (Or.inl (Or.inl h))
          have g2 : ¬ 57 < x := fun h => hbad (Or.inl (Or.inr h))
          have g3 : pos = 0 ∨ n ≠ 0 := by
            rcases Nat.eq_zero_or_pos pos with h | h
            · exact Or.inl h
            · exact Or.inr fun h0 => hbad (Or.inr ⟨by omega, h0⟩)
          clear hbad
          obtain ⟨y, rfl⟩ : ∃ y, x = 48 + y := ⟨x - 48, by omega⟩
          rw [show 48 + y - 48 = y by omega] at hst
          by_cases hbig : 1073741824 < n * 10 + y
          · rw [if_pos hbig] at hst
            subst hst
            rcases g3 with rfl | g3
            · go_wp2
              go_ret2
              exact ⟨rfl, unhide HKA _⟩
            · rcases Nat.eq_zero_or_pos pos with rfl | hp0
              · go_wp2
                go_ret2
                exact ⟨rfl, unhide HKA _⟩
              · have hn0 : ((n : Int) == 0) = false := beq_eq_false_iff_ne.2 (by omega)
                go_wp2
                all_goals go_ret2
                all_goals exact ⟨rfl, unhide HKA _⟩
          · rw [if_neg hbig] at hst
            have HI' : Hid (nuF (l.drop (pos + 1)) (n * 10 + y) (decide (pos + 1 = 0)) = R) := hide (by rw [decide_eq_false (by omega)]; exact hst.symm)
            clear hst
            rcases g3 with rfl | g3
            · go_wp2
              go_roundw
              case rel => exact ⟨0 + 1, n * 10 + y, by omega, by omega, by go_num, rfl, HI'⟩
              case measure => simp [World.iterPos, World.iter_heap]; omega
            · rcases Nat.eq_zero_or_pos pos with rfl | hp0
              · go_wp2
                go_roundw
                case rel => exact ⟨0 + 1, n * 10 + y, by omega, by omega, by go_num, rfl, HI'⟩
                case measure => simp [World.iterPos, World.iter_heap]; omega
              · have hn0 : ((n : Int) == 0) = false := beq_eq_false_iff_ne.2 (by omega)
                go_wp2
                go_roundw
                case rel => exact ⟨pos + 1, n * 10 + y, by omega, by omega, by go_num, rfl, HI'⟩
                case measure => simp [World.iterPos, World.iter_heap]; omega
      · have hnx := fun ty => unhide HNE pos ty hlt
        obtain rfl : pos = l.length := by omega
        have hi := unhide HI
        rw [List.drop_length] at hi
        have hi' : R = some n := by rw [← hi]; rfl
        subst hi'
        clear hi HI
        go_wp2
        go_ret2
        exact ⟨rfl, unhide HKA _⟩
theorem nuF_le : ∀ (l : List UInt8) (n : Nat) (first : Bool) (m : Nat), n ≤ 1073741824 → nuF l n first = some m → m ≤ 1073741824
  | [], n, _, m, hn, h => by
    injection h with h
    omega
  | c :: l, n, first, m, hn, h => by
    rw [nuF] at h
    split at h
    · cases h
    · split at h
      · cases h
      · exact nuF_le l _ false m (by omega) h
theorem nuO_le {l : List UInt8} {m : Nat} (h : nuO l = some m) : m ≤ 1073741824 := by
  unfold nuO at h
  split at h
  · cases h
  · exact nuF_le l 0 true m (by decide) h
set_option maxHeartbeats 2000000 in
set_option maxRecDepth 100000 in
theorem snOf_any (l : List UInt8) (w : World) (hs : l.length ≤ 1000000) (hA : ∀ b ∈ l, b.toNat < 128) :
    Calls Tryz.prog 59 #[.string ⟨l.toArray⟩] w fun e w' => e = .returned (.tuple #[.int .i64 ((((snP l).map (·.1)).getD 0 : Nat) : Int), .bool (snP l).isSome]) ∧ Kp [] w w' := by
  have hB : (upB l).length ≤ 1000000 ∧ (∀ b ∈ upB l, b.toNat < 128) := by
    have hsub : (upB l).Sublist l := (List.drop_sublist _ _).trans (List.dropWhile_sublist _)
    exact ⟨Nat.le_trans hsub.length_le hs, fun b hb => hA b (hsub.subset hb)⟩
  have hC : ∀ m : List UInt8, m.length ≤ 1000000 → (∀ b ∈ m, b.toNat < 128) → ((upA m).length ≤ 1000000 ∧ (∀ b ∈ upA m, b.toNat < 128)) ∧ ((upB m).length ≤ 1000000 ∧ (∀ b ∈ upB m, b.toNat < 128)) := fun m h1 h2 => by
    have ha : (upA m).Sublist m := List.takeWhile_sublist _
    have hb : (upB m).Sublist m := (List.drop_sublist _ _).trans (List.dropWhile_sublist _)
    exact ⟨⟨Nat.le_trans ha.length_le h1, fun b h => h2 b (ha.subset h)⟩, ⟨Nat.le_trans hb.length_le h1, fun b h => h2 b (hb.subset h)⟩⟩
  obtain ⟨⟨x1, x2⟩, ⟨x3, x4⟩⟩ := hC (upB l) hB.1 hB.2
  have u1 := fun W => untilP_any l W hs hA
  have u2 := fun W => untilP_any (upB l) W hB.1 hB.2
  have n1 := fun W => numberOf_any (upA (upB l)) W x1 x2
  have n2 := fun W => numberOf_any (upB (upB l)) W x3 x4
  have q1 := fun m => nuO_le (l := upA (upB l)) (m := m)
  have hP : snP l = if (⟨(upA l).toArray⟩ : ByteArray) = ⟨#[115]⟩ then (match nuO (upA (upB l)), nuO (upB (upB l)) with | some c, some t => if 1 ≤ c ∧ t ≤ 32 then some (c, t) else none | _, _ => none) else none := by
    unfold snP
    by_cases h : upA l = [115]
    · rw [if_pos h, if_pos (by rw [h])]
      rfl
    · rw [if_neg h, if_neg (fun e => h (by simpa using congrArg (fun x : ByteArray => x.data.toList) e))]
  generalize snP l = R at *
  generalize (⟨(upA l).toArray⟩ : ByteArray) = fs at *
  generalize nuO (upA (upB l)) = C at *
  generalize nuO (upB (upB l)) = T at *
  generalize (⟨(upB l).toArray⟩ : ByteArray) = s1 at *
  generalize (⟨(upA (upB l)).toArray⟩ : ByteArray) = s2 at *
  generalize (⟨(upB (upB l)).toArray⟩ : ByteArray) = s3 at *
  generalize (⟨l.toArray⟩ : ByteArray) = s0 at *
  have U1 := hide u1
  have U2 := hide u2
  have N1 := hide n1
  have N2 := hide n2
  clear u1 u2 n1 n2 x1 x2 x3 x4 hC hB hA hs
  have hfin : R = (if fs = ⟨#[115]⟩ then (match C, T with | some c, some t => if 1 ≤ c ∧ t ≤ 32 then some (c, t) else none | _, _ => none) else none) := hP
  clear hP
  have IS := hide fun c W => isSnap_any c W
  have IT := hide fun c W => isTask_any c W
  have Q1 := hide q1
  clear q1
  by_cases hf : fs = ⟨#[115]⟩
  · rw [if_pos hf] at hfin
    subst hf
    cases C with
    | none =>
      dsimp only at hfin
      subst hfin
      clear Q1
      go_enter Tryz.func59, Tryz.ntmps59
      go_wp2_with fail
      refine (unhide U1 _).mono ?_
      rintro e w1 ⟨rfl, k1⟩
      go_wp2_with fail
      refine (unhide U2 _).mono ?_
      rintro e w2 ⟨rfl, k2⟩
      go_wp2_with fail
      refine (unhide N1 _).mono ?_
      rintro e w3 ⟨rfl, k3⟩
      go_wp2_with fail
      refine (unhide N2 _).mono ?_
      rintro e w4 ⟨rfl, k4⟩
      have HK := hide (((k1.trans k2 (by simp)).trans k3 (by simp)).trans k4 (by simp))
      clear k1 k2 k3 k4
      go_wp2
      go_ret2
      exact ⟨rfl, unhide HK⟩
    | some c =>
      have hc := unhide Q1 c rfl
      clear Q1
      cases T with
      | none =>
        dsimp only at hfin
        subst hfin
        go_enter Tryz.func59, Tryz.ntmps59
        go_wp2_with fail
        refine (unhide U1 _).mono ?_
        rintro e w1 ⟨rfl, k1⟩
        go_wp2_with fail
        refine (unhide U2 _).mono ?_
        rintro e w2 ⟨rfl, k2⟩
        go_wp2_with fail
        refine (unhide N1 _).mono ?_
        rintro e w3 ⟨rfl, k3⟩
        go_wp2_with fail
        refine (unhide N2 _).mono ?_
        rintro e w4 ⟨rfl, k4⟩
        have HK := hide (((k1.trans k2 (by simp)).trans k3 (by simp)).trans k4 (by simp))
        clear k1 k2 k3 k4
        go_wp2
        go_ret2
        exact ⟨rfl, unhide HK⟩
      | some t =>
        dsimp only at hfin
        by_cases h1 : 1 ≤ c
        · have D1 := hide (decide_eq_true (⟨by omega, by omega⟩ : 1 ≤ (c : Int) ∧ (c : Int) ≤ 1073741824))
          by_cases h2 : t ≤ 32
          · have D2 := hide (decide_eq_true (⟨by omega, by omega⟩ : 0 ≤ (t : Int) ∧ (t : Int) ≤ 32))
            rw [if_pos ⟨h1, h2⟩] at hfin
            subst hfin
            go_enter Tryz.func59, Tryz.ntmps59
            go_wp2_with fail
            refine (unhide U1 _).mono ?_
            rintro e w1 ⟨rfl, k1⟩
            go_wp2_with fail
            refine (unhide U2 _).mono ?_
            rintro e w2 ⟨rfl, k2⟩
            go_wp2_with fail
            refine (unhide N1 _).mono ?_
            rintro e w3 ⟨rfl, k3⟩
            go_wp2_with fail
            refine (unhide N2 _).mono ?_
            rintro e w4 ⟨rfl, k4⟩
            have HK := hide (((k1.trans k2 (by simp)).trans k3 (by simp)).trans k4 (by simp))
            clear k1 k2 k3 k4
            go_wp2_with fail
            refine (unhide IS _ _).mono ?_
            rintro e w5 ⟨rfl, rfl⟩
            rw [unhide D1]
            go_wp2_with fail
            refine (unhide IT _ _).mono ?_
            rintro e w6 ⟨rfl, rfl⟩
            rw [unhide D2]
            go_wp2
            go_ret2
            exact ⟨rfl, unhide HK⟩
          · have D2 := hide (decide_eq_false (fun h => h2 (by omega) : ¬ (0 ≤ (t : Int) ∧ (t : Int) ≤ 32)))
            rw [if_neg (fun h => h2 h.2)] at hfin
            subst hfin
            go_enter Tryz.func59, Tryz.ntmps59
            go_wp2_with fail
            refine (unhide U1 _).mono ?_
            rintro e w1 ⟨rfl, k1⟩
            go_wp2_with fail
            refine (unhide U2 _).mono ?_
            rintro e w2 ⟨rfl, k2⟩
            go_wp2_with fail
            refine (unhide N1 _).mono ?_
            rintro e w3 ⟨rfl, k3⟩
            go_wp2_with fail
            refine (unhide N2 _).mono ?_
            rintro e w4 ⟨rfl, k4⟩
            have HK := hide (((k1.trans k2 (by simp)).trans k3 (by simp)).trans k4 (by simp))
            clear k1 k2 k3 k4
            go_wp2_with fail
            refine (unhide IS _ _).mono ?_
            rintro e w5 ⟨rfl, rfl⟩
            rw [unhide D1]
            go_wp2_with fail
            refine (unhide IT _ _).mono ?_
            rintro e w6 ⟨rfl, rfl⟩
            rw [unhide D2]
            go_wp2
            go_ret2
            exact ⟨rfl, unhide HK⟩
        · have D1 := hide (decide_eq_false (fun h => h1 (by omega) : ¬ (1 ≤ (c : Int) ∧ (c : Int) ≤ 1073741824)))
          rw [if_neg (fun h => h1 h.1)] at hfin
          subst hfin
          go_enter Tryz.func59, Tryz.ntmps59
          go_wp2_with fail
          refine (unhide U1 _).mono ?_
          rintro e w1 ⟨rfl, k1⟩
          go_wp2_with fail
          refine (unhide U2 _).mono ?_
          rintro e w2 ⟨rfl, k2⟩
          go_wp2_with fail
          refine (unhide N1 _).mono ?_
          rintro e w3 ⟨rfl, k3⟩
          go_wp2_with fail
          refine (unhide N2 _).mono ?_
          rintro e w4 ⟨rfl, k4⟩
          have HK := hide (((k1.trans k2 (by simp)).trans k3 (by simp)).trans k4 (by simp))
          clear k1 k2 k3 k4
          go_wp2_with fail
          refine (unhide IS _ _).mono ?_
          rintro e w5 ⟨rfl, rfl⟩
          rw [unhide D1]
          go_wp2
          go_ret2
          exact ⟨rfl, unhide HK⟩
  · have hne : (fs.toList == [115]) = false := beq_eq_false_iff_ne.2 fun e => hf (by
      rw [ByteArray.toList_eq] at e
      apply ByteArray.ext
      exact Array.ext' e)
    have hne2 : fs.toList ≠ [115] := beq_eq_false_iff_ne.1 hne
    rw [if_neg hf] at hfin
    subst hfin
    clear Q1 hf
    go_enter Tryz.func59, Tryz.ntmps59
    go_wp2_with fail
    refine (unhide U1 _).mono ?_
    rintro e w1 ⟨rfl, k1⟩
    go_wp2_with fail
    refine (unhide U2 _).mono ?_
    rintro e w2 ⟨rfl, k2⟩
    go_wp2_with fail
    refine (unhide N1 _).mono ?_
    rintro e w3 ⟨rfl, k3⟩
    go_wp2_with fail
    refine (unhide N2 _).mono ?_
    rintro e w4 ⟨rfl, k4⟩
    have HK := hide (((k1.trans k2 (by simp)).trans k3 (by simp)).trans k4 (by simp))
    clear k1 k2 k3 k4
    go_wp2
    go_ret2
    exact ⟨rfl, unhide HK⟩
end Go.Proofs.YtdmckgcbmbhmmaaGreatDoor
namespace Go.Proofs.YtdmckgcbmbhmmaaGreatDoor
open Go.RowKit

theorem results_row_tmp {P : Program} {fn : Func} {p u : Tmp} {ty : TypeId} (h : fn.results = #[.cell p ty, .tmp u]) (tmps : Array Value) (w : World) (g : Nat) (t : TypeId) (cs : Array Value) (fr : Nat × Nat) (d : TypeDesc)
    (hp : tmps.getD p undef = .pointer (some ⟨g, 0, none⟩)) (hg : w.heap[g]? = some (.cells cs t fr))
    (hu : P.underlying ty = some d) (hd : (match d with | .struct _ | .array _ _ => true | _ => false) = true) (hi : (P.info? ty).map (·.size) = some cs.size) :
    (results fn tmps).run P w = .ok (.tuple #[.agg cs, tmps.getD u undef]) w := by
  rw [results_cell_tmp h, hp]
  simp [asAddr, run_loadVar_row w g t ty cs fr d hg hu hd hi]
end Go.Proofs.YtdmckgcbmbhmmaaGreatDoor
namespace Go.Proofs.YtdmckgcbmbhmmaaGreatDoor
open Go.RowKit

theorem TabW.kp' {w w' : World} (h : TabW w) (hk : Kp [] w w') : TabW w' := h.below (hk.below (Nat.le_refl _) (by simp)) h.1
theorem rdS_small {d : Dk} (h : Inv d) (n : ByteArray) : (d.rdS n).size ≤ 262144 := by
  have h1 := hasF_le (fs := d.now) n
  have h2 := h.now.1.1
  unfold Dk.rdS
  split
  · show (List.toArray _).size ≤ _
    rw [List.size_toArray]; omega
  · exact Nat.zero_le _
set_option maxHeartbeats 1000000 in
set_option maxRecDepth 100000 in
theorem readFr_any {w0 w : World} {p : Nat} {d : Dk} (h : OwnD w0 w p d) (hT : TabW w0) (n : ByteArray) (hn : n.size ≤ 9223372036854775807) :
    Calls Tryz.prog 25 #[.pointer (some ⟨p, 0, none⟩), .string n] w fun e w' => e = .returned (.tuple #[.string (d.oneS n), .int .i64 (d.oneE n)]) ∧ Kp [] w w' := by
  have RD := hide (h.read n hn)
  have hT1 := hT.kp' h.bel
  have hsz := rdS_small h.inv n
  have UF := hide (unframe_any (d.rdS n) 0 w (by omega) hT1)
  by_cases hr : d.rdE n = 0
  · have e1 : d.oneE n = if (d.oneR n).2.2.2 = 0 ∧ (d.oneR n).2.1 = ((d.rdS n).size : Int) then 0 else 40 := if_pos hr
    have e2 : d.oneS n = if d.oneE n = 0 then ⟨(d.oneR n).1.toArray⟩ else ⟨#[]⟩ := rfl
    rw [e1] at e2
    have e3 : unfS (d.rdS n).data.toList 0 = d.oneR n := rfl
    rw [e3] at UF
    rw [hr] at RD
    rw [e1, e2]
    clear h hT hT1 hr e1 e2 e3
    generalize d.rdS n = b at *
    generalize d.oneR n = R at *
    obtain ⟨body, en, at_, code⟩ := R
    dsimp only at UF ⊢
    by_cases hc : code = 0
    · subst hc
      by_cases he : en = (b.size : Int)
      · subst he
        have q : (if (0 : Int) = 0 ∧ (b.size : Int) = (b.size : Int) then (0 : Int) else 40) = 0 := if_pos ⟨rfl, rfl⟩
        rw [q, if_pos rfl]
        go_enter Tryz.func25, Tryz.ntmps25
        go_wp2_with fail
        refine (unhide RD).mono ?_
        rintro e w1 ⟨rfl, rfl⟩
        go_wp2_with fail
        refine (unhide UF).mono ?_
        rintro e w2 ⟨rfl, hb⟩
        have HK := hide ((Kp.ofBelow hb).trans (Kp.alloc w2 (.cells #[.int .i64 at_, .int .i64 0] 100)) (by simp))
        have hcell := (CBox.new w2 #[.int .i64 at_, .int .i64 0] 100).cell (i := 1) (v := .int .i64 0) rfl
        clear hb
        go_wp2
        go_ret2
        exact ⟨rfl, unhide HK⟩
      · have hne : (en != (b.size : Int)) = true := by rw [bne_iff_ne]; exact he
        have q : (if (0 : Int) = 0 ∧ en = (b.size : Int) then (0 : Int) else 40) = 40 := if_neg (fun h => he h.2)
        rw [q, if_neg (by decide)]
        go_enter Tryz.func25, Tryz.ntmps25
        go_wp2_with fail
        refine (unhide RD).mono ?_
        rintro e w1 ⟨rfl, rfl⟩
        go_wp2_with fail
        refine (unhide UF).mono ?_
        rintro e w2 ⟨rfl, hb⟩
        have HK := hide ((Kp.ofBelow hb).trans (Kp.alloc w2 (.cells #[.int .i64 at_, .int .i64 0] 100)) (by simp))
        have hcell := (CBox.new w2 #[.int .i64 at_, .int .i64 0] 100).cell (i := 1) (v := .int .i64 0) rfl
        clear hb
        go_wp2
        go_ret2
        exact ⟨rfl, unhide HK⟩
    · have hne : (code != 0) = true := by rw [bne_iff_ne]; exact hc
      have q : (if code = 0 ∧ en = (b.size : Int) then (0 : Int) else 40) = 40 := if_neg (fun h => hc h.1)
      rw [q, if_neg (by decide)]
      go_enter Tryz.func25, Tryz.ntmps25
      go_wp2_with fail
      refine (unhide RD).mono ?_
      rintro e w1 ⟨rfl, rfl⟩
      go_wp2_with fail
      refine (unhide UF).mono ?_
      rintro e w2 ⟨rfl, hb⟩
      have HK := hide ((Kp.ofBelow hb).trans (Kp.alloc w2 (.cells #[.int .i64 at_, .int .i64 code] 100)) (by simp))
      have hcell := (CBox.new w2 #[.int .i64 at_, .int .i64 code] 100).cell (i := 1) (v := .int .i64 code) rfl
      clear hb
      go_wp2
      all_goals go_ret2
      all_goals exact ⟨rfl, unhide HK⟩
  · have e1 : d.oneE n = d.rdE n := if_neg hr
    have e2 : d.oneS n = ⟨#[]⟩ := if_neg (by rw [e1]; exact hr)
    have hne : (d.rdE n != 0) = true := by rw [bne_iff_ne]; exact hr
    rw [e1, e2]
    clear h hT hT1 e1 e2 UF
    generalize d.rdE n = E at *
    go_enter Tryz.func25, Tryz.ntmps25
    go_wp2_with fail
    refine (unhide RD).mono ?_
    rintro e w1 ⟨rfl, rfl⟩
    go_wp2
    all_goals go_ret2
    all_goals exact ⟨rfl, Kp.refl _ _⟩
end Go.Proofs.YtdmckgcbmbhmmaaGreatDoor
