/-
  DiskBytes: bytes that are written over one another are the last that were written: the law returns true, whatever the acts.
-/
import Derived.Test.YtpbmkbfcnhekoaaDkBy
namespace Go.Proofs.Ytpbmkbfcnhekoaa
open Go.RowKit

theorem one_cellB (W : World) (a : Value) (t : TypeId) : ∀ j u, [a][j]? = some u → (W.alloc (.cells #[a] t)).cell? ((⟨W.heap.size, 0, none⟩ : Addr).add j) = some u := by
  intro j u hj
  have hb := CBox.new W #[a] t
  rw [Go.WideShapes.add_plain, Nat.zero_add]
  exact hb.cell (by simpa using hj)
set_option maxHeartbeats 8000000 in
set_option maxRecDepth 100000 in
theorem bytes_walk (ad : Option Addr) (cap : Nat) (l : List Ac) (xk : Int) (w : World) (hl : l.length ≤ 9223372036854775807) (hA : ActsAt w ad l) (hok : ∀ y ∈ l, y.ok) :
    Calls Try.prog 8 #[.slice ad l.length cap, .int .i64 xk] w fun e w' => e = .returned (.bool true) ∧ Below w.heap.size w w' := by
  have HA := hide hA
  have HOK := hide hok
  have WK := hide works_any
  obtain ⟨i0, hi, hz0, hz1, hz2⟩ := info_parts info_u8
  clear hA hok
  go_enter Try.func8, Try.ntmps8
  go_wp2_with fail
  refine (new_any _).mono ?_
  rintro e w1 ⟨p, F, rfl, hd, hkF, hF⟩
  go_wp2_with fail
  refine (unhide WK w1).mono ?_
  rintro e w2 ⟨rfl, hk2⟩
  have t2 : OwnB w w2 p Dk.new (.slice none 0 0) [] := ⟨F, hd.kp hk2 (by simp), hkF.trans hk2 (by simp), hF, Row.nil _, fun k hk => by simp [Value.ownBlock] at hk⟩
  have T2 := hide t2
  have HB := hide By.new
  clear t2 hd hkF hF hk2
  generalize Dk.new = d0 at *
  go_wp2
  go_loopw [7, 6, 8, 9, 10, 11, 12] (fun i o _ _ _ _ _ wr => ∃ (k : Nat) (ov : Value) (d : Dk) (bs : List UInt8), k ≤ l.length ∧ k ≤ 60 ∧ i = .int .i64 (k : Int) ∧ ov = o ∧ OwnB w wr p d ov bs ∧ Hid (By d bs k)) (fun i _ _ _ _ _ _ _ => l.length - (intOf i).toNat)
  case atStart => exact ⟨0, _, _, _, by omega, by omega, rfl, rfl, unhide T2, HB⟩
  case round =>
    clear T2 HB
    obtain ⟨k, ov, d, bs, hk, hk60, rfl, rfl, ow, HB⟩ := hrel
    have hbl := (unhide HB).len
    obtain ⟨av, cv, rfl, hvc, hvm⟩ := ow.row.form
    unfold maxLen at hvm
    have hfin : k < l.length ∧ k < 60 ∨ ¬ (k < l.length ∧ k < 60) := Classical.em _
    rcases hfin with ⟨hlt, h60⟩ | hend
    · have hli : (k : Int) < (l.length : Int) := by omega
      have h60i : (k : Int) < 60 := by omega
      have hA' := (unhide HA).kp ow.own.bel
      obtain ⟨b, off, rfl, hbw, hc⟩ := hA' (fun e => by rw [e] at hlt; simp at hlt)
      have hy := unhide HOK l[k] (List.getElem_mem hlt)
      obtain ⟨_, _, hcs, hcp, _⟩ := hc k hlt
      obtain ⟨⟨b1, b2⟩, b3, b4, ⟨b5, b6⟩, b7, b8⟩ := hy
      obtain ⟨ac, hac⟩ : ∃ ac, l[k] = ac := ⟨_, rfl⟩
      rw [hac] at hcs hcp b4 b5 b6
      clear hac hc hA' b1 b2 b3 b7 b8
      obtain ⟨kind, nm, s, pos, n⟩ := ac
      dsimp only at hcs hcp b4 b5 b6
      have OW := hide ow
      clear ow
      by_cases h200 : 200 < s.size
      · have h2i : (200 : Int) < (s.size : Int) := by omega
        go_wp2
        go_roundw
        case rel => exact ⟨k + 1, _, _, _, by omega, by omega, by go_num, rfl, unhide OW, hide (unhide HB).skip⟩
        case measure => simp [intOf]; omega
      · have h2i : ¬ ((200 : Int) < (s.size : Int)) := by omega
        have hv0 : (0 : Int) < ((bs.length : Nat) : Int) + 1 := by omega
        have r0 := Int.emod_nonneg pos (by omega : ((bs.length : Nat) : Int) + 1 ≠ 0)
        have r1 := Int.emod_lt_of_pos pos hv0
        obtain ⟨m, hm⟩ : ∃ m : Nat, pos % (((bs.length : Nat) : Int) + 1) = (m : Int) := ⟨(pos % (((bs.length : Nat) : Int) + 1)).toNat, by omega⟩
        rw [hm] at r0 r1
        have hml : m ≤ bs.length := by omega
        have am := fun W => among_any pos (((bs.length : Nat) : Int) + 1) W hv0 (by omega)
        rw [hm] at am
        obtain ⟨q1, q2, q3⟩ := (unhide HB).write h60 m hml s (by omega)
        have HW := hide (fun (W : World) (h : OwnB w W p d (.slice av bs.length cv) bs) => h.step fun F hd => write_any ⟨#[97]⟩ (m : Int) s p d F W hd (by decide) (by omega) (by omega) b4)
        rw [q1] at HW
        obtain ⟨q4, q5⟩ := q2.read q3
        have hovl := over_len bs m s.data.toList hml
        have HB2 := hide q2
        clear q1 q2 q3 hm r0
        generalize (d.wrD ⟨#[97]⟩ (m : Int) s) = d' at *
        have AM := hide am
        clear am
        have HRD : Hid (∀ W v, OwnB w W p d' v (over bs m s.data.toList) → Calls Try.prog 21 #[.pointer (some ⟨p, 0, none⟩), .string ⟨#[97]⟩] W fun e w' => e = .returned (.tuple #[.string ⟨(over bs m s.data.toList).toArray⟩, .int .i64 0]) ∧ w' = W) := hide (fun W v h => by
          have := h.own.read ⟨#[97]⟩ (by decide)
          rw [q4, q5] at this; exact this)
        clear q4 q5
        go_wp2_with fail
        refine (unhide AM _).mono ?_
        rintro e w5 ⟨rfl, rfl⟩
        go_wp2_with fail
        refine (unhide HW _ (unhide OW)).mono ?_
        rintro e w6 ⟨rfl, o6⟩
        clear OW HW AM HB
        go_wp2
        go_loopw [56, 6, 10] (fun i o _ wr => ∃ (j : Nat) (ov : Value), j ≤ s.size ∧ i = .int .i64 (j : Int) ∧ ov = o ∧ OwnB w wr p d' ov (over bs m (s.data.toList.take j))) (fun i _ _ _ => s.size - (intOf i).toNat)
        case atStart => exact ⟨0, _, by omega, rfl, rfl, by rw [List.take_zero, over_zero]; exact o6⟩
        case round =>
          clear o6
          obtain ⟨j, ov, hj, rfl, rfl, o7⟩ := hrel
          have hsz : s.data.toList.length = s.size := Array.length_toList
          have htl : (s.data.toList.take j).length = j := by rw [List.length_take]; omega
          have hcl : (over bs m (s.data.toList.take j)).length = max bs.length (m + j) := by rw [over_len bs m _ hml, htl]
          by_cases hjl : j < s.size
          · have hji : (j : Int) < (s.size : Int) := by omega
            by_cases hin : m + j < bs.length
            · have hov := over_set bs s.data.toList m j (by omega) hin
              have hsj : s.data.toList[j]'(by omega) = s[j] := rfl
              rw [hsj] at hov
              have hlb : (over bs m (s.data.toList.take j)).length = bs.length := by omega
              obtain ⟨g, cg, rfl⟩ : ∃ g cg, ov = .slice (some ⟨g, 0, none⟩) bs.length cg := by
                obtain ⟨_, ⟨rfl, h0⟩ | ⟨g, cg, cur, rfl, _⟩⟩ := o7.row
                · omega
                · exact ⟨g, cg, by rw [hlb]⟩
              have hrow := o7.row
              unfold Row at hrow
              rw [hlb] at hrow
              obtain ⟨cx, hcx⟩ : ∃ cx, wr.cell? ⟨g, m + j, none⟩ = some cx := by
                rw [World.ownsRow.cellAt hrow (m + j) (by omega)]
                exact ⟨_, List.getElem?_eq_getElem (by rw [byteC_length]; omega)⟩
              have hfz := World.ownsRow.frozenAt hrow (m + j)
              have o8 := o7.stored hlb.symm (m + j) s[j]
              rw [hov] at o8
              have O8 := hide o8
              have hmi : (m : Int) + (j : Int) < ((bs.length : Nat) : Int) := by omega
              clear o7 o8 hrow hov hlb hcl htl hsj hsz
              go_wp2
              go_roundw
              case rel => exact ⟨j + 1, _, by omega, by go_num, rfl, unhide O8⟩
              case measure => simp [intOf]; omega
            · have hov := over_app bs s.data.toList m j (by omega) hin
              have hsj : s.data.toList[j]'(by omega) = s[j] := rfl
              rw [hsj] at hov
              have hlb : (over bs m (s.data.toList.take j)).length = m + j := by omega
              obtain ⟨g, cg, rfl⟩ : ∃ g cg, ov = .slice g (m + j) cg := by
                obtain ⟨ag, cg, e, _⟩ := o7.row.form
                exact ⟨ag, cg, by rw [e, hlb]⟩
              have hrow := o7.row
              unfold Row at hrow
              have HOV := hide hov
              have O7 := hide o7
              have hmi : ¬ ((m : Int) + (j : Int) < ((m + j : Nat) : Int)) := by omega
              clear o7 hov hcl htl hsj hsz
              generalize over bs m (s.data.toList.take j) = CU at *
              go_wp2_with (at_builtin; refine wpList_append_lies _ rfl _ _ 56 rfl 0 5 i0 (.int .u8 0) 1 1 Try.underlying56 hi hz0 hz1 hz2 rfl (by decide) (.slice g (m + j) cg) CU.length (byteC CU) rfl (hrow.alloc _) ⟨wr.heap.size, 0, none⟩ 1 1 [.int .u8 (s[j].toNat : Int)] rfl rfl (one_cellB _ _ _) (by intro u hu; simp at hu; subst hu; rfl) (by omega) (by unfold maxLen; omega) (by omega) (by simp) _ rfl ?_; intro g3 cap3 w10 hown' hgrow hat3 hlt3; have HAT := hide hat3; clear hat3)
              have o8 := (unhide O7).pushed hown' hgrow (unhide HAT)
              rw [unhide HOV, hlb] at o8
              have O8 := hide o8
              clear o8 hown' hgrow HAT hlt3 O7 HOV hrow
              go_wp2
              go_roundw
              case rel => exact ⟨j + 1, _, by omega, by go_num, rfl, unhide O8⟩
              case measure => simp [intOf]; omega
          · obtain rfl : j = s.size := by omega
            rw [← hsz, List.take_length] at o7
            have hstr := o7.row.string
            have RD := hide (unhide HRD wr ov o7)
            have O7 := hide o7
            clear hcl htl hsz hovl HRD o7
            generalize over bs m s.data.toList = OB at *
            go_wp2_with fail
            refine (unhide RD).mono ?_
            rintro e w9 ⟨rfl, rfl⟩
            go_wp2
            go_roundw
            case rel => exact ⟨k + 1, _, _, _, by omega, by omega, by go_num, rfl, unhide O7, HB2⟩
            case measure => simp [intOf]; omega
    · by_cases hlt : k < l.length
      · have h60i : ¬ ((k : Int) < 60) := by omega
        have hli : (k : Int) < (l.length : Int) := by omega
        have hl0 : ¬ (l.length = 0) := by omega
        clear hend
        have hbel : Below w.heap.size w wr := ow.own.bel.below (Nat.le_refl _) (by simp)
        have hwt := ow.own.waiting
        have hl0i : ¬ ((l.length : Int) = 0) := by omega
        have hle : l ≠ [] := fun e => hl0 (by rw [e]; rfl)
        by_cases hw : d.wait = []
        · rw [hw] at hwt
          have WT := hide hwt
          clear hwt ow HB hw
          go_wp2_with fail
          refine (unhide WT).mono ?_
          rintro e w5 ⟨rfl, rfl⟩
          go_wp2
          go_ret
          exact ⟨rfl, hbel⟩
        · have hwn : d.wait.length ≠ 0 := fun e => hw (List.eq_nil_of_length_eq_zero e)
          have hv0 : (0 : Int) < ((bs.length : Nat) : Int) + 1 := by omega
          have r0 := Int.emod_nonneg xk (by omega : ((bs.length : Nat) : Int) + 1 ≠ 0)
          have r1 := Int.emod_lt_of_pos xk hv0
          obtain ⟨m, hm⟩ : ∃ m : Nat, xk % (((bs.length : Nat) : Int) + 1) = (m : Int) := ⟨(xk % (((bs.length : Nat) : Int) + 1)).toNat, by omega⟩
          rw [hm] at r0 r1
          have hml : m ≤ bs.length := by omega
          have am := fun W => among_any xk (((bs.length : Nat) : Int) + 1) W hv0 (by omega)
          rw [hm] at am
          obtain ⟨q1, q4, q5⟩ := (unhide HB).cut hw hk60 m hml
          have HW := hide (fun (W : World) (h : OwnB w W p d (.slice av bs.length cv) bs) => h.step fun F hd => cut_any ⟨#[97]⟩ (m : Int) p d F W hd (by decide) (by omega) (by omega))
          rw [q1] at HW
          have hsl : ∀ W, (Instr.slice 56 (.slice av bs.length cv) none (some (.int .i64 (m : Int))) none).run Try.prog W = .ok (.slice av m cv) W := fun W => runTo ow.row m hml W
          clear hm r0 q1
          generalize (d.ctD ⟨#[97]⟩ (m : Int)) = d' at *
          have HRD : Hid (∀ W, OwnB w W p d' (.slice av bs.length cv) bs → Calls Try.prog 21 #[.pointer (some ⟨p, 0, none⟩), .string ⟨#[97]⟩] W fun e w' => e = .returned (.tuple #[.string ⟨(bs.take m).toArray⟩, .int .i64 0]) ∧ w' = W) := hide (fun W h => by
            have := h.own.read ⟨#[97]⟩ (by decide)
            rw [q4, q5] at this; exact this)
          have AM := hide am
          have WT := hide hwt
          have OW := hide ow
          have HSL := hide hsl
          clear am q4 q5 hwt ow hbel hw HB hsl
          generalize d.wait.length = WL at *
          have hwi : ¬ ((WL : Int) = 0) := by omega
          have hwb : (((WL : Nat) : Int) == 0) = false := beq_eq_false_iff_ne.2 hwi
          have hlb : (((l.length : Nat) : Int) == 0) = false := beq_eq_false_iff_ne.2 hl0i
          go_wp2_with fail
          refine (unhide WT).mono ?_
          rintro e w5 ⟨rfl, rfl⟩
          go_wp2_with fail
          refine (unhide AM _).mono ?_
          rintro e w6 ⟨rfl, rfl⟩
          go_wp2_with fail
          refine (unhide HW _ (unhide OW)).mono ?_
          rintro e w7 ⟨rfl, o7⟩
          have hcv : (convert 56 9 (.slice av m cv)).run Try.prog w7 = .ok (.string ⟨(bs.take m).toArray⟩) w7 := o7.row.stringTo m hml
          have hsl := unhide HSL
          have RD := hide (unhide HRD w7 o7)
          have hfin : Below w.heap.size w w7 := o7.own.bel.below (Nat.le_refl _) (by simp)
          clear o7 HSL HRD HW OW AM WT
          generalize (⟨(bs.take m).toArray⟩ : ByteArray) = RS at *
          go_wp2_with fail
          refine (unhide RD).mono ?_
          rintro e w8 ⟨rfl, rfl⟩
          go_wp2
          go_ret
          exact ⟨rfl, hfin⟩
      · have hli : ¬ ((k : Int) < (l.length : Int)) := by omega
        clear hend
        by_cases hl0 : l.length = 0
        · have hbel : Below w.heap.size w wr := ow.own.bel.below (Nat.le_refl _) (by simp)
          obtain rfl : l = [] := List.eq_nil_of_length_eq_zero hl0
          clear ow HB
          go_wp2
          go_ret
          exact ⟨rfl, hbel⟩
        · skip
          have hbel : Below w.heap.size w wr := ow.own.bel.below (Nat.le_refl _) (by simp)
          have hwt := ow.own.waiting
          have hl0i : ¬ ((l.length : Int) = 0) := by omega
          have hle : l ≠ [] := fun e => hl0 (by rw [e]; rfl)
          by_cases hw : d.wait = []
          · rw [hw] at hwt
            have WT := hide hwt
            clear hwt ow HB hw
            go_wp2_with fail
            refine (unhide WT).mono ?_
            rintro e w5 ⟨rfl, rfl⟩
            go_wp2
            go_ret
            exact ⟨rfl, hbel⟩
          · have hwn : d.wait.length ≠ 0 := fun e => hw (List.eq_nil_of_length_eq_zero e)
            have hv0 : (0 : Int) < ((bs.length : Nat) : Int) + 1 := by omega
            have r0 := Int.emod_nonneg xk (by omega : ((bs.length : Nat) : Int) + 1 ≠ 0)
            have r1 := Int.emod_lt_of_pos xk hv0
            obtain ⟨m, hm⟩ : ∃ m : Nat, xk % (((bs.length : Nat) : Int) + 1) = (m : Int) := ⟨(xk % (((bs.length : Nat) : Int) + 1)).toNat, by omega⟩
            rw [hm] at r0 r1
            have hml : m ≤ bs.length := by omega
            have am := fun W => among_any xk (((bs.length : Nat) : Int) + 1) W hv0 (by omega)
            rw [hm] at am
            obtain ⟨q1, q4, q5⟩ := (unhide HB).cut hw hk60 m hml
            have HW := hide (fun (W : World) (h : OwnB w W p d (.slice av bs.length cv) bs) => h.step fun F hd => cut_any ⟨#[97]⟩ (m : Int) p d F W hd (by decide) (by omega) (by omega))
            rw [q1] at HW
            have hsl : ∀ W, (Instr.slice 56 (.slice av bs.length cv) none (some (.int .i64 (m : Int))) none).run Try.prog W = .ok (.slice av m cv) W := fun W => runTo ow.row m hml W
            clear hm r0 q1
            generalize (d.ctD ⟨#[97]⟩ (m : Int)) = d' at *
            have HRD : Hid (∀ W, OwnB w W p d' (.slice av bs.length cv) bs → Calls Try.prog 21 #[.pointer (some ⟨p, 0, none⟩), .string ⟨#[97]⟩] W fun e w' => e = .returned (.tuple #[.string ⟨(bs.take m).toArray⟩, .int .i64 0]) ∧ w' = W) := hide (fun W h => by
              have := h.own.read ⟨#[97]⟩ (by decide)
              rw [q4, q5] at this; exact this)
            have AM := hide am
            have WT := hide hwt
            have OW := hide ow
            have HSL := hide hsl
            clear am q4 q5 hwt ow hbel hw HB hsl
            generalize d.wait.length = WL at *
            have hwi : ¬ ((WL : Int) = 0) := by omega
            have hwb : (((WL : Nat) : Int) == 0) = false := beq_eq_false_iff_ne.2 hwi
            have hlb : (((l.length : Nat) : Int) == 0) = false := beq_eq_false_iff_ne.2 hl0i
            go_wp2_with fail
            refine (unhide WT).mono ?_
            rintro e w5 ⟨rfl, rfl⟩
            go_wp2_with fail
            refine (unhide AM _).mono ?_
            rintro e w6 ⟨rfl, rfl⟩
            go_wp2_with fail
            refine (unhide HW _ (unhide OW)).mono ?_
            rintro e w7 ⟨rfl, o7⟩
            have hcv : (convert 56 9 (.slice av m cv)).run Try.prog w7 = .ok (.string ⟨(bs.take m).toArray⟩) w7 := o7.row.stringTo m hml
            have hsl := unhide HSL
            have RD := hide (unhide HRD w7 o7)
            have hfin : Below w.heap.size w w7 := o7.own.bel.below (Nat.le_refl _) (by simp)
            clear o7 HSL HRD HW OW AM WT
            generalize (⟨(bs.take m).toArray⟩ : ByteArray) = RS at *
            go_wp2_with fail
            refine (unhide RD).mono ?_
            rintro e w8 ⟨rfl, rfl⟩
            go_wp2
            go_ret
            exact ⟨rfl, hfin⟩
end Go.Proofs.Ytpbmkbfcnhekoaa
