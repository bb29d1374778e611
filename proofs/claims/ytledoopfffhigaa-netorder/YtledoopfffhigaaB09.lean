/-
  NetOrder: the walk.
  A slice of numbers that comes in as an argument: its numbers lie where it says.
  NetOrder is proved: for every texts and numbers the law NetOrder returns true (what is taken in order, with nothing lost or copied, is what was sent, in order), and its arguments read behind the call as before. No condition.
-/
import Derived.Test.YtledoopfffhigaaB08
import Derived.ProofKit
import Derived.OpenShut
import Derived.Deep.Slices
import Derived.Test.YtledoopfffhigaaRows
import Derived.Deep.DeepHandedRow
import Derived.Lib.LaidTab
namespace Go.Proofs.Ytledoopfffhigaa
open Go.RowKit Nt

/-- What is on its way: of the first n texts those behind the first a. -/
structure Qu (l : List ByteArray) (s : St) (a n : Nat) : Prop where
  ws : s.ws = [[], ((l.take n).drop a).map fun y => ⟨0, y⟩]
theorem Qu.start (l : List ByteArray) : Qu l (new 2) 0 0 := ⟨by unfold new; simp⟩
theorem Qu.has0 {l : List ByteArray} {s : St} {a n : Nat} (h : Qu l s a n) : hasN s.ws.length 0 = true := by rw [h.ws]; rfl
theorem Qu.has1 {l : List ByteArray} {s : St} {a n : Nat} (h : Qu l s a n) : hasN s.ws.length 1 = true := by rw [h.ws]; rfl
theorem Qu.row1 {l : List ByteArray} {s : St} {a n : Nat} (h : Qu l s a n) : row s 1 = ((l.take n).drop a).map fun y => (⟨0, y⟩ : Pk) := by unfold row; rw [h.ws]; rfl
theorem Qu.send {l : List ByteArray} {s : St} {a n : Nat} (h : Qu l s a n) (ha : a ≤ n) (hn : n < l.length) (h100 : n < 100) (hx : (l[n]).size ≤ 1000) : seE s 0 1 l[n] = 0 ∧ Qu l (seS s 0 1 l[n]) a (n + 1) := by
  have he : seE s 0 1 l[n] = 0 := by
    unfold seE
    rw [h.has0, h.has1, h.row1, List.length_map, List.length_drop, List.length_take]
    simp only [Bool.and_self, if_true]
    rw [if_neg (by omega)]
  refine ⟨he, ?_⟩
  unfold seS
  rw [if_pos he]
  refine ⟨?_⟩
  unfold put
  rw [h.row1, h.ws, List.take_succ_eq_append_getElem hn, List.drop_append_of_le_length (by rw [List.length_take]; omega), List.map_append]
  rfl
theorem Qu.take {l : List ByteArray} {s : St} {a n : Nat} (h : Qu l s a n) (ha : a < n) (hl : a < l.length) : fiE s 1 0 = 0 ∧ taF s 1 0 = 0 ∧ taB s 1 0 = l[a] ∧ Qu l (off s 1 0 3) (a + 1) n := by
  have hlt : a < (l.take n).length := by rw [List.length_take]; omega
  have hr : row s 1 = ⟨0, l[a]⟩ :: ((l.take n).drop (a + 1)).map fun y => (⟨0, y⟩ : Pk) := by
    rw [h.row1, List.drop_eq_getElem_cons hlt, List.map_cons, List.getElem_take]
  have hf : fiE s 1 0 = 0 := by
    unfold fiE
    rw [h.has1, hr, if_pos rfl, if_pos (hasN_iff.2 ⟨Int.le_refl 0, by rw [List.length_cons]; omega⟩)]
  refine ⟨hf, by unfold taF nth; rw [if_pos hf, hr]; rfl, by unfold taB nth; rw [if_pos hf, hr]; rfl, ⟨?_⟩⟩
  unfold off
  rw [if_pos hf]
  unfold put
  rw [hr, h.ws]
  rfl
theorem Qu.none {l : List ByteArray} {s : St} {a : Nat} (h : Qu l s a a) : fiE s 1 0 = 5 := by
  unfold fiE
  rw [h.has1, h.row1, List.drop_of_length_le (by rw [List.length_take]; omega)]
  rfl
theorem strs_cell {w W : World} {ad : Option Addr} {l : List ByteArray} (h : StrsAt w ad l) (hb : Below w.heap.size w W) (i : Nat) (hi : i < l.length) : ∃ b o, ad = some ⟨b, o, none⟩ ∧ W.cell? ⟨b, o + i, none⟩ = some (.string l[i]) := by
  obtain ⟨b, o, e, hlt, hc⟩ := h (by intro e; rw [e] at hi; cases hi)
  exact ⟨b, o, e, (hb.cell (p := ⟨b, o + i, none⟩) hlt).trans (hc i hi)⟩
theorem ints_cell {w W : World} {ad : Option Addr} {l : List Int} (h : IntsAt w ad l) (hb : Below w.heap.size w W) (i : Nat) (hi : i < l.length) : ∃ b o, ad = some ⟨b, o, none⟩ ∧ W.cell? ⟨b, o + i, none⟩ = some (.int .i64 l[i]) := by
  obtain ⟨b, o, e, hlt, hc⟩ := h (by intro e; rw [e] at hi; cases hi)
  exact ⟨b, o, e, (hb.cell (p := ⟨b, o + i, none⟩) hlt).trans (hc i hi)⟩
set_option maxHeartbeats 8000000 in
set_option maxRecDepth 100000 in
theorem norder_walk (ad : Option Addr) (cap : Nat) (l : List ByteArray) (ad2 : Option Addr) (cap2 : Nat) (l2 : List Int) (w : World) (hl : l.length ≤ 9223372036854775807) (hA : StrsAt w ad l) (hok : ∀ y ∈ l, y.size ≤ 9223372036854775807) (_hl2 : l2.length ≤ 9223372036854775807) (hA2 : IntsAt w ad2 l2) (_hok2 : ∀ y ∈ l2, -9223372036854775808 ≤ y ∧ y ≤ 9223372036854775807) :
    Calls Try.prog 6 #[.slice ad l.length cap, .slice ad2 l2.length cap2] w fun e w' => e = .returned (.bool true) ∧ Below w.heap.size w w' := by
  have NW := hide (nnew_ok 2 (by decide) (by decide) w)
  have WK := hide nworks_any
  have AM := hide (fun x W => nAmong_any x 3 W (by decide) (by decide))
  have HL := hide hA
  have HL2 := hide hA2
  have HOK := hide hok
  clear hA hA2 hok
  go_enter Try.func6, Try.ntmps6
  go_wp2_with fail
  refine (unhide NW).mono ?_
  rintro r w1 ⟨b, rfl, h1, k1⟩
  have H1 := hide h1
  have K1 : Hid (Ks w.heap.size ntT w w1) := hide (Ks.nil k1)
  clear NW h1 k1
  go_wp2_with fail
  refine (unhide WK _).mono ?_
  rintro r w2 ⟨rfl, k2⟩
  have H2 : Hid (NtAt w.heap.size w2 b (new 2) ∧ Ks w.heap.size ntT w w2) := hide (nt_al ⟨unhide H1, unhide K1⟩ k2)
  clear WK k2 H1 K1
  go_wp2_with fail
  go_loopw [7, 8, 9] (fun av nv iv wr => ∃ (i a : Nat) (s : St), i ≤ l.length ∧ i ≤ 100 ∧ a ≤ i ∧ av = .int .i64 (a : Int) ∧ nv = .int .i64 (i : Int) ∧ iv = .int .i64 (i : Int) ∧ Hid (Qu l s a i ∧ Ok ((i + a : Nat) : Int) s ∧ NtAt w.heap.size wr b s ∧ Ks w.heap.size ntT w wr)) (fun _ _ iv _ => l.length - (intOf iv).toNat)
  case atStart => exact ⟨0, 0, new 2, Nat.zero_le _, by decide, Nat.zero_le _, rfl, rfl, rfl, hide ⟨Qu.start l, Ok.new 2 (by decide) (by decide), unhide H2⟩⟩
  case round =>
    clear H2
    obtain ⟨i, a, s, hil, hi100, hai, rfl, rfl, rfl, HR⟩ := hrel
    by_cases h1 : i < l.length
    · have h1i : (i : Int) < (l.length : Int) := by omega
      by_cases h2 : i < 100
      · have h2i : (i : Int) < 100 := by omega
        obtain ⟨lb, lo, rfl, hc⟩ := strs_cell (unhide HL) ((unhide HR).2.2.2.below (Nat.le_refl _)) i h1
        have hsz := unhide HOK l[i] (List.getElem_mem h1)
        by_cases hbig : (l[i]).size ≤ 1000
        · obtain ⟨f1, f2⟩ := (unhide HR).1.send hai h1 h2 hbig
          have SE := hide (nsend_any _ b s 0 1 l[i] wr _ (unhide HR).2.2.1 (unhide HR).2.1 (by omega) hsz)
          rw [f1] at SE
          have HN : Hid (Qu l (seS s 0 1 l[i]) a (i + 1) ∧ Ok ((i + 1 + a : Nat) : Int) (seS s 0 1 l[i])) := hide ⟨f2, by have := (unhide HR).2.1.see 0 1 l[i]; rwa [show ((i + 1 + a : Nat) : Int) = ((i + a : Nat) : Int) + 1 by omega]⟩
          have HK := hide (unhide HR).2.2.2
          have hbz : ¬ (1000 : Int) < ((l[i]).size : Int) := by omega
          clear HR f1 f2
          generalize seS s 0 1 l[i] = s2 at *
          generalize l[i] = y at *
          go_wp2_with fail
          refine (unhide SE).mono ?_
          rintro r w5 ⟨rfl, a1, a2⟩
          have HR2 : Hid (Qu l s2 a (i + 1) ∧ Ok ((i + 1 + a : Nat) : Int) s2 ∧ NtAt w.heap.size w5 b s2 ∧ Ks w.heap.size ntT w w5) := hide ⟨(unhide HN).1, (unhide HN).2, a1, (unhide HK).trans a2⟩
          clear a1 a2 SE HN HK hc
          by_cases h3 : i < l2.length
          · have h3i : (i : Int) < (l2.length : Int) := by omega
            obtain ⟨ib, io, rfl, hc2⟩ := ints_cell (unhide HL2) ((unhide HR2).2.2.2.below (Nat.le_refl _)) i h3
            have hm0 : 0 ≤ l2[i] % 3 := Int.emod_nonneg _ (by decide)
            have hm1 : l2[i] % 3 < 3 := Int.emod_lt_of_pos _ (by decide)
            have AM1 := hide (fun W => unhide AM l2[i] W)
            clear AM
            obtain ⟨m, hm⟩ : ∃ m : Nat, l2[i] % 3 = (m : Int) := ⟨(l2[i] % 3).toNat, by omega⟩
            rw [hm] at AM1 hm0 hm1
            clear hm
            generalize l2[i] = z at *
            go_wp2_with fail
            refine (unhide AM1 _).mono ?_
            rintro r w6 ⟨rfl, rfl⟩
            clear AM1 hc2
            go_wp2_with fail
            go_loopw [7, 67] (fun av jv wr2 => ∃ (j a : Nat) (s : St), j ≤ m ∧ a ≤ i + 1 ∧ av = .int .i64 (a : Int) ∧ jv = .int .i64 (j : Int) ∧ Hid (Qu l s a (i + 1) ∧ Ok ((i + 1 + a : Nat) : Int) s ∧ NtAt w.heap.size wr2 b s ∧ Ks w.heap.size ntT w wr2)) (fun _ jv _ => m - (intOf jv).toNat)
            case atStart => exact ⟨0, a, s2, Nat.zero_le _, by omega, rfl, rfl, HR2⟩
            case round =>
              clear HR2
              obtain ⟨j, a, s, hj, hai, rfl, rfl, HR⟩ := hrel
              by_cases hjm : j < m
              · have hjmi : (j : Int) < (m : Int) := by omega
                by_cases hlt : a < i + 1
                · have hlti : (a : Int) < (i : Int) + 1 := by omega
                  have hal : a < l.length := by omega
                  obtain ⟨t1, t2, t3, t4⟩ := (unhide HR).1.take hlt hal
                  have TA := hide (ntake_any _ b s 1 0 wr _ (unhide HR).2.2.1 (unhide HR).2.1 (by omega))
                  rw [t1, t2, t3] at TA
                  have HO : Hid (Qu l (off s 1 0 3) (a + 1) (i + 1) ∧ Ok ((i + 1 + (a + 1) : Nat) : Int) (off s 1 0 3)) := hide ⟨t4, by have := (unhide HR).2.1.off 1 0 3; rwa [show ((i + 1 + (a + 1) : Nat) : Int) = ((i + 1 + a : Nat) : Int) + 1 by omega]⟩
                  have HK := hide (unhide HR).2.2.2
                  have CE := hide (fun W (hk : Ks w.heap.size ntT w W) => strs_cell (unhide HL) (hk.below (Nat.le_refl _)) a hal)
                  have hali : (a : Int) < (l.length : Int) := by omega
                  clear HR t1 t2 t3 t4
                  generalize off s 1 0 3 = s2 at *
                  generalize l[a] = y at *
                  go_wp2_with fail
                  refine (unhide TA).mono ?_
                  rintro r w5 ⟨rfl, a1, a2⟩
                  have HR2 : Hid (Qu l s2 (a + 1) (i + 1) ∧ Ok ((i + 1 + (a + 1) : Nat) : Int) s2 ∧ NtAt w.heap.size w5 b s2 ∧ Ks w.heap.size ntT w w5) := hide ⟨(unhide HO).1, (unhide HO).2, a1, (unhide HK).trans a2⟩
                  obtain ⟨lb', lo', e, c5⟩ := unhide CE w5 ((unhide HK).trans a2)
                  injection e with e
                  injection e with e1 e2
                  subst e1
                  subst e2
                  clear a1 a2 TA HO HK CE
                  go_wp2
                  go_roundw
                  case rel => exact ⟨j + 1, a + 1, s2, by omega, by omega, by go_num, by go_num, HR2⟩
                  case measure => simp [intOf]; omega
                · have hlti : ¬ (a : Int) < (i : Int) + 1 := by omega
                  go_wp2
                  go_roundw
                  case rel => exact ⟨j + 1, a, s, by omega, hai, rfl, by go_num, HR⟩
                  case measure => simp [intOf]; omega
              · have hjmi : ¬ (j : Int) < (m : Int) := by omega
                go_wp2
                go_roundw
                case rel => exact ⟨i + 1, a, s, by omega, by omega, hai, rfl, by go_num, by go_num, HR⟩
                case measure => simp [intOf]; omega
          · have h3i : ¬ (i : Int) < (l2.length : Int) := by omega
            go_wp2
            go_roundw
            case rel => exact ⟨i + 1, a, s2, by omega, by omega, by omega, rfl, by go_num, by go_num, HR2⟩
            case measure => simp [intOf]; omega
        · have hbz : (1000 : Int) < ((l[i]).size : Int) := by omega
          have HK := hide (unhide HR).2.2.2
          clear HR hsz
          generalize l[i] = y at *
          go_wp2
          go_ret
          exact ⟨rfl, (unhide HK).below (Nat.le_refl _)⟩
      · have h2i : ¬ (i : Int) < 100 := by omega
        clear h1i
        have h1i : (i : Int) < (l.length : Int) := by omega
        go_wp2_with fail
        go_loopw [7] (fun av wr2 => ∃ (a : Nat) (s : St), a ≤ i ∧ av = .int .i64 (a : Int) ∧ Hid (Qu l s a i ∧ Ok ((i + a : Nat) : Int) s ∧ NtAt w.heap.size wr2 b s ∧ Ks w.heap.size ntT w wr2)) (fun av _ => i - (intOf av).toNat)
        case atStart => exact ⟨a, s, hai, rfl, HR⟩
        case round =>
          clear HR
          obtain ⟨a, s, hai, rfl, HR⟩ := hrel
          by_cases hlt : a < i
          · have hlti : (a : Int) < (i : Int) := by omega
            have hal : a < l.length := by omega
            obtain ⟨t1, t2, t3, t4⟩ := (unhide HR).1.take hlt hal
            have TA := hide (ntake_any _ b s 1 0 wr _ (unhide HR).2.2.1 (unhide HR).2.1 (by omega))
            rw [t1, t2, t3] at TA
            have HO : Hid (Qu l (off s 1 0 3) (a + 1) i ∧ Ok ((i + (a + 1) : Nat) : Int) (off s 1 0 3)) := hide ⟨t4, by have := (unhide HR).2.1.off 1 0 3; simpa [Nat.add_assoc, Int.add_assoc] using this⟩
            have HK := hide (unhide HR).2.2.2
            have CE := hide (fun W (hk : Ks w.heap.size ntT w W) => strs_cell (unhide HL) (hk.below (Nat.le_refl _)) a hal)
            have hali : (a : Int) < (l.length : Int) := by omega
            obtain ⟨lb, lo, rfl, _, _⟩ := unhide HL (by intro e; rw [e] at hal; cases hal)
            clear HR t1 t2 t3 t4
            generalize off s 1 0 3 = s2 at *
            generalize l[a] = y at *
            go_wp2_with fail
            refine (unhide TA).mono ?_
            rintro r w5 ⟨rfl, a1, a2⟩
            have HR2 : Hid (Qu l s2 (a + 1) i ∧ Ok ((i + (a + 1) : Nat) : Int) s2 ∧ NtAt w.heap.size w5 b s2 ∧ Ks w.heap.size ntT w w5) := hide ⟨(unhide HO).1, (unhide HO).2, a1, (unhide HK).trans a2⟩
            obtain ⟨lb', lo', e, c5⟩ := unhide CE w5 ((unhide HK).trans a2)
            injection e with e
            injection e with e1 e2
            subst e1
            subst e2
            clear a1 a2 TA HO HK CE
            go_wp2
            go_roundw
            case rel => exact ⟨a + 1, s2, by omega, by go_num, HR2⟩
            case measure => simp [intOf]; omega
          · obtain rfl : a = i := by omega
            have hlti : ¬ (a : Int) < (a : Int) := by omega
            have t1 := (unhide HR).1.none
            have TA := hide (ntake_any _ b s 1 0 wr _ (unhide HR).2.2.1 (unhide HR).2.1 (by omega))
            rw [t1] at TA
            have HK := hide (unhide HR).2.2.2
            clear HR t1
            generalize taF s 1 0 = f1 at *
            generalize taB s 1 0 = f2 at *
            go_wp2_with fail
            refine (unhide TA).mono ?_
            rintro r w5 ⟨rfl, a1, a2⟩
            have HK2 := hide ((unhide HK).trans a2)
            clear a1 a2 TA HK
            go_wp2
            go_ret
            exact ⟨rfl, (unhide HK2).below (Nat.le_refl _)⟩
    · have h1i : ¬ (i : Int) < (l.length : Int) := by omega
      go_wp2_with fail
      go_loopw [7] (fun av wr2 => ∃ (a : Nat) (s : St), a ≤ i ∧ av = .int .i64 (a : Int) ∧ Hid (Qu l s a i ∧ Ok ((i + a : Nat) : Int) s ∧ NtAt w.heap.size wr2 b s ∧ Ks w.heap.size ntT w wr2)) (fun av _ => i - (intOf av).toNat)
      case atStart => exact ⟨a, s, hai, rfl, HR⟩
      case round =>
        clear HR
        obtain ⟨a, s, hai, rfl, HR⟩ := hrel
        by_cases hlt : a < i
        · have hlti : (a : Int) < (i : Int) := by omega
          have hal : a < l.length := by omega
          obtain ⟨t1, t2, t3, t4⟩ := (unhide HR).1.take hlt hal
          have TA := hide (ntake_any _ b s 1 0 wr _ (unhide HR).2.2.1 (unhide HR).2.1 (by omega))
          rw [t1, t2, t3] at TA
          have HO : Hid (Qu l (off s 1 0 3) (a + 1) i ∧ Ok ((i + (a + 1) : Nat) : Int) (off s 1 0 3)) := hide ⟨t4, by have := (unhide HR).2.1.off 1 0 3; simpa [Nat.add_assoc, Int.add_assoc] using this⟩
          have HK := hide (unhide HR).2.2.2
          have CE := hide (fun W (hk : Ks w.heap.size ntT w W) => strs_cell (unhide HL) (hk.below (Nat.le_refl _)) a hal)
          have hali : (a : Int) < (l.length : Int) := by omega
          obtain ⟨lb, lo, rfl, _, _⟩ := unhide HL (by intro e; rw [e] at hal; cases hal)
          clear HR t1 t2 t3 t4
          generalize off s 1 0 3 = s2 at *
          generalize l[a] = y at *
          go_wp2_with fail
          refine (unhide TA).mono ?_
          rintro r w5 ⟨rfl, a1, a2⟩
          have HR2 : Hid (Qu l s2 (a + 1) i ∧ Ok ((i + (a + 1) : Nat) : Int) s2 ∧ NtAt w.heap.size w5 b s2 ∧ Ks w.heap.size ntT w w5) := hide ⟨(unhide HO).1, (unhide HO).2, a1, (unhide HK).trans a2⟩
          obtain ⟨lb', lo', e, c5⟩ := unhide CE w5 ((unhide HK).trans a2)
          injection e with e
          injection e with e1 e2
          subst e1
          subst e2
          clear a1 a2 TA HO HK CE
          go_wp2
          go_roundw
          case rel => exact ⟨a + 1, s2, by omega, by go_num, HR2⟩
          case measure => simp [intOf]; omega
        · obtain rfl : a = i := by omega
          have hlti : ¬ (a : Int) < (a : Int) := by omega
          have t1 := (unhide HR).1.none
          have TA := hide (ntake_any _ b s 1 0 wr _ (unhide HR).2.2.1 (unhide HR).2.1 (by omega))
          rw [t1] at TA
          have HK := hide (unhide HR).2.2.2
          clear HR t1
          generalize taF s 1 0 = f1 at *
          generalize taB s 1 0 = f2 at *
          go_wp2_with fail
          refine (unhide TA).mono ?_
          rintro r w5 ⟨rfl, a1, a2⟩
          have HK2 := hide ((unhide HK).trans a2)
          clear a1 a2 TA HK
          go_wp2
          go_ret
          exact ⟨rfl, (unhide HK2).below (Nat.le_refl _)⟩
end Go.Proofs.Ytledoopfffhigaa
namespace Go.Proofs.Ytledoopfffhigaa
open Go.RowKit Go.Deep

theorem cells_int : Try.prog.cellsOf 3 = 1 := by kernel_rfl
section
variable {H : Type} {enc : TypeId × Value → H} {W : World} {spare : Nat → Bool} {held : Bool} {fuel : Nat} {v : Value} {x : DataW H × List MemPlace}
theorem open_ints (h : DataW.trod enc Try.prog W 0 spare held fuel 54 [v] = some x) :
    ∃ (ad : Option Addr) (cap : Nat) (l : List Int), v = .slice ad l.length cap ∧ l.length ≤ 9223372036854775807 ∧ IntsAt W ad l ∧ (∀ y ∈ l, -9223372036854775808 ≤ y ∧ y ≤ 9223372036854775807) ∧ (ad = none → cap = 0) := by
  rcases open_slice1 Try.underlying54 cells_int h with ⟨hcs, _⟩ | ⟨a, len, cap, m, n, V, D, Pl, hcs, hb, hl, hm, hmm, _, hx⟩
  · simp only [List.cons.injEq, and_true] at hcs
    subst hcs
    exact ⟨none, 0, [], rfl, by simp, fun hne => absurd rfl hne, by simp, fun _ => rfl⟩
  · simp only [List.cons.injEq, and_true] at hcs
    subst hcs
    have hlm : len ≤ m := by rw [hmm]; split <;> omega
    have each : ∀ i, i < len → ∃ y : Int, W.cell? (a.add i) = some (.int .i64 y) ∧ -9223372036854775808 ≤ y ∧ y ≤ 9223372036854775807 := by
      intro i hi
      obtain ⟨h1, h2⟩ := hx i (by omega)
      obtain ⟨k1, q1, _, wf⟩ := DataW.trod_int Try.underlying3 h2
      simp only [List.cons.injEq, and_true] at q1
      rw [q1] at h1
      have := bounds_i64 wf
      exact ⟨k1, h1, this.1, by omega⟩
    have hinh : Inhabited Int := ⟨0⟩
    obtain ⟨q, hq⟩ := choose_lt each
    refine ⟨some a, cap, (List.range len).map q, by simp, by simp; unfold maxLen at hm; omega, fun hne => ?_, fun y hy => ?_, fun e => by cases e⟩
    · have h0 : 0 < len := by
        rcases Nat.eq_zero_or_pos len with e | e
        · subst e; simp at hne
        · exact e
      obtain ⟨b, off, spot⟩ := a
      have hc0 := (hq 0 h0).1
      have hspot : spot = none := by simpa [Addr.add] using World.cell?_spot hc0
      subst hspot
      refine ⟨b, off, rfl, ?_, fun i hi => ?_⟩
      · rcases Nat.lt_or_ge b W.heap.size with hlt | hge
        · exact hlt
        · exfalso
          rw [Go.WideShapes.add_plain] at hc0
          simp [World.cell?, Array.getElem?_eq_none hge] at hc0
      · have hi' : i < len := by simpa using hi
        obtain ⟨c0, _⟩ := hq i hi'
        rw [Go.WideShapes.add_plain] at c0
        simp only [List.getElem_map, List.getElem_range]
        exact c0
    · obtain ⟨i, hi, rfl⟩ := List.mem_map.1 hy
      exact (hq i (List.mem_range.1 hi)).2
theorem open_intsB (h : DataW.trod enc Try.prog W 0 spare held fuel 54 [v] = some x) :
    ∃ (ad : Option Addr) (cap : Nat) (l : List Int), v = .slice ad l.length cap ∧ l.length ≤ 9223372036854775807 ∧ IntsAt W ad l ∧ ∀ y ∈ l, -9223372036854775808 ≤ y ∧ y ≤ 9223372036854775807 :=
  let ⟨ad, cap, l, h1, h2, h3, h4, _⟩ := open_ints h
  ⟨ad, cap, l, h1, h2, h3, h4⟩
end
end Go.Proofs.Ytledoopfffhigaa
namespace Go.Proofs.Ytledoopfffhigaa.netOrder
open Go.ChangeShapes Go.WideShapes Go.ChangeAt Go.RowKit

theorem laidOut : laidOutB Try.prog = true := by kernel_rfl
theorem own : ownKnob Try.prog.godebug = none := by kernel_rfl
set_option maxRecDepth 100000 in
/-- What the walk gives, for every argument and every world. -/
theorem contract (H : Type) (enc : TypeId × Value → H) (W : World) (base : Nat) (args : Array Value) (ds gs : List (DataW H)) (before : List MemPlace)
    (hval : ∀ (j : Nat) t v, Try.f6.params[j]? = some t → args[j]? = some v → Value.okWide Try.prog W .any base t v)
    (hW : DataW.Whole enc Try.prog Try.f6.params.toList Rows.netOrderSpec.vars false W args.toList ds gs before) :
    Calls Try.prog 6 args W fun e W' => ∃ v, e = .returned v ∧ Rows.netOrderSpec.post enc Try.prog Try.f6 false true false false W args v W' := by
  have hW' := hW
  obtain ⟨p, q, hA0, hV, rfl, hfz, hnd⟩ := hW
  have hA : DataW.TrodAll enc Try.prog W 0 (fun _ => true) true Try.f6.params.toList args.toList ds p := hA0
  rw [Try.params6] at hA hval
  obtain ⟨v0, vs0, d0, ds0, p0, q0, hargs, rfl, rfl, h0, r0⟩ := trodAll_cons hA
  obtain ⟨v1, vs1, d1, ds1, p1, q1, rfl, rfl, rfl, h1, r1⟩ := trodAll_cons r0
  obtain ⟨rfl, rfl, rfl⟩ := trodAll_nil r1
  obtain rfl : args = #[v0, v1] := by cases args; simp_all
  obtain ⟨rfl, rfl⟩ := trodVars_none hV
  have h0k := h0
  obtain ⟨ad0, len0, cap0, rfl⟩ := okWide_slice Try.underlying53 (hval 0 53 v0 rfl rfl)
  obtain ⟨fuel0, hf0⟩ := h0
  obtain ⟨ad0', cap0', l0, he0, hl0, hA10, hok0⟩ := open_strs (by simpa [Value.cells] using hf0)
  simp only [Value.slice.injEq] at he0
  obtain ⟨rfl, rfl, rfl⟩ := he0
  have h1k := h1
  obtain ⟨ad1, len1, cap1, rfl⟩ := okWide_slice Try.underlying54 (hval 1 54 v1 rfl rfl)
  obtain ⟨fuel1, hf1⟩ := h1
  obtain ⟨ad1', cap1', l1, he1, hl1, hA11, hok1⟩ := open_intsB (by simpa [Value.cells] using hf1)
  simp only [Value.slice.injEq] at he1
  obtain ⟨rfl, rfl, rfl⟩ := he1
  clear hA0 hf0 hf1
  simp only [List.append_nil] at hW'
  have hlt0 : ∀ x ∈ p0, x.block < W.heap.size := fun x hx => by simpa using hW'.lt x (by simp [hx])
  have hlt1 : ∀ x ∈ p1, x.block < W.heap.size := fun x hx => by simpa using hW'.lt x (by simp [hx])
  refine (norder_walk ad0 cap0 l0 ad1 cap1 l1 W hl0 hA10 hok0 hl1 hA11 hok1).mono fun e W' ⟨he, hg⟩ => ?_
  subst he
  exact ⟨_, rfl, _, _, _, [], p0 ++ (p1 ++ []), [], hW', trodAll_cons_mk (shut_bool Try.underlying4 _) trodAll_mk0, trodAll_cons_mk (Below.trod laidOut (by kernel_rfl) (of_decide_eq_true (by kernel_rfl)) h0k hg hlt0) (trodAll_cons_mk (Below.trod laidOut (by kernel_rfl) (of_decide_eq_true (by kernel_rfl)) h1k hg hlt1) trodAll_mk0), rfl, hg.frame _, fun h => by cases h⟩

theorem reads (os : Os) {H : Type} (enc : TypeId × Value → H) : ∃ places, DataW.whole enc Try.prog ((World.holding Try.prog os ⟨#[], #[], []⟩).forCall (fun _ _ => 0) ⟨#[], #[.slice none 0 0, .slice none 0 0], []⟩).memory Try.f6.params.toList Rows.netOrderSpec.vars false #[Value.slice none 0 0, Value.slice none 0 0].toList 8 = some ([.nil, .nil], [], places) :=
  ⟨[], by kernel_rfl⟩
set_option maxRecDepth 100000 in
theorem lifted (os : Os) (started : os.Started) (H : Type) (enc : TypeId × Value → H) (F : Stop.Interp) :
    ReturnsInHanded {} Try.checked os 6 .any ((OpenSpec.ofChange Rows.netOrderSpec).preRow enc Try.prog Try.f6 Rows.netOrderRow.domain false Rows.netOrderRow.laid) (((OpenSpec.ofChange Rows.netOrderSpec).at F).post enc Try.prog Try.f6 false true false false) := by
  obtain ⟨places, hx⟩ := reads os enc
  refine returnsInHanded_of_row (C := Try.checked) (s := OpenSpec.ofChange Rows.netOrderSpec) own started (by kernel_rfl) Try.func6
    (witness_row_at (enc := enc) (C := Try.checked) false (World.holding Try.prog os ⟨#[], #[], []⟩) #[.slice none 0 0, .slice none 0 0] rfl (by kernel_rfl) (by kernel_rfl) (by kernel_rfl)
      (OpenSpec.preRow_of_cond 8 hx (by kernel_rfl) (fun k hk => by cases hk) (by kernel_rfl) (laidMet_of_run' 8 (by kernel_rfl) (by kernel_rfl)))) ?_
  intro W base args ds gs before hval hW _ _ _ _ _ _
  exact contract H enc W base args ds gs before hval hW
end Go.Proofs.Ytledoopfffhigaa.netOrder
namespace Go.Proofs.Ytledoopfffhigaa
/-- For every texts and numbers NetOrder returns true. -/
theorem netOrder_said : Rows.NetOrderSaid :=
  OpenClaim.holds_of_cond 6 Try.f6 rfl rfl rfl rfl rfl rfl rfl ⟨rfl, rfl, rfl, rfl, rfl⟩ rfl rfl rfl rfl rfl (by kernel_rfl) Try.func6 (by kernel_rfl)
    (of_decide_eq_true (by kernel_rfl)) (by unfold Func.isWrapper; first | (rw [if_pos (by decide +kernel)]; kernel_rfl) | (rw [if_neg (by decide +kernel)]; exact ⟨rfl, rfl⟩))
    (fun os started H enc _ F => by rw [OpenClaim.pre_eq_preRow]; exact netOrder.lifted os started H enc F)
end Go.Proofs.Ytledoopfffhigaa
