/-
  Encode: a list of items is answered as the plain function has it; nothing that was there has changed.
-/
import Derived.Test.YtijckimjcogfjaaAppI
namespace Go.Proofs.Ytijckimjcogfjaa
open Go.RowKit

/-- An item. -/
structure It where
  t : Bool
  n : Int
  s : ByteArray
def It.may (x : It) : Bool := mayB x.t x.n x.s
def It.b (x : It) : List UInt8 := itemB x.t x.n x.s
/-- An item that a Go program can hold. -/
def It.ok (x : It) : Prop := -9223372036854775808 ≤ x.n ∧ x.n < 9223372036854775808 ∧ x.s.size ≤ 9223372036854775807
/-- The bytes of a list. -/
def listB (l : List It) : List UInt8 := l.flatMap It.b
def encE (l : List It) : Int := if 4096 < l.length then 2 else if l.all It.may = false then 4 else if 262144 < (listB l).length then 2 else 0
def encS (l : List It) : ByteArray := if encE l = 0 then ⟨(listB l).toArray⟩ else ⟨#[]⟩
/-- The items lie where the slice says. -/
def ItemsAt (w : World) (ad : Option Addr) (l : List It) : Prop :=
  l ≠ [] → ∃ b off, ad = some ⟨b, off, none⟩ ∧ b < w.heap.size ∧ ∀ i (h : i < l.length),
    w.cell? ⟨b, off + i * 3, none⟩ = some (.bool l[i].t) ∧ w.cell? ⟨b, off + i * 3 + 1, none⟩ = some (.int .i64 l[i].n) ∧ w.cell? ⟨b, off + i * 3 + 2, none⟩ = some (.string l[i].s)
theorem ItemsAt.below {w w' : World} {B : Nat} {ad : Option Addr} {l : List It} (h : ItemsAt w ad l) (hb : Below B w w') (hB : w.heap.size ≤ B) : ItemsAt w' ad l := fun hl => by
  obtain ⟨b, off, e, hlt, hc⟩ := h hl
  refine ⟨b, off, e, Nat.lt_of_lt_of_le hlt hb.size, fun i hi => ?_⟩
  have k := fun o => hb.cell (p := ⟨b, o, none⟩) (Nat.lt_of_lt_of_le hlt hB)
  obtain ⟨c0, c1, c2⟩ := hc i hi
  exact ⟨(k _).trans c0, (k _).trans c1, (k _).trans c2⟩
theorem Owns.form {B : Nat} {w : World} {v : Value} {l : List UInt8} (h : Owns B w v l) : ∃ ad cp, v = .slice ad l.length cp := by
  obtain ⟨_, ⟨rfl, h0⟩ | ⟨g, cp, cur, rfl, _⟩⟩ := h
  · exact ⟨_, _, by rw [h0]⟩
  · exact ⟨_, _, rfl⟩
theorem strOf_bytes (l : List UInt8) : strOfNums (l.map fun b => (b.toNat : Int)) = ⟨l.toArray⟩ := by
  unfold strOfNums; congr 1; simp [List.map_map, Function.comp_def]
/-- The row's bytes as a string. -/
theorem Owns.string {B : Nat} {w : World} {v : Value} {l : List UInt8} (h : Owns B w v l) : (convert 82 9 v).run Try.prog w = .ok (.string ⟨l.toArray⟩) w := by
  obtain ⟨hl, ⟨rfl, h0⟩ | ⟨g, cp, cur, rfl, hb, hh, r⟩⟩ := id h
  · obtain rfl : l = [] := List.eq_nil_of_length_eq_zero h0
    exact run_convert_bytes_nil w 82 5 Try.underlying82 Try.underlying5 0 0 9 Try.underlying9
  · have := run_convert_bytes_arg (P := Try.prog) w 82 5 Try.underlying82 Try.underlying5 g 0 l.length cp (l.map fun b => (b.toNat : Int)) (by simp) (fun i hi => by
      rw [Nat.zero_add]
      have c := World.ownsRow.cellAt h i (by omega)
      rw [c]
      unfold byteC
      simp [List.getElem?_eq_getElem hi, List.getD]) 9 Try.underlying9
    rw [strOf_bytes] at this
    exact this
theorem listB_take_succ {l : List It} {k : Nat} (h : k < l.length) : listB (l.take (k + 1)) = listB (l.take k) ++ (l[k]).b := by
  unfold listB
  rw [List.take_succ_eq_append_getElem h, List.flatMap_append]; simp
theorem listB_take_le (l : List It) (k : Nat) : (listB (l.take k)).length ≤ (listB l).length := by
  have : listB l = listB (l.take k) ++ listB (l.drop k) := by unfold listB; rw [← List.flatMap_append, List.take_append_drop]
  rw [this, List.length_append]; omega
theorem It.b_ge (x : It) (h : x.may = true) : x.s.size ≤ x.b.length := by
  unfold It.may mayB at h
  unfold It.b itemB
  by_cases ht : x.t
  · simp only [ht, if_true, List.length_cons, List.length_append, Array.length_toList]
    show x.s.data.size ≤ _
    omega
  · rw [if_neg ht] at h
    have h0 : x.s.toList = [] := by simpa using h
    have : x.s.size = 0 := by
      have e : x.s.data.toList = [] := by rw [← ByteArray.toList_eq]; exact h0
      have := congrArg List.length e
      simpa using this
    omega
set_option maxHeartbeats 2000000 in
theorem encode_any (ad : Option Addr) (cap : Nat) (l : List It) (w : World) (hlen : l.length ≤ 9223372036854775807) (hA : ItemsAt w ad l) (hok : ∀ x ∈ l, x.ok) :
    Calls Try.prog 27 #[.slice ad l.length cap] w fun e w' => e = .returned (.tuple #[.string (encS l), .int .i64 (encE l)]) ∧ Below w.heap.size w w' := by
  by_cases h1 : 4096 < l.length
  · have e1 : encE l = 2 := by unfold encE; rw [if_pos h1]
    have e2 : encS l = ⟨#[]⟩ := by unfold encS; rw [e1]; rfl
    rw [e1, e2]
    clear e1 e2 hok hA
    go_enter Try.func27, Try.ntmps27
    go_wp2
    go_ret2
    exact ⟨rfl, Below.refl _ _⟩
  · have HA := hide hA
    have HO := hide hok
    clear hA hok
    go_enter Try.func27, Try.ntmps27
    go_wp2_with fail
    go_loopw [14] (fun i wr => ∃ k : Nat, k ≤ l.length ∧ i = .int .i64 k ∧ Below w.heap.size w wr ∧ Hid (∀ x ∈ l.take k, x.may = true)) (fun i _ => l.length - (intOf i).toNat)
    case atStart => exact ⟨0, Nat.zero_le _, rfl, Below.refl _ _, hide (fun x hx => by simp at hx)⟩
    case round =>
      obtain ⟨k, hk, rfl, hbel, hmay⟩ := hrel
      by_cases hlt : k < l.length
      · obtain ⟨b, off, rfl, hbw, hc⟩ := (unhide HA).below hbel (Nat.le_refl _) (fun e => by rw [e] at hlt; simp at hlt)
        obtain ⟨c0, c1, c2⟩ := hc k hlt
        clear hc
        generalize hx : l[k] = x at *
        obtain ⟨t, n, s⟩ := x
        have Hx := hide hx
        clear hx
        by_cases hm : mayB t n s = true
        · go_wp2_with fail
          refine (mayBe_any t n s _).mono ?_
          rintro e w1 ⟨rfl, rfl⟩
          go_wp2
          go_roundw
          case rel => exact ⟨k + 1, by omega, by go_num, (hbel.alloc hbel.size _).alloc (by have := hbel.size; simp; omega) _, hide (fun x hx => by
            rw [List.take_succ_eq_append_getElem hlt, List.mem_append] at hx
            rcases hx with hx | hx
            · exact unhide hmay x hx
            · rw [List.mem_singleton] at hx; rw [hx, unhide Hx]; exact hm)⟩
          case measure => simp [intOf]; omega
        · have hm' : mayB t n s = false := by simpa using hm
          have e1 : encE l = 4 := by
            unfold encE; rw [if_neg h1, if_pos]
            rw [List.all_eq_false]
            exact ⟨l[k], List.getElem_mem hlt, by rw [unhide Hx]; exact hm⟩
          have e2 : encS l = ⟨#[]⟩ := by unfold encS; rw [e1]; rfl
          have E1 := hide e1
          have E2 := hide e2
          clear e1 e2 hm
          go_wp2_with fail
          refine (mayBe_any t n s _).mono ?_
          rintro e w1 ⟨rfl, rfl⟩
          go_wp2
          go_ret2
          exact ⟨by rw [unhide E1, unhide E2]; rfl, (hbel.alloc hbel.size _).alloc (by have := hbel.size; simp; omega) _⟩
      · obtain rfl : k = l.length := by omega
        have hall : l.all It.may = true := by
          rw [List.all_eq_true]
          intro x hx
          exact unhide hmay x (by rw [List.take_length]; exact hx)
        have Hall := hide hall
        clear hall hmay
        go_wp2_with fail
        go_loopw [6, 24] (fun v i wr => ∃ k : Nat, k ≤ l.length ∧ i = .int .i64 k ∧ Owns w.heap.size wr v (listB (l.take k)) ∧ Below w.heap.size w wr ∧ (listB (l.take k)).length ≤ 262144) (fun _ i _ => l.length - (intOf i).toNat)
        case atStart => exact ⟨0, Nat.zero_le _, rfl, Owns.nil _ _, hbel, by simp [listB]⟩
        case round =>
          clear hbel
          obtain ⟨k, hk, rfl, hown, hbel, hb262⟩ := hrel
          obtain ⟨av, cv, rfl⟩ := hown.form
          by_cases hlt : k < l.length
          · obtain ⟨b, off, rfl, hbw, hc⟩ := (unhide HA).below hbel (Nat.le_refl _) (fun e => by rw [e] at hlt; simp at hlt)
            obtain ⟨c0, c1, c2⟩ := hc k hlt
            clear hc
            have hxok := unhide HO l[k] (List.getElem_mem hlt)
            have hxm : (l[k]).may = true := (List.all_eq_true.1 (unhide Hall)) _ (List.getElem_mem hlt)
            have hge := It.b_ge _ hxm
            have hsucc := listB_take_succ hlt
            have hle := listB_take_le l (k + 1)
            generalize hx : l[k] = x at *
            clear hx hxm
            obtain ⟨t, n, s⟩ := x
            obtain ⟨o0, o1, o2⟩ := hxok
            dsimp only at hge o0 o1 o2
            rw [hsucc, List.length_append] at hle
            have HS := hide hsucc
            clear hsucc
            generalize hL : listB (l.take k) = L at *
            clear hL
            have hlong : 262144 < (listB l).length → encE l = 2 ∧ encS l = ⟨#[]⟩ := fun h => by
              have e : encE l = 2 := by unfold encE; rw [if_neg h1, if_neg (by rw [unhide Hall]; simp), if_pos h]
              exact ⟨e, by unfold encS; rw [e]; rfl⟩
            have HL := hide hlong
            clear hlong
            by_cases hbig : 262144 - L.length < s.size
            · obtain ⟨e1, e2⟩ := unhide HL (by omega)
              have E1 := hide e1
              have E2 := hide e2
              clear e1 e2
              go_wp2
              go_ret2
              exact ⟨by rw [unhide E1, unhide E2]; rfl, hbel.alloc hbel.size _⟩
            · go_wp2_with fail
              refine (appendItem_any w.heap.size _ L t n s _ (by have := hbel.size; simp; omega) (hown.alloc _) o0 o1 (by omega)).mono ?_
              rintro e w1 ⟨v1, rfl, hown1, hfr1⟩
              have hbel1 : Below w.heap.size w w1 := (hbel.alloc hbel.size _).trans hfr1.below
              obtain ⟨av1, cv1, rfl⟩ := hown1.form
              have hl1 : (L ++ itemB t n s).length = L.length + (It.b ⟨t, n, s⟩).length := List.length_append
              by_cases hbig2 : 262144 < (L ++ itemB t n s).length
              · obtain ⟨e1, e2⟩ := unhide HL (by omega)
                have E1 := hide e1
                have E2 := hide e2
                clear e1 e2 hl1
                generalize (L ++ itemB t n s).length = m at *
                go_wp2
                go_ret2
                exact ⟨by rw [unhide E1, unhide E2]; rfl, hbel1⟩
              · have hown2 : Owns w.heap.size w1 (.slice av1 (L ++ itemB t n s).length cv1) (listB (l.take (k + 1))) := by rw [unhide HS]; exact hown1
                have hb2 : (listB (l.take (k + 1))).length ≤ 262144 := by rw [unhide HS]; exact Nat.le_of_not_lt hbig2
                have HO2 := hide hown2
                have HB2 := hide hb2
                clear hown2 hb2 hl1 hown1 hfr1 hown
                generalize (L ++ itemB t n s).length = m at *
                go_wp2
                go_roundw
                case rel => exact ⟨k + 1, by omega, by go_num, unhide HO2, hbel1, unhide HB2⟩
                case measure => simp [intOf]; omega
          · obtain rfl : k = l.length := by omega
            rw [List.take_length] at *
            have hcv := hown.string
            have e1 : encE l = 0 := by
              unfold encE; rw [if_neg h1, if_neg (by rw [unhide Hall]; simp), if_neg (by omega)]
            have e2 : encS l = ⟨(listB l).toArray⟩ := by unfold encS; rw [e1]; rfl
            have E1 := hide e1
            have E2 := hide e2
            clear e1 e2
            go_wp2
            go_ret2
            exact ⟨by rw [unhide E1, unhide E2]; rfl, hbel⟩
end Go.Proofs.Ytijckimjcogfjaa
