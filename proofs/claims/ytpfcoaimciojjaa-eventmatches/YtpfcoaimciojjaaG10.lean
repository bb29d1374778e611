/-
  Encode: a list of items is answered as the plain function has it; nothing that was there has changed.
  readNumber: a number is read from a place on as the plain function has it.
-/
import Derived.Test.YtpfcoaimciojjaaG09
namespace Go.Proofs.Ytpfcoaimciojjaa
open Go.RowKit

/-- An item. -/
structure It where
  t : Bool
  n : Int
  s : ByteArray
def It.may (x : It) : Bool := mayB x.t x.n x.s
def It.b (x : It) : List UInt8 := itemB x.t x.n x.s
/-- An item that a Go program can hold. -/
def It.ok (x : It) : Prop := -9223372036854775808 ≤ x.n ∧ x.n < 9223372036854775808 ∧ x.s.size ≤ 9223372036854775807
/-- The bytes of a list. -/
def listB (l : List It) : List UInt8 := l.flatMap It.b
def encE (l : List It) : Int := if 4096 < l.length then 2 else if l.all It.may = false then 4 else if 262144 < (listB l).length then 2 else 0
def encS (l : List It) : ByteArray := if encE l = 0 then ⟨(listB l).toArray⟩ else ⟨#[]⟩
/-- The items lie where the slice says. -/
def ItemsAt (w : World) (ad : Option Addr) (l : List It) : Prop :=
  l ≠ [] → ∃ b off, ad = some ⟨b, off, none⟩ ∧ b < w.heap.size ∧ ∀ i (h : i < l.length),
    w.cell? ⟨b, off + i * 3, none⟩ = some (.bool l[i].t) ∧ w.cell? ⟨b, off + i * 3 + 1, none⟩ = some (.int .i64 l[i].n) ∧ w.cell? ⟨b, off + i * 3 + 2, none⟩ = some (.string l[i].s)
theorem ItemsAt.below {w w' : World} {B : Nat} {ad : Option Addr} {l : List It} (h : ItemsAt w ad l) (hb : Below B w w') (hB : w.heap.size ≤ B) : ItemsAt w' ad l := fun hl => by
  obtain ⟨b, off, e, hlt, hc⟩ := h hl
  refine ⟨b, off, e, Nat.lt_of_lt_of_le hlt hb.size, fun i hi => ?_⟩
  have k := fun o => hb.cell (p := ⟨b, o, none⟩) (Nat.lt_of_lt_of_le hlt hB)
  obtain ⟨c0, c1, c2⟩ := hc i hi
  exact ⟨(k _).trans c0, (k _).trans c1, (k _).trans c2⟩
theorem listB_take_succ {l : List It} {k : Nat} (h : k < l.length) : listB (l.take (k + 1)) = listB (l.take k) ++ (l[k]).b := by
  unfold listB
  rw [List.take_succ_eq_append_getElem h, List.flatMap_append]; simp
theorem listB_take_le (l : List It) (k : Nat) : (listB (l.take k)).length ≤ (listB l).length := by
  have : listB l = listB (l.take k) ++ listB (l.drop k) := by unfold listB; rw [← List.flatMap_append, List.take_append_drop]
  rw [this, List.length_append]; omega
theorem It.b_ge (x : It) (h : x.may = true) : x.s.size ≤ x.b.length := by
  unfold It.may mayB at h
  unfold It.b itemB
  by_cases ht : x.t
  · simp only [ht, if_true, List.length_cons, List.length_append, Array.length_toList]
    show x.s.data.size ≤ _
    omega
  · rw [if_neg ht] at h
    have h0 : x.s.toList = [] := by simpa using h
    have : x.s.size = 0 := by
      have e : x.s.data.toList = [] := by rw [← ByteArray.toList_eq]; exact h0
      have := congrArg List.length e
      simpa using this
    omega
set_option maxHeartbeats 2000000 in
theorem encode_any (ad : Option Addr) (cap : Nat) (l : List It) (w : World) (hlen : l.length ≤ 9223372036854775807) (hA : ItemsAt w ad l) (hok : ∀ x ∈ l, x.ok) :
    Calls Try.prog 23 #[.slice ad l.length cap] w fun e w' => e = .returned (.tuple #[.string (encS l), .int .i64 (encE l)]) ∧ Below w.heap.size w w' := by
  by_cases h1 : 4096 < l.length
  · have e1 : encE l = 2 := by unfold encE; rw [if_pos h1]
    have e2 : encS l = ⟨#[]⟩ := by unfold encS; rw [e1]; rfl
    rw [e1, e2]
    clear e1 e2 hok hA
    go_enter Try.func23, Try.ntmps23
    go_wp2
    go_ret2
    exact ⟨rfl, Below.refl _ _⟩
  · have HA := hide hA
    have HO := hide hok
    clear hA hok
    go_enter Try.func23, Try.ntmps23
    go_wp2_with fail
    go_loopw [14] (fun i wr => ∃ k : Nat, k ≤ l.length ∧ i = .int .i64 k ∧ Below w.heap.size w wr ∧ Hid (∀ x ∈ l.take k, x.may = true)) (fun i _ => l.length - (intOf i).toNat)
    case atStart => exact ⟨0, Nat.zero_le _, rfl, Below.refl _ _, hide (fun x hx => by simp at hx)⟩
    case round =>
      obtain ⟨k, hk, rfl, hbel, hmay⟩ := hrel
      by_cases hlt : k < l.length
      · obtain ⟨b, off, rfl, hbw, hc⟩ := (unhide HA).below hbel (Nat.le_refl _) (fun e => by rw [e] at hlt; simp at hlt)
        obtain ⟨c0, c1, c2⟩ := hc k hlt
        clear hc
        generalize hx : l[k] = x at *
        obtain ⟨t, n, s⟩ := x
        have Hx := hide hx
        clear hx
        by_cases hm : mayB t n s = true
        · go_wp2_with fail
          refine (mayBe_any t n s _).mono ?_
          rintro e w1 ⟨rfl, rfl⟩
          go_wp2
          go_roundw
          case rel => exact ⟨k + 1, by omega, by go_num, (hbel.alloc hbel.size _).alloc (by have := hbel.size; simp; omega) _, hide (fun x hx => by
            rw [List.take_succ_eq_append_getElem hlt, List.mem_append] at hx
            rcases hx with hx | hx
            · exact unhide hmay x hx
            · rw [List.mem_singleton] at hx; rw [hx, unhide Hx]; exact hm)⟩
          case measure => simp [intOf]; omega
        · have hm' : mayB t n s = false := by simpa using hm
          have e1 : encE l = 4 := by
            unfold encE; rw [if_neg h1, if_pos]
            rw [List.all_eq_false]
            exact ⟨l[k], List.getElem_mem hlt, by rw [unhide Hx]; exact hm⟩
          have e2 : encS l = ⟨#[]⟩ := by unfold encS; rw [e1]; rfl
          have E1 := hide e1
          have E2 := hide e2
          clear e1 e2 hm
          go_wp2_with fail
          refine (mayBe_any t n s _).mono ?_
          rintro e w1 ⟨rfl, rfl⟩
          go_wp2
          go_ret2
          exact ⟨by rw [unhide E1, unhide E2]; rfl, (hbel.alloc hbel.size _).alloc (by have := hbel.size; simp; omega) _⟩
      · obtain rfl : k = l.length := by omega
        have hall : l.all It.may = true := by
          rw [List.all_eq_true]
          intro x hx
          exact unhide hmay x (by rw [List.take_length]; exact hx)
        have Hall := hide hall
        clear hall hmay
        go_wp2_with fail
        go_loopw [6, 24] (fun v i wr => ∃ k : Nat, k ≤ l.length ∧ i = .int .i64 k ∧ Owns w.heap.size wr v (listB (l.take k)) ∧ Below w.heap.size w wr ∧ (listB (l.take k)).length ≤ 262144) (fun _ i _ => l.length - (intOf i).toNat)
        case atStart => exact ⟨0, Nat.zero_le _, rfl, Owns.nil _ _, hbel, by simp [listB]⟩
        case round =>
          clear hbel
          obtain ⟨k, hk, rfl, hown, hbel, hb262⟩ := hrel
          obtain ⟨av, cv, rfl⟩ := hown.form
          by_cases hlt : k < l.length
          · obtain ⟨b, off, rfl, hbw, hc⟩ := (unhide HA).below hbel (Nat.le_refl _) (fun e => by rw [e] at hlt; simp at hlt)
            obtain ⟨c0, c1, c2⟩ := hc k hlt
            clear hc
            have hxok := unhide HO l[k] (List.getElem_mem hlt)
            have hxm : (l[k]).may = true := (List.all_eq_true.1 (unhide Hall)) _ (List.getElem_mem hlt)
            have hge := It.b_ge _ hxm
            have hsucc := listB_take_succ hlt
            have hle := listB_take_le l (k + 1)
            generalize hx : l[k] = x at *
            clear hx hxm
            obtain ⟨t, n, s⟩ := x
            obtain ⟨o0, o1, o2⟩ := hxok
            dsimp only at hge o0 o1 o2
            rw [hsucc, List.length_append] at hle
            have HS := hide hsucc
            clear hsucc
            generalize hL : listB (l.take k) = L at *
            clear hL
            have hlong : 262144 < (listB l).length → encE l = 2 ∧ encS l = ⟨#[]⟩ := fun h => by
              have e : encE l = 2 := by unfold encE; rw [if_neg h1, if_neg (by rw [unhide Hall]; simp), if_pos h]
              exact ⟨e, by unfold encS; rw [e]; rfl⟩
            have HL := hide hlong
            clear hlong
            by_cases hbig : 262144 - L.length < s.size
            · obtain ⟨e1, e2⟩ := unhide HL (by omega)
              have E1 := hide e1
              have E2 := hide e2
              clear e1 e2
              go_wp2
              go_ret2
              exact ⟨by rw [unhide E1, unhide E2]; rfl, hbel.alloc hbel.size _⟩
            · go_wp2_with fail
              refine (appendItem_any w.heap.size _ L t n s _ (by have := hbel.size; simp; omega) (hown.alloc _) o0 o1 (by omega)).mono ?_
              rintro e w1 ⟨v1, rfl, hown1, hfr1⟩
              have hbel1 : Below w.heap.size w w1 := (hbel.alloc hbel.size _).trans hfr1.below
              obtain ⟨av1, cv1, rfl⟩ := hown1.form
              have hl1 : (L ++ itemB t n s).length = L.length + (It.b ⟨t, n, s⟩).length := List.length_append
              by_cases hbig2 : 262144 < (L ++ itemB t n s).length
              · obtain ⟨e1, e2⟩ := unhide HL (by omega)
                have E1 := hide e1
                have E2 := hide e2
                clear e1 e2 hl1
                generalize (L ++ itemB t n s).length = m at *
                go_wp2
                go_ret2
                exact ⟨by rw [unhide E1, unhide E2]; rfl, hbel1⟩
              · have hown2 : Owns w.heap.size w1 (.slice av1 (L ++ itemB t n s).length cv1) (listB (l.take (k + 1))) := by rw [unhide HS]; exact hown1
                have hb2 : (listB (l.take (k + 1))).length ≤ 262144 := by rw [unhide HS]; exact Nat.le_of_not_lt hbig2
                have HO2 := hide hown2
                have HB2 := hide hb2
                clear hown2 hb2 hl1 hown1 hfr1 hown
                generalize (L ++ itemB t n s).length = m at *
                go_wp2
                go_roundw
                case rel => exact ⟨k + 1, by omega, by go_num, unhide HO2, hbel1, unhide HB2⟩
                case measure => simp [intOf]; omega
          · obtain rfl : k = l.length := by omega
            rw [List.take_length] at *
            have hcv := hown.string
            have e1 : encE l = 0 := by
              unfold encE; rw [if_neg h1, if_neg (by rw [unhide Hall]; simp), if_neg (by omega)]
            have e2 : encS l = ⟨(listB l).toArray⟩ := by unfold encS; rw [e1]; rfl
            have E1 := hide e1
            have E2 := hide e2
            clear e1 e2
            go_wp2
            go_ret2
            exact ⟨by rw [unhide E1, unhide E2]; rfl, hbel⟩
end Go.Proofs.Ytpfcoaimciojjaa
namespace Go.Proofs.Ytpfcoaimciojjaa
open Go.RowKit

/-- Bytes that are left, what has come together, how many have been read: what has come together, how many were read, what is wrong. -/
def rdN : List UInt8 → Nat → Nat → Nat × Nat × Int
  | [], _, _ => (0, 0, 11)
  | c :: r, u, k => if (k = 0 ∧ c.toNat = 128) ∨ 144115188075855872 ≤ u then (0, 0, 3) else if c.toNat < 128 then (u * 128 + c.toNat % 128, k + 1, 0) else rdN r (u * 128 + c.toNat % 128) (k + 1)
def rnV (r : Nat × Nat × Int) : Int := if r.2.2 = 0 then unzig r.1 else 0
def rnE (at_ : Nat) (r : Nat × Nat × Int) : Int := if r.2.2 = 0 then ((at_ + r.2.1 : Nat) : Int) else 0
theorem byte_and128 (c : Nat) (h : c < 256) : bits .and .u8 (c : Int) 128 = if c < 128 then 0 else 128 := by
  have := u8_and_nat c 128 h (by omega)
  rw [show (128 : Nat) = 2 ^ 7 from rfl, nat_bit 7 c] at this
  rw [show ((2 ^ 7 : Nat) : Int) = 128 from rfl] at this
  rw [this]
  split <;> omega
theorem byte_and127 (c : Nat) (h : c < 256) : bits .and .u8 (c : Int) 127 = ((c % 128 : Nat) : Int) := by
  have := u8_and_nat c 127 h (by omega)
  rw [nat_mask7] at this
  exact this
theorem join7 (U c : Nat) (hU : U < 144115188075855872) : ∃ V : Nat, V < 18446744073709551616 ∧ bits .or .u64 ((U : Int) * 128) ((c : Int) % 128) = (V : Int) ∧ U * 128 + c % 128 = V := by
  have := u64_or_nat (U * 128) (c % 128) (by omega) (by omega)
  rw [nat_join 7 (U * 128) (c % 128) (by omega) (by omega)] at this
  exact ⟨_, by omega, by rw [← this]; congr 1, rfl⟩
theorem rn_ok (at_ j V : Nat) (h : at_ ≤ j) : rnV (V, j - at_ + 1, 0) = unzig V ∧ rnE at_ (V, j - at_ + 1, 0) = (j : Int) + 1 := by
  refine ⟨rfl, ?_⟩
  unfold rnE; dsimp only; rw [if_pos rfl]; omega
set_option maxHeartbeats 2000000 in
theorem readNumber_any (b : ByteArray) (at_ : Nat) (w : World) (hat : at_ ≤ b.size) (hb : b.size ≤ 140737488351232) :
    Calls Try.prog 65 #[.string b, .int .i64 (at_ : Int)] w fun e w' =>
      e = .returned (.tuple #[.int .i64 (rnV (rdN (b.data.toList.drop at_) 0 0)), .int .i64 (rnE at_ (rdN (b.data.toList.drop at_) 0 0)), .int .i64 (rdN (b.data.toList.drop at_) 0 0).2.2]) ∧ w' = w := by
  generalize hR : rdN (b.data.toList.drop at_) 0 0 = R
  have HR := hide hR
  clear hR
  go_enter Try.func65, Try.ntmps65
  go_wp2
  go_loop [7, 8] (fun u i => ∃ j U : Nat, at_ ≤ j ∧ j ≤ b.size ∧ i = .int .i64 (j : Int) ∧ u = .int .u64 (U : Int) ∧ U < 18446744073709551616 ∧ Hid (rdN (b.data.toList.drop j) U (j - at_) = R)) (fun _ i => b.size - (intOf i).toNat)
  case atStart => exact ⟨at_, 0, by omega, by omega, rfl, rfl, by omega, hide (by rw [Nat.sub_self]; exact unhide HR)⟩
  case round =>
    obtain ⟨j, U, haj, hj, rfl, rfl, hU, HK⟩ := hrel
    by_cases hlt : j < b.size
    · have hd := drop_get b j hlt
      have hK := unhide HK
      rw [hd, rdN] at hK
      clear hd HK
      have hc : (b[j]).toNat < 256 := (b[j]).toNat_lt
      have ha7 := byte_and127 _ hc
      have ha8 := byte_and128 _ hc
      by_cases hbad : (j - at_ = 0 ∧ (b[j]).toNat = 128) ∨ 144115188075855872 ≤ U
      · rw [if_pos hbad] at hK
        subst hK
        clear HR ha7 ha8
        rcases Nat.lt_or_ge U 144115188075855872 with h57 | h57
        · obtain ⟨b1, b2⟩ : (((j : Int) == (at_ : Int)) = true) ∧ ((((b[j]).toNat : Int) == 128) = true) := by
            rcases hbad with ⟨q1, q2⟩ | q
            · exact ⟨beq_iff_eq.2 (by omega), beq_iff_eq.2 (by omega)⟩
            · omega
          clear hbad
          go_wp2
          go_ret3
          exact ⟨rfl, rfl⟩
        · clear hbad
          have hge : decide ((144115188075855872 : Int) ≤ (U : Int)) = true := decide_eq_true (by omega)
          clear h57
          by_cases b1 : j = at_
          · have b1' : ((j : Int) == (at_ : Int)) = true := beq_iff_eq.2 (by omega)
            clear b1
            by_cases b2 : (b[j]).toNat = 128
            · have b2' : (((b[j]).toNat : Int) == 128) = true := beq_iff_eq.2 (by omega)
              clear b2
              go_wp2
              all_goals go_ret3
              all_goals exact ⟨rfl, rfl⟩
            · have b2' : (((b[j]).toNat : Int) == 128) = false := beq_eq_false_iff_ne.2 (by omega)
              clear b2
              go_wp2
              all_goals go_ret3
              all_goals exact ⟨rfl, rfl⟩
          · have b1' : ((j : Int) == (at_ : Int)) = false := beq_eq_false_iff_ne.2 (by omega)
            clear b1
            go_wp2
            all_goals go_ret3
            all_goals exact ⟨rfl, rfl⟩
      · rw [if_neg hbad] at hK
        have h57 : U < 144115188075855872 := by omega
        have hge : decide ((144115188075855872 : Int) ≤ (U : Int)) = false := decide_eq_false (by omega)
        obtain ⟨V, hV, hor, eV⟩ := join7 U (b[j]).toNat h57
        rw [eV] at hK
        clear eV
        have HK := hide hK
        have Hbad := hide hbad
        clear hK hbad
        by_cases hlow : (b[j]).toNat < 128
        · have hz : bits .and .u8 ((b[j]).toNat : Int) 128 = 0 := by rw [ha8, if_pos hlow]
          clear ha8
          have hK := unhide HK
          rw [if_pos hlow] at hK
          have HK2 := hide hK
          clear hK HK HR
          have hok := rn_ok at_ j V haj
          rw [unhide HK2] at hok
          have HR2 : Hid (R.2.2 = 0) := by rw [← unhide HK2]; exact rfl
          have HOK := hide hok
          clear hok HK2
          by_cases b1 : j = at_
          · have b1' : ((j : Int) == (at_ : Int)) = true := beq_iff_eq.2 (by omega)
            have b2' : (((b[j]).toNat : Int) == 128) = false := beq_eq_false_iff_ne.2 (by omega)
            clear b1 hlow
            go_wp2_with fail
            refine (unfold_any V _ hV).mono ?_
            rintro e w1 ⟨rfl, rfl⟩
            go_wp2
            go_ret3
            exact ⟨by rw [(unhide HOK).1, (unhide HOK).2, unhide HR2]; rfl, rfl⟩
          · have b1' : ((j : Int) == (at_ : Int)) = false := beq_eq_false_iff_ne.2 (by omega)
            clear b1
            go_wp2_with fail
            refine (unfold_any V _ hV).mono ?_
            rintro e w1 ⟨rfl, rfl⟩
            go_wp2
            go_ret3
            exact ⟨by rw [(unhide HOK).1, (unhide HOK).2, unhide HR2]; rfl, rfl⟩
        · have hz : bits .and .u8 ((b[j]).toNat : Int) 128 = 128 := by rw [ha8, if_neg hlow]
          clear ha8
          have hK := unhide HK
          rw [if_neg hlow, show j - at_ + 1 = (j + 1) - at_ by omega] at hK
          have HK2 := hide hK
          clear hK HK HR
          by_cases b1 : j = at_
          · have b1' : ((j : Int) == (at_ : Int)) = true := beq_iff_eq.2 (by omega)
            have b2' : (((b[j]).toNat : Int) == 128) = false := beq_eq_false_iff_ne.2 (fun h => unhide Hbad (Or.inl ⟨by omega, by omega⟩))
            clear b1 hlow
            go_wp2
            go_round
            case rel => exact ⟨j + 1, V, by omega, by omega, by go_num, rfl, hV, unhide HK2⟩
            case measure => simp [intOf]; omega
          · have b1' : ((j : Int) == (at_ : Int)) = false := beq_eq_false_iff_ne.2 (by omega)
            clear b1
            go_wp2
            go_round
            case rel => exact ⟨j + 1, V, by omega, by omega, by go_num, rfl, hV, unhide HK2⟩
            case measure => simp [intOf]; omega
    · have hj' : j = b.size := by omega
      have hK := unhide HK
      rw [List.drop_of_length_le (by simp; omega), rdN] at hK
      subst hK
      clear hj' HR HK
      go_wp2
      go_ret3
      exact ⟨rfl, rfl⟩
end Go.Proofs.Ytpfcoaimciojjaa
