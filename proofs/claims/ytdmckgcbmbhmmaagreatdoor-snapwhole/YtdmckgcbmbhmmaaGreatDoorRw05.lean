/-
  Encode: a list of items is answered as the plain function has it; nothing that was there has changed.
  readItem: an item is read from a place on as the plain function has it.
  The cell of a Fault.
-/
import Derived.Test.YtdmckgcbmbhmmaaGreatDoorRw04
import Derived.Test.YtdmckgcbmbhmmaaGreatDoorRw03
namespace Go.Proofs.YtdmckgcbmbhmmaaGreatDoor
open Go.RowKit

/-- An item. -/
structure It where
  t : Bool
  n : Int
  s : ByteArray
def It.may (x : It) : Bool := mayB x.t x.n x.s
def It.b (x : It) : List UInt8 := itemB x.t x.n x.s
/-- An item that a Go program can hold. -/
def It.ok (x : It) : Prop := -9223372036854775808 ≤ x.n ∧ x.n < 9223372036854775808 ∧ x.s.size ≤ 9223372036854775807
/-- The bytes of a list. -/
def listB (l : List It) : List UInt8 := l.flatMap It.b
def encE (l : List It) : Int := if 4096 < l.length then 2 else if l.all It.may = false then 4 else if 262144 < (listB l).length then 2 else 0
def encS (l : List It) : ByteArray := if encE l = 0 then ⟨(listB l).toArray⟩ else ⟨#[]⟩
/-- The items lie where the slice says. -/
def ItemsAt (w : World) (ad : Option Addr) (l : List It) : Prop :=
  l ≠ [] → ∃ b off, ad = some ⟨b, off, none⟩ ∧ b < w.heap.size ∧ ∀ i (h : i < l.length),
    w.cell? ⟨b, off + i * 3, none⟩ = some (.bool l[i].t) ∧ w.cell? ⟨b, off + i * 3 + 1, none⟩ = some (.int .i64 l[i].n) ∧ w.cell? ⟨b, off + i * 3 + 2, none⟩ = some (.string l[i].s)
theorem ItemsAt.below {w w' : World} {B : Nat} {ad : Option Addr} {l : List It} (h : ItemsAt w ad l) (hb : Below B w w') (hB : w.heap.size ≤ B) : ItemsAt w' ad l := fun hl => by
  obtain ⟨b, off, e, hlt, hc⟩ := h hl
  refine ⟨b, off, e, Nat.lt_of_lt_of_le hlt hb.size, fun i hi => ?_⟩
  have k := fun o => hb.cell (p := ⟨b, o, none⟩) (Nat.lt_of_lt_of_le hlt hB)
  obtain ⟨c0, c1, c2⟩ := hc i hi
  exact ⟨(k _).trans c0, (k _).trans c1, (k _).trans c2⟩
theorem listB_take_succ {l : List It} {k : Nat} (h : k < l.length) : listB (l.take (k + 1)) = listB (l.take k) ++ (l[k]).b := by
  unfold listB
  rw [List.take_succ_eq_append_getElem h, List.flatMap_append]; simp
theorem listB_take_le (l : List It) (k : Nat) : (listB (l.take k)).length ≤ (listB l).length := by
  have : listB l = listB (l.take k) ++ listB (l.drop k) := by unfold listB; rw [← List.flatMap_append, List.take_append_drop]
  rw [this, List.length_append]; omega
theorem It.b_ge (x : It) (h : x.may = true) : x.s.size ≤ x.b.length := by
  unfold It.may mayB at h
  unfold It.b itemB
  by_cases ht : x.t
  · simp only [ht, if_true, List.length_cons, List.length_append, Array.length_toList]
    show x.s.data.size ≤ _
    omega
  · rw [if_neg ht] at h
    have h0 : x.s.toList = [] := by simpa using h
    have : x.s.size = 0 := by
      have e : x.s.data.toList = [] := by rw [← ByteArray.toList_eq]; exact h0
      have := congrArg List.length e
      simpa using this
    omega
set_option maxHeartbeats 2000000 in
theorem encode_any (ad : Option Addr) (cap : Nat) (l : List It) (w : World) (hlen : l.length ≤ 9223372036854775807) (hA : ItemsAt w ad l) (hok : ∀ x ∈ l, x.ok) :
    Calls Tryz.prog 94 #[.slice ad l.length cap] w fun e w' => e = .returned (.tuple #[.string (encS l), .int .i64 (encE l)]) ∧ Below w.heap.size w w' := by
  by_cases h1 : 4096 < l.length
  · have e1 : encE l = 2 := by unfold encE; rw [if_pos h1]
    have e2 : encS l = ⟨#[]⟩ := by unfold encS; rw [e1]; rfl
    rw [e1, e2]
    clear e1 e2 hok hA
    go_enter Tryz.func94, Tryz.ntmps94
    go_wp2
    go_ret2
    exact ⟨rfl, Below.refl _ _⟩
  · have HA := hide hA
    have HO := hide hok
    clear hA hok
    go_enter Tryz.func94, Tryz.ntmps94
    go_wp2_with fail
    go_loopw [14] (fun i wr => ∃ k : Nat, k ≤ l.length ∧ i = .int .i64 k ∧ Below w.heap.size w wr ∧ Hid (∀ x ∈ l.take k, x.may = true)) (fun i _ => l.length - (intOf i).toNat)
    case atStart => exact ⟨0, Nat.zero_le _, rfl, Below.refl _ _, hide (fun x hx => by simp at hx)⟩
    case round =>
      obtain ⟨k, hk, rfl, hbel, hmay⟩ := hrel
      by_cases hlt : k < l.length
      · obtain ⟨b, off, rfl, hbw, hc⟩ := (unhide HA).below hbel (Nat.le_refl _) (fun e => by rw [e] at hlt; simp at hlt)
        obtain ⟨c0, c1, c2⟩ := hc k hlt
        clear hc
        generalize hx : l[k] = x at *
        obtain ⟨t, n, s⟩ := x
        have Hx := hide hx
        clear hx
        by_cases hm : mayB t n s = true
        · go_wp2_with fail
          refine (mayBe_any t n s _).mono ?_
          rintro e w1 ⟨rfl, rfl⟩
          go_wp2
          go_roundw
          case rel => exact ⟨k + 1, by omega, by go_num, (hbel.alloc hbel.size _).alloc (by have := hbel.size; simp; omega) _, hide (fun x hx => by
            rw [List.take_succ_eq_append_getElem hlt, List.mem_append] at hx
            rcases hx with hx | hx
            · exact unhide hmay x hx
            · rw [List.mem_singleton] at hx; rw [hx, unhide Hx]; exact hm)⟩
          case measure => simp [intOf]; omega
        · have hm' : mayB t n s = false := by simpa using hm
          have e1 : encE l = 4 := by
            unfold encE; rw [if_neg h1, if_pos]
            rw [List.all_eq_false]
            exact ⟨l[k], List.getElem_mem hlt, by rw [unhide Hx]; exact hm⟩
          have e2 : encS l = ⟨#[]⟩ := by unfold encS; rw [e1]; rfl
          have E1 := hide e1
          have E2 := hide e2
          clear e1 e2 hm
          go_wp2_with fail
          refine (mayBe_any t n s _).mono ?_
          rintro e w1 ⟨rfl, rfl⟩
          go_wp2
          go_ret2
          exact ⟨by rw [unhide E1, unhide E2]; rfl, (hbel.alloc hbel.size _).alloc (by have := hbel.size; simp; omega) _⟩
      · obtain rfl : k = l.length := by omega
        have hall : l.all It.may = true := by
          rw [List.all_eq_true]
          intro x hx
          exact unhide hmay x (by rw [List.take_length]; exact hx)
        have Hall := hide hall
        clear hall hmay
        go_wp2_with fail
        go_loopw [6, 24] (fun v i wr => ∃ k : Nat, k ≤ l.length ∧ i = .int .i64 k ∧ Owns w.heap.size wr v (listB (l.take k)) ∧ Below w.heap.size w wr ∧ (listB (l.take k)).length ≤ 262144) (fun _ i _ => l.length - (intOf i).toNat)
        case atStart => exact ⟨0, Nat.zero_le _, rfl, Owns.nil _ _, hbel, by simp [listB]⟩
        case round =>
          clear hbel
          obtain ⟨k, hk, rfl, hown, hbel, hb262⟩ := hrel
          obtain ⟨av, cv, rfl⟩ := hown.form
          by_cases hlt : k < l.length
          · obtain ⟨b, off, rfl, hbw, hc⟩ := (unhide HA).below hbel (Nat.le_refl _) (fun e => by rw [e] at hlt; simp at hlt)
            obtain ⟨c0, c1, c2⟩ := hc k hlt
            clear hc
            have hxok := unhide HO l[k] (List.getElem_mem hlt)
            have hxm : (l[k]).may = true := (List.all_eq_true.1 (unhide Hall)) _ (List.getElem_mem hlt)
            have hge := It.b_ge _ hxm
            have hsucc := listB_take_succ hlt
            have hle := listB_take_le l (k + 1)
            generalize hx : l[k] = x at *
            clear hx hxm
            obtain ⟨t, n, s⟩ := x
            obtain ⟨o0, o1, o2⟩ := hxok
            dsimp only at hge o0 o1 o2
            rw [hsucc, List.length_append] at hle
            have HS := hide hsucc
            clear hsucc
            generalize hL : listB (l.take k) = L at *
            clear hL
            have hlong : 262144 < (listB l).length → encE l = 2 ∧ encS l = ⟨#[]⟩ := fun h => by
              have e : encE l = 2 := by unfold encE; rw [if_neg h1, if_neg (by rw [unhide Hall]; simp), if_pos h]
              exact ⟨e, by unfold encS; rw [e]; rfl⟩
            have HL := hide hlong
            clear hlong
            by_cases hbig : 262144 - L.length < s.size
            · obtain ⟨e1, e2⟩ := unhide HL (by omega)
              have E1 := hide e1
              have E2 := hide e2
              clear e1 e2
              go_wp2
              go_ret2
              exact ⟨by rw [unhide E1, unhide E2]; rfl, hbel.alloc hbel.size _⟩
            · go_wp2_with fail
              refine (appendItem_any w.heap.size _ L t n s _ (by have := hbel.size; simp; omega) (hown.alloc _) o0 o1 (by omega)).mono ?_
              rintro e w1 ⟨v1, rfl, hown1, hfr1⟩
              have hbel1 : Below w.heap.size w w1 := (hbel.alloc hbel.size _).trans hfr1.below
              obtain ⟨av1, cv1, rfl⟩ := hown1.form
              have hl1 : (L ++ itemB t n s).length = L.length + (It.b ⟨t, n, s⟩).length := List.length_append
              by_cases hbig2 : 262144 < (L ++ itemB t n s).length
              · obtain ⟨e1, e2⟩ := unhide HL (by omega)
                have E1 := hide e1
                have E2 := hide e2
                clear e1 e2 hl1
                generalize (L ++ itemB t n s).length = m at *
                go_wp2
                go_ret2
                exact ⟨by rw [unhide E1, unhide E2]; rfl, hbel1⟩
              · have hown2 : Owns w.heap.size w1 (.slice av1 (L ++ itemB t n s).length cv1) (listB (l.take (k + 1))) := by rw [unhide HS]; exact hown1
                have hb2 : (listB (l.take (k + 1))).length ≤ 262144 := by rw [unhide HS]; exact Nat.le_of_not_lt hbig2
                have HO2 := hide hown2
                have HB2 := hide hb2
                clear hown2 hb2 hl1 hown1 hfr1 hown
                generalize (L ++ itemB t n s).length = m at *
                go_wp2
                go_roundw
                case rel => exact ⟨k + 1, by omega, by go_num, unhide HO2, hbel1, unhide HB2⟩
                case measure => simp [intOf]; omega
          · obtain rfl : k = l.length := by omega
            rw [List.take_length] at *
            have hcv := hown.string
            have e1 : encE l = 0 := by
              unfold encE; rw [if_neg h1, if_neg (by rw [unhide Hall]; simp), if_neg (by omega)]
            have e2 : encS l = ⟨(listB l).toArray⟩ := by unfold encS; rw [e1]; rfl
            have E1 := hide e1
            have E2 := hide e2
            clear e1 e2
            go_wp2
            go_ret2
            exact ⟨by rw [unhide E1, unhide E2]; rfl, hbel⟩
end Go.Proofs.YtdmckgcbmbhmmaaGreatDoor
namespace Go.Proofs.YtdmckgcbmbhmmaaGreatDoor
open Go.RowKit

theorem rdN_ok (l : List UInt8) (u k V m : Nat) (hu : u < 18446744073709551616) (h : rdN l u k = (V, m, 0)) : k < m ∧ m - k ≤ l.length ∧ V < 18446744073709551616 := by
  induction l generalizing u k with
  | nil => simp [rdN] at h
  | cons c r ih =>
    rw [rdN] at h
    split at h
    · simp at h
    · split at h
      · simp only [Prod.mk.injEq] at h
        simp only [List.length_cons]
        omega
      · have := ih _ _ (by omega) h
        simp only [List.length_cons]
        omega
theorem ext_take (b : ByteArray) (E N : Nat) : b.extract E (E + N) = ⟨((b.data.toList.drop E).take N).toArray⟩ := by
  apply ByteArray.ext
  apply Array.ext'
  rw [ByteArray.data_extract, Array.toList_extract, List.extract_eq_take_drop, Nat.add_sub_cancel_left]
def It.zero : It := ⟨false, 0, ⟨#[]⟩⟩
/-- An item at the beginning of bytes: it, how many bytes it has, what is wrong. -/
def rdI : List UInt8 → It × Nat × Int
  | [] => (It.zero, 0, 11)
  | c :: r => if c.toNat ≠ 1 ∧ c.toNat ≠ 2 then (It.zero, 0, 3) else
    if (rdN r 0 0).2.2 ≠ 0 then (It.zero, 0, (rdN r 0 0).2.2) else
    if c.toNat = 1 then (⟨false, unzig (rdN r 0 0).1, ⟨#[]⟩⟩, 1 + (rdN r 0 0).2.1, 0) else
    if unzig (rdN r 0 0).1 < 0 ∨ 262144 < unzig (rdN r 0 0).1 then (It.zero, 0, 3) else
    if (r.length : Int) - (rdN r 0 0).2.1 < unzig (rdN r 0 0).1 then (It.zero, 0, 11) else
    (⟨true, 0, ⟨((r.drop (rdN r 0 0).2.1).take (unzig (rdN r 0 0).1).toNat).toArray⟩⟩, 1 + (rdN r 0 0).2.1 + (unzig (rdN r 0 0).1).toNat, 0)
def It.v (x : It) : Value := .agg #[.bool x.t, .int .i64 x.n, .string x.s]
def riE (at_ : Nat) (q : It × Nat × Int) : Int := if q.2.2 = 0 then ((at_ + q.2.1 : Nat) : Int) else 0
set_option maxHeartbeats 2000000 in
theorem readItem_any (b : ByteArray) (at_ : Nat) (w : World) (hat : at_ < b.size) (hb : b.size ≤ 140737488351232) :
    Calls Tryz.prog 109 #[.string b, .int .i64 (at_ : Int)] w fun e w' =>
      e = .returned (.tuple #[(rdI (b.data.toList.drop at_)).1.v, .int .i64 (riE at_ (rdI (b.data.toList.drop at_))), .int .i64 (rdI (b.data.toList.drop at_)).2.2]) ∧ Below w.heap.size w w' := by
  have hd := drop_get b at_ hat
  generalize hQ : rdI (b.data.toList.drop at_) = Q
  rw [hd, rdI] at hQ
  clear hd
  have hc : (b[at_]).toNat < 256 := (b[at_]).toNat_lt
  by_cases h12 : (b[at_]).toNat ≠ 1 ∧ (b[at_]).toNat ≠ 2
  · rw [if_pos h12] at hQ
    subst hQ
    obtain ⟨q1, q2⟩ := h12
    have g1 : (((b[at_]).toNat : Int) != 1) = true := by rw [bne_iff_ne]; omega
    have g2 : (((b[at_]).toNat : Int) != 2) = true := by rw [bne_iff_ne]; omega
    clear q1 q2
    go_enter Tryz.func109, Tryz.ntmps109
    go_wp2
    exact bodyPost_ret (v := .tuple #[It.zero.v, .int .i64 0, .int .i64 3]) (by simp [results, Tryz.results109, go_sem, It.zero, It.v]) rfl ⟨rfl, (Below.refl _ _).alloc (Nat.le_refl _) _⟩
  · rw [if_neg h12] at hQ
    have hn := fun w => readNumber_any b (at_ + 1) w (by omega) hb
    generalize hR : rdN (b.data.toList.drop (at_ + 1)) 0 0 = R at *
    have hrl : (b.data.toList.drop (at_ + 1)).length = b.size - (at_ + 1) := by rw [List.length_drop, Array.length_toList]; rfl
    obtain ⟨V, m, code⟩ := R
    dsimp only at hQ hn
    have HN := hide hn
    clear hn
    have e1 : (((at_ + 1 : Nat)) : Int) = (at_ : Int) + 1 := by omega
    by_cases hcode : code = 0
    · subst hcode
      obtain ⟨_, k2, k3⟩ := rdN_ok _ 0 0 V m (by omega) hR
      clear hR
      rw [if_neg (by simp)] at hQ
      have hN := fun w => unhide HN w
      simp only [rnV, rnE, if_true, e1] at hN
      have hub := unzig_lo k3
      generalize hnV : unzig V = n at *
      clear hnV k3
      have hE : at_ + 1 + m ≤ b.size := by omega
      generalize hEe : at_ + 1 + m = E at *
      have HN2 := hide hN
      clear HN hN e1
      by_cases g : (b[at_]).toNat = 1
      · rw [if_pos g] at hQ
        subst hQ
        have g1 : (((b[at_]).toNat : Int) != 1) = false := by simp; omega
        have g1' : (((b[at_]).toNat : Int) == 1) = true := by simp; omega
        have hz : riE at_ (⟨false, n, ⟨#[]⟩⟩, 1 + m, 0) = (E : Int) := by unfold riE; rw [if_pos rfl]; dsimp only; omega
        have HZ := hide hz
        clear g h12 hz hrl hEe k2
        go_enter Tryz.func109, Tryz.ntmps109
        go_wp2_with fail
        refine (unhide HN2 _).mono ?_
        rintro e w1 ⟨rfl, rfl⟩
        go_wp2
        exact bodyPost_ret (v := .tuple #[It.v ⟨false, n, ⟨#[]⟩⟩, .int .i64 (E : Int), .int .i64 0]) (by simp [results, Tryz.results109, go_sem, It.v]) rfl ⟨by rw [unhide HZ], (Below.refl _ _).alloc (Nat.le_refl _) _⟩
      · rw [if_neg g] at hQ
        have g1 : (((b[at_]).toNat : Int) != 1) = true := by rw [bne_iff_ne]; omega
        have g1' : (((b[at_]).toNat : Int) == 1) = false := by simp; omega
        have g2 : (((b[at_]).toNat : Int) != 2) = false := by simp; omega
        clear g h12
        by_cases hr : n < 0 ∨ 262144 < n
        · rw [if_pos hr] at hQ
          subst hQ
          have hz : riE at_ (It.zero, 0, 3) = 0 := rfl
          have HZ := hide hz
          clear hz hrl hEe k2
          rcases Int.lt_or_le n 0 with hn0 | hn0
          · clear hr
            go_enter Tryz.func109, Tryz.ntmps109
            go_wp2_with fail
            refine (unhide HN2 _).mono ?_
            rintro e w1 ⟨rfl, rfl⟩
            go_wp2
            all_goals exact bodyPost_ret (v := .tuple #[It.zero.v, .int .i64 0, .int .i64 3]) (by simp [results, Tryz.results109, go_sem, It.zero, It.v]) rfl ⟨by rw [unhide HZ], (Below.refl _ _).alloc (Nat.le_refl _) _⟩
          · have hn1 : 262144 < n := by omega
            clear hr
            go_enter Tryz.func109, Tryz.ntmps109
            go_wp2_with fail
            refine (unhide HN2 _).mono ?_
            rintro e w1 ⟨rfl, rfl⟩
            go_wp2
            all_goals exact bodyPost_ret (v := .tuple #[It.zero.v, .int .i64 0, .int .i64 3]) (by simp [results, Tryz.results109, go_sem, It.zero, It.v]) rfl ⟨by rw [unhide HZ], (Below.refl _ _).alloc (Nat.le_refl _) _⟩
        · rw [if_neg hr] at hQ
          have hn0 : 0 ≤ n := by omega
          have hn1 : n ≤ 262144 := by omega
          clear hr
          rw [hrl] at hQ
          by_cases hshort : (b.size : Int) < (E : Int) + n
          · rw [if_pos (by omega)] at hQ
            subst hQ
            have hz : riE at_ (It.zero, 0, 11) = 0 := rfl
            have HZ := hide hz
            clear hz hrl hEe k2
            go_enter Tryz.func109, Tryz.ntmps109
            go_wp2_with fail
            refine (unhide HN2 _).mono ?_
            rintro e w1 ⟨rfl, rfl⟩
            go_wp2
            all_goals exact bodyPost_ret (v := .tuple #[It.zero.v, .int .i64 0, .int .i64 11]) (by simp [results, Tryz.results109, go_sem, It.zero, It.v]) rfl ⟨by rw [unhide HZ], (Below.refl _ _).alloc (Nat.le_refl _) _⟩
          · rw [if_neg (by omega)] at hQ
            obtain ⟨N, rfl⟩ := Int.eq_ofNat_of_zero_le hn0
            have HQ := hide hQ
            have HE := hide hEe
            clear hQ hEe hrl k2
            go_enter Tryz.func109, Tryz.ntmps109
            go_wp2_with fail
            refine (unhide HN2 _).mono ?_
            rintro e w1 ⟨rfl, rfl⟩
            go_wp2_with fail
            refine (clone_any (b.extract E (E + N)) _ (by rw [ByteArray.size_extract]; omega)).mono ?_
            rintro e w2 ⟨rfl, hb2⟩
            have hsz2 : w.heap.size < w2.heap.size := by have := hb2.size; simp at this; omega
            have q0 : w2.cell? ⟨w.heap.size, 0, none⟩ = some (.bool false) := by rw [hb2.cell (by simp)]; simp
            have q1 : w2.cell? ⟨w.heap.size, 1, none⟩ = some (.int .i64 0) := by rw [hb2.cell (by simp)]; simp
            have q2 : w2.cell? ⟨w.heap.size, 2, none⟩ = some (.string ⟨#[]⟩) := by rw [hb2.cell (by simp)]; simp
            have f0 : w2.frozen? ⟨w.heap.size, 0, none⟩ = false := by rw [hb2.frozen (by simp)]; simp
            have f1 : w2.frozen? ⟨w.heap.size, 1, none⟩ = false := by rw [hb2.frozen (by simp)]; simp
            have f2 : w2.frozen? ⟨w.heap.size, 2, none⟩ = false := by rw [hb2.frozen (by simp)]; simp
            have hbel : Below w.heap.size w w2 := ((Below.refl _ _).alloc (Nat.le_refl _) _).trans (hb2.mono (by simp))
            have HBel := hide hbel
            clear hbel hb2
            have heq : It.v Q.1 = .agg #[.bool true, .int .i64 0, .string (b.extract E (E + N))] ∧ riE at_ Q = (E : Int) + (N : Int) ∧ Q.2.2 = 0 := by
              rw [← unhide HQ, Int.toNat_natCast]
              refine ⟨?_, ?_, rfl⟩
              · unfold It.v
                dsimp only
                rw [ext_take, List.drop_drop, unhide HE]
              · unfold riE; rw [if_pos rfl]; dsimp only; have := unhide HE; omega
            have HEQ := hide heq
            clear heq
            go_wp2
            exact bodyPost_ret (v := .tuple #[.agg #[.bool true, .int .i64 0, .string (b.extract E (E + N))], .int .i64 ((E : Int) + (N : Int)), .int .i64 0]) (by simp [results, Tryz.results109, go_sem, q0, q1, q2]) rfl
              ⟨by rw [(unhide HEQ).1, (unhide HEQ).2.1, (unhide HEQ).2.2], (((unhide HBel).setCell (Nat.le_refl _) _).setCell (Nat.le_refl _) _).setCell (Nat.le_refl _) _⟩
    · clear hR
      rw [if_pos hcode] at hQ
      subst hQ
      have gc : (code != 0) = true := by rw [bne_iff_ne]; exact hcode
      have hz : riE at_ (It.zero, 0, code) = 0 := by unfold riE; rw [if_neg hcode]
      have hN := fun w => unhide HN w
      simp only [rnV, rnE, if_neg hcode, e1] at hN
      have HN2 := hide hN
      have HZ := hide hz
      clear HN hN hz hcode e1 hrl
      by_cases g : (b[at_]).toNat = 1
      · have g1 : (((b[at_]).toNat : Int) != 1) = false := by simp; omega
        clear g h12
        go_enter Tryz.func109, Tryz.ntmps109
        go_wp2_with fail
        refine (unhide HN2 _).mono ?_
        rintro e w1 ⟨rfl, rfl⟩
        go_wp2
        exact bodyPost_ret (v := .tuple #[It.zero.v, .int .i64 0, .int .i64 code]) (by simp [results, Tryz.results109, go_sem, It.zero, It.v]) rfl ⟨by rw [unhide HZ], (Below.refl _ _).alloc (Nat.le_refl _) _⟩
      · have g1 : (((b[at_]).toNat : Int) != 1) = true := by rw [bne_iff_ne]; omega
        have g2 : (((b[at_]).toNat : Int) != 2) = false := by simp; omega
        clear g h12
        go_enter Tryz.func109, Tryz.ntmps109
        go_wp2_with fail
        refine (unhide HN2 _).mono ?_
        rintro e w1 ⟨rfl, rfl⟩
        go_wp2
        exact bodyPost_ret (v := .tuple #[It.zero.v, .int .i64 0, .int .i64 code]) (by simp [results, Tryz.results109, go_sem, It.zero, It.v]) rfl ⟨by rw [unhide HZ], (Below.refl _ _).alloc (Nat.le_refl _) _⟩
end Go.Proofs.YtdmckgcbmbhmmaaGreatDoor
namespace Go.Proofs.YtdmckgcbmbhmmaaGreatDoor
open Go.RowKit

/-- The answer's fault lies there. -/
def FBox (k : Nat) (w : World) : Prop := w.heap[k]? = some (.cells #[.int .i64 0, .int .i64 0] 100 (0, 0))
theorem FBox.cells {k : Nat} {w : World} (h : FBox k w) : w.cell? ⟨k, 0, none⟩ = some (.int .i64 0) ∧ w.cell? ⟨k, 1, none⟩ = some (.int .i64 0) ∧ w.frozen? ⟨k, 0, none⟩ = false ∧ w.frozen? ⟨k, 1, none⟩ = false := by
  unfold FBox at h
  simp [World.cell?, World.frozen?, h]
theorem FBox.lt {k : Nat} {w : World} (h : FBox k w) : k < w.heap.size := by
  unfold FBox at h
  rcases Nat.lt_or_ge k w.heap.size with h1 | h1
  · exact h1
  · rw [Array.getElem?_eq_none h1] at h; cases h
theorem FBox.below {k B : Nat} {w w' : World} (h : FBox k w) (hb : Below B w w') (hB : k < B) : FBox k w' := by unfold FBox; rw [hb.block k hB]; exact h
end Go.Proofs.YtdmckgcbmbhmmaaGreatDoor
