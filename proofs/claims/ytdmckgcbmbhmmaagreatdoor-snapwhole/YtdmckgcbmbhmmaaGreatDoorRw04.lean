/-
  readNumber: a number is read from a place on as the plain function has it.
  appendNumber: a row of bytes that the call itself made has, behind the call, the number's bytes at its end.
  mayBe and appendItem: an item's bytes are put at the end of a row of bytes that the call itself made.
-/
import Derived.Test.YtdmckgcbmbhmmaaGreatDoorRw03
import Derived.Deep.RegionHeld3
import Derived.BigQuiet
namespace Go.Proofs.YtdmckgcbmbhmmaaGreatDoor
open Go.RowKit

/-- Bytes that are left, what has come together, how many have been read: what has come together, how many were read, what is wrong. -/
def rdN : List UInt8 → Nat → Nat → Nat × Nat × Int
  | [], _, _ => (0, 0, 11)
  | c :: r, u, k => if (k = 0 ∧ c.toNat = 128) ∨ 144115188075855872 ≤ u then (0, 0, 3) else if c.toNat < 128 then (u * 128 + c.toNat % 128, k + 1, 0) else rdN r (u * 128 + c.toNat % 128) (k + 1)
def rnV (r : Nat × Nat × Int) : Int := if r.2.2 = 0 then unzig r.1 else 0
def rnE (at_ : Nat) (r : Nat × Nat × Int) : Int := if r.2.2 = 0 then ((at_ + r.2.1 : Nat) : Int) else 0
theorem byte_and128 (c : Nat) (h : c < 256) : bits .and .u8 (c : Int) 128 = if c < 128 then 0 else 128 := by
  have := u8_and_nat c 128 h (by omega)
  rw [show (128 : Nat) = 2 ^ 7 from rfl, nat_bit 7 c] at this
  rw [show ((2 ^ 7 : Nat) : Int) = 128 from rfl] at this
  rw [this]
  split <;> omega
theorem byte_and127 (c : Nat) (h : c < 256) : bits .and .u8 (c : Int) 127 = ((c % 128 : Nat) : Int) := by
  have := u8_and_nat c 127 h (by omega)
  rw [nat_mask7] at this
  exact this
theorem join7 (U c : Nat) (hU : U < 144115188075855872) : ∃ V : Nat, V < 18446744073709551616 ∧ bits .or .u64 ((U : Int) * 128) ((c : Int) % 128) = (V : Int) ∧ U * 128 + c % 128 = V := by
  have := u64_or_nat (U * 128) (c % 128) (by omega) (by omega)
  rw [nat_join 7 (U * 128) (c % 128) (by omega) (by omega)] at this
  exact ⟨_, by omega, by rw [← this]; congr 1, rfl⟩
theorem rn_ok (at_ j V : Nat) (h : at_ ≤ j) : rnV (V, j - at_ + 1, 0) = unzig V ∧ rnE at_ (V, j - at_ + 1, 0) = (j : Int) + 1 := by
  refine ⟨rfl, ?_⟩
  unfold rnE; dsimp only; rw [if_pos rfl]; omega
set_option maxHeartbeats 2000000 in
theorem readNumber_any (b : ByteArray) (at_ : Nat) (w : World) (hat : at_ ≤ b.size) (hb : b.size ≤ 140737488351232) :
    Calls Tryz.prog 123 #[.string b, .int .i64 (at_ : Int)] w fun e w' =>
      e = .returned (.tuple #[.int .i64 (rnV (rdN (b.data.toList.drop at_) 0 0)), .int .i64 (rnE at_ (rdN (b.data.toList.drop at_) 0 0)), .int .i64 (rdN (b.data.toList.drop at_) 0 0).2.2]) ∧ w' = w := by
  generalize hR : rdN (b.data.toList.drop at_) 0 0 = R
  have HR := hide hR
  clear hR
  go_enter Tryz.func123, Tryz.ntmps123
  go_wp2
  go_loop [7, 8] (fun u i => ∃ j U : Nat, at_ ≤ j ∧ j ≤ b.size ∧ i = .int .i64 (j : Int) ∧ u = .int .u64 (U : Int) ∧ U < 18446744073709551616 ∧ Hid (rdN (b.data.toList.drop j) U (j - at_) = R)) (fun _ i => b.size - (intOf i).toNat)
  case atStart => exact ⟨at_, 0, by omega, by omega, rfl, rfl, by omega, hide (by rw [Nat.sub_self]; exact unhide HR)⟩
  case round =>
    obtain ⟨j, U, haj, hj, rfl, rfl, hU, HK⟩ := hrel
    by_cases hlt : j < b.size
    · have hd := drop_get b j hlt
      have hK := unhide HK
      rw [hd, rdN] at hK
      clear hd HK
      have hc : (b[j]).toNat < 256 := (b[j]).toNat_lt
      have ha7 := byte_and127 _ hc
      have ha8 := byte_and128 _ hc
      by_cases hbad : (j - at_ = 0 ∧ (b[j]).toNat = 128) ∨ 144115188075855872 ≤ U
      · rw [if_pos hbad] at hK
        subst hK
        clear HR ha7 ha8
        rcases Nat.lt_or_ge U 144115188075855872 with h57 | h57
        · obtain ⟨b1, b2⟩ : (((j : Int) == (at_ : Int)) = true) ∧ ((((b[j]).toNat : Int) == 128) = true) := by
            rcases hbad with ⟨q1, q2⟩ | q
            · exact ⟨beq_iff_eq.2 (by omega), beq_iff_eq.2 (by omega)⟩
            · omega
          clear hbad
          go_wp2
          go_ret3
          exact ⟨rfl, rfl⟩
        · clear hbad
          have hge : decide ((144115188075855872 : Int) ≤ (U : Int)) = true := decide_eq_true (by omega)
          clear h57
          by_cases b1 : j = at_
          · have b1' : ((j : Int) == (at_ : Int)) = true := beq_iff_eq.2 (by omega)
            clear b1
            by_cases b2 : (b[j]).toNat = 128
            · have b2' : (((b[j]).toNat : Int) == 128) = true := beq_iff_eq.2 (by omega)
              clear b2
              go_wp2
              all_goals go_ret3
              all_goals exact ⟨rfl, rfl⟩
            · have b2' : (((b[j]).toNat : Int) == 128) = false := beq_eq_false_iff_ne.2 (by omega)
              clear b2
              go_wp2
              all_goals go_ret3
              all_goals exact ⟨rfl, rfl⟩
          · have b1' : ((j : Int) == (at_ : Int)) = false := beq_eq_false_iff_ne.2 (by omega)
            clear b1
            go_wp2
            all_goals go_ret3
            all_goals exact ⟨rfl, rfl⟩
      · rw [if_neg hbad] at hK
        have h57 : U < 144115188075855872 := by omega
        have hge : decide ((144115188075855872 : Int) ≤ (U : Int)) = false := decide_eq_false (by omega)
        obtain ⟨V, hV, hor, eV⟩ := join7 U (b[j]).toNat h57
        rw [eV] at hK
        clear eV
        have HK := hide hK
        have Hbad := hide hbad
        clear hK hbad
        by_cases hlow : (b[j]).toNat < 128
        · have hz : bits .and .u8 ((b[j]).toNat : Int) 128 = 0 := by rw [ha8, if_pos hlow]
          clear ha8
          have hK := unhide HK
          rw [if_pos hlow] at hK
          have HK2 := hide hK
          clear hK HK HR
          have hok := rn_ok at_ j V haj
          rw [unhide HK2] at hok
          have HR2 : Hid (R.2.2 = 0) := by rw [← unhide HK2]; exact rfl
          have HOK := hide hok
          clear hok HK2
          by_cases b1 : j = at_
          · have b1' : ((j : Int) == (at_ : Int)) = true := beq_iff_eq.2 (by omega)
            have b2' : (((b[j]).toNat : Int) == 128) = false := beq_eq_false_iff_ne.2 (by omega)
            clear b1 hlow
            go_wp2_with fail
            refine (unfold_any V _ hV).mono ?_
            rintro e w1 ⟨rfl, rfl⟩
            go_wp2
            go_ret3
            exact ⟨by rw [(unhide HOK).1, (unhide HOK).2, unhide HR2]; rfl, rfl⟩
          · have b1' : ((j : Int) == (at_ : Int)) = false := beq_eq_false_iff_ne.2 (by omega)
            clear b1
            go_wp2_with fail
            refine (unfold_any V _ hV).mono ?_
            rintro e w1 ⟨rfl, rfl⟩
            go_wp2
            go_ret3
            exact ⟨by rw [(unhide HOK).1, (unhide HOK).2, unhide HR2]; rfl, rfl⟩
        · have hz : bits .and .u8 ((b[j]).toNat : Int) 128 = 128 := by rw [ha8, if_neg hlow]
          clear ha8
          have hK := unhide HK
          rw [if_neg hlow, show j - at_ + 1 = (j + 1) - at_ by omega] at hK
          have HK2 := hide hK
          clear hK HK HR
          by_cases b1 : j = at_
          · have b1' : ((j : Int) == (at_ : Int)) = true := beq_iff_eq.2 (by omega)
            have b2' : (((b[j]).toNat : Int) == 128) = false := beq_eq_false_iff_ne.2 (fun h => unhide Hbad (Or.inl ⟨by omega, by omega⟩))
            clear b1 hlow
            go_wp2
            go_round
            case rel => exact ⟨j + 1, V, by omega, by omega, by go_num, rfl, hV, unhide HK2⟩
            case measure => simp [intOf]; omega
          · have b1' : ((j : Int) == (at_ : Int)) = false := beq_eq_false_iff_ne.2 (by omega)
            clear b1
            go_wp2
            go_round
            case rel => exact ⟨j + 1, V, by omega, by omega, by go_num, rfl, hV, unhide HK2⟩
            case measure => simp [intOf]; omega
    · have hj' : j = b.size := by omega
      have hK := unhide HK
      rw [List.drop_of_length_le (by simp; omega), rdN] at hK
      subst hK
      clear hj' HR HK
      go_wp2
      go_ret3
      exact ⟨rfl, rfl⟩
end Go.Proofs.YtdmckgcbmbhmmaaGreatDoor
namespace Go.Proofs.YtdmckgcbmbhmmaaGreatDoor
open Go.RowKit

/-- One byte more, as one step of a statement whose order is drawn. -/
theorem step_byte {ops : Array Oper} {o : Oper} {a : Act} {w : World} {K : Act → World → Prop} {Q : Exit → Act → World → Prop} {E : Prop}
    (hg : o.guard = none) (s x : Operand) (hop : o.op = Op.call { callee := Callee.builtin Builtin.append, args := #[s, x], argTypes := #[91, 91] })
    (B : Nat) (v : Value) (l : List UInt8) (c : Nat) (hs : a.eval s = v) (ho : Owns B w v l) (g : Nat) (hx : a.eval x = .slice (some ⟨g, 0, none⟩) 1 1) (hcell : w.cell? ⟨g, 0, none⟩ = some (.int .u8 (c : Int))) (hc : c < 256)
    (hl : l.length ≤ 140737488355000) (hb : B ≤ w.heap.size)
    (hK : ∀ v' w', Owns B w' v' (l ++ [UInt8.ofNat c]) → Fr B 5 w w' → K (a.put o.dst v') w') :
    if Region.wanted o (yielded ops a.tmps) = true then Oper.wp Tryz.prog o a w K Q else E := by
  obtain ⟨i0, hi, hz0, hz1, hz2⟩ := info_parts info_u8
  refine step_append_own hg s x 91 hop B 5 i0 (.int .u8 0) 1 1 Tryz.underlying91 hi hz0 hz1 hz2 rfl (by decide) v l.length (byteC l) hs ho ⟨g, 0, none⟩ 1 1 [.int .u8 (c : Int)] hx rfl ?_ ?_ (by unfold maxLen; omega) (by omega) hb ?_
  · intro j u hj
    match j, hj with
    | 0, hj => simp at hj; subst hj; exact hcell
  · intro u hu; simp at hu; subst hu; rfl
  · intro v' w' h1 h2
    refine hK v' w' ?_ ((Fr.refl _ _ _).grown ho h2 hb)
    unfold Owns
    rw [byteC_append, ← byteC_one c hc, List.length_append]
    exact h1
theorem div_cast (u k : Nat) : (u : Int) / 2 ^ (k * 7) % 256 = ((u / 128 ^ k % 256 : Nat) : Int) := by
  rw [pow128, Nat.mul_comm 7 k]; simp
theorem byte_round {u k : Nat} (hu : u < 18446744073709551616) (h0 : 0 < k) (hk : k < grps u) : ∃ c : Nat, c < 256 ∧ bits .or .u8 (bits .and .u8 ((u : Int) / 2 ^ (k * 7) % 256) 127) 128 = (c : Int) ∧
    hiB (u / 128 ^ k) = hiB (u / 128 ^ (k + 1)) ++ [UInt8.ofNat c] :=
  ⟨u / 128 ^ k % 128 + 128, by omega, by rw [div_cast, byte_hi], hiB_round hu h0 hk⟩
theorem byte_low {u : Nat} (_hu : u < 18446744073709551616) : bits .and .u8 ((u : Int) % 256) 127 = ((u % 128 : Nat) : Int) := by
  have := byte_lo u
  rw [← this]; congr 1
theorem hiB_le10 {u : Nat} (hu : u < 18446744073709551616) (k : Nat) : (hiB (u / 128 ^ k)).length ≤ 10 :=
  hiB_length 10 (Nat.lt_of_le_of_lt (Nat.div_le_self _ _) (Nat.lt_of_lt_of_le hu (by decide)))
set_option maxHeartbeats 1000000 in
theorem appendNumber_any (B : Nat) (v : Value) (l : List UInt8) (x : Int) (w : World) (hB : B ≤ w.heap.size) (ho : Owns B w v l) (h0 : -9223372036854775808 ≤ x) (h1 : x < 9223372036854775808) (hl : l.length ≤ 140737488355000) :
    Calls Tryz.prog 129 #[v, .int .i64 x] w fun e w' => ∃ v', e = .returned v' ∧ Owns B w' v' (l ++ numB (zig x)) ∧ Fr B 5 w w' := by
  have hu : zig x < 18446744073709551616 := zig_lt h0 h1
  have hf := fold_any x w h0 h1
  generalize hz : zig x = u at *
  have Hz := hide hz
  clear hz
  have hg := grps_le hu
  have hbl := bitLen_le64 hu
  have Hf := hide hf
  clear hf
  have hlen := Tryz.bits_Len64 (u : Int) w (by omega) (by omega)
  rw [Int.toNat_natCast] at hlen
  have Hlen := hide hlen
  clear hlen
  obtain ⟨i0, hi, hz0, hz1, hz2⟩ := info_parts info_u8
  go_enter Tryz.func129, Tryz.ntmps129
  go_wp2_with fail
  refine (unhide Hf).mono ?_
  rintro e w1 ⟨rfl, rfl⟩
  go_wp2_with fail
  refine (unhide Hlen).mono ?_
  rintro e w2 ⟨rfl, rfl⟩
  go_wp2_with fail
  go_loopw [0, 7] (fun v' g wr => ∃ k : Nat, k < grps u ∧ g = .int .i64 (k : Int) ∧ Owns B wr v' (l ++ hiB (u / 128 ^ (k + 1))) ∧ Fr B 5 w2 wr) (fun _ g _ => (intOf g).toNat)
  case atStart => exact ⟨grps u - 1, by omega, congrArg (Value.int .i64) (by unfold grps; omega), by rw [show grps u - 1 + 1 = grps u by omega, grps_top hu, hiB_zero, List.append_nil]; exact ho, Fr.refl _ _ _⟩
  case round =>
    obtain ⟨k, hk, rfl, hown, hfr⟩ := hrel
    by_cases hk0 : 0 < k
    · obtain ⟨c, hc, hby, hR⟩ := byte_round (u := u) (k := k) hu hk0 hk
      have HR := hide hR
      clear hR
      have hle : (hiB (u / 128 ^ (k + 1))).length ≤ 10 := hiB_le10 hu _
      go_wp2_with (at_builtin; refine wpList_append_own _ rfl _ _ 91 rfl B 5 i0 (.int .u8 0) 1 1 Tryz.underlying91 hi hz0 hz1 hz2 rfl (by decide) _ _ _ rfl (hown.alloc _) ⟨wr.heap.size, 0, none⟩ 1 1 [.int .u8 (c : Int)] rfl rfl ?c1 ?c2 ?c3 ?c4 ?c5 ?_)
      case c1 => exact cell_one_new _ _ _
      case c2 => intro u hu; simp at hu; subst hu; rfl
      case c3 => unfold maxLen; rw [List.length_append]; omega
      case c4 => rw [List.length_append]; omega
      case c5 => have := hfr.size; simp; omega
      · intro v' w3 hown' hgrow _
        have hfr' : Fr B 5 w2 w3 := (hfr.alloc (by have := hfr.size; omega) _).grown (hown.alloc _) hgrow (by have := hfr.size; simp; omega)
        have hown2 : Owns B w3 v' (l ++ hiB (u / 128 ^ k)) := by
          rw [unhide HR, ← List.append_assoc]
          unfold Owns
          rw [byteC_append, ← byteC_one c hc, List.length_append, List.length_append]
          exact hown'
        clear hown' hgrow hown hfr
        go_wp2
        go_roundw
        case rel => exact ⟨k - 1, by omega, by go_num, by rw [show k - 1 + 1 = k by omega]; exact hown2, hfr'⟩
        case measure => simp [intOf]; omega
    · obtain rfl : k = 0 := by omega
      rw [Nat.zero_add, Nat.pow_one] at hown
      have hle : (hiB (u / 128)).length ≤ 10 := by have := hiB_le10 hu 1; rwa [Nat.pow_one] at this
      have hby := byte_low hu
      go_wp2_with (at_builtin; refine wpList_append_own _ rfl _ _ 91 rfl B 5 i0 (.int .u8 0) 1 1 Tryz.underlying91 hi hz0 hz1 hz2 rfl (by decide) _ _ _ rfl (hown.alloc _) ⟨wr.heap.size, 0, none⟩ 1 1 [.int .u8 ((u % 128 : Nat) : Int)] rfl rfl ?d1 ?d2 ?d3 ?d4 ?d5 ?_)
      case d1 => exact cell_one_new _ _ _
      case d2 => intro u hu; simp at hu; subst hu; rfl
      case d3 => unfold maxLen; rw [List.length_append]; omega
      case d4 => rw [List.length_append]; omega
      case d5 => have := hfr.size; simp; omega
      intro v' w3 hown' hgrow _
      have hfr' : Fr B 5 w2 w3 := (hfr.alloc (by have := hfr.size; omega) _).grown (hown.alloc _) hgrow (by have := hfr.size; simp; omega)
      have hown2 : Owns B w3 v' (l ++ numB u) := by
        unfold numB
        rw [← List.append_assoc]
        unfold Owns
        rw [byteC_append, ← byteC_one (u % 128) (by omega), List.length_append, List.length_append, show ((u % 128 : Nat) : Int) = (u : Int) % 128 from by omega]
        exact hown'
      clear hown' hgrow hown hfr
      go_wp2
      go_ret
      exact ⟨v', rfl, hown2, hfr'⟩
end Go.Proofs.YtdmckgcbmbhmmaaGreatDoor
namespace Go.Proofs.YtdmckgcbmbhmmaaGreatDoor
open Go.RowKit

/-- An item's bytes. -/
def itemB (t : Bool) (n : Int) (s : ByteArray) : List UInt8 := if t then 2 :: (numB (zig s.size) ++ s.data.toList) else 1 :: numB (zig n)
/-- May an item be? -/
def mayB (t : Bool) (n : Int) (s : ByteArray) : Bool := if t then n == 0 else s.toList.isEmpty
set_option maxHeartbeats 400000 in
theorem mayBe_any (t : Bool) (n : Int) (s : ByteArray) (w : World) :
    Calls Tryz.prog 113 #[.agg #[.bool t, .int .i64 n, .string s]] w fun e w' => e = .returned (.bool (mayB t n s)) ∧ w' = w.alloc (.cells #[.bool t, .int .i64 n, .string s] 118) := by
  cases t
  · go_enter Tryz.func113, Tryz.ntmps113
    go_wp2
    go_ret
    exact ⟨rfl, rfl⟩
  · go_enter Tryz.func113, Tryz.ntmps113
    go_wp2
    go_ret
    exact ⟨rfl, rfl⟩
/-- The box of an item lies there. -/
def BoxAt (k : Nat) (t : Bool) (n : Int) (s : ByteArray) (w : World) : Prop :=
  w.heap[k]? = some (.cells #[.bool t, .int .i64 n, .string s] 118 (0, 0))
theorem BoxAt.cells {k : Nat} {t : Bool} {n : Int} {s : ByteArray} {w : World} (h : BoxAt k t n s w) :
    w.cell? ⟨k, 0, none⟩ = some (.bool t) ∧ w.cell? ⟨k, 1, none⟩ = some (.int .i64 n) ∧ w.cell? ⟨k, 2, none⟩ = some (.string s) := by
  unfold BoxAt at h
  simp [World.cell?, h]
theorem BoxAt.fr {k B : Nat} {t : Bool} {n : Int} {s : ByteArray} {w w' : World} (h : BoxAt k t n s w) (hf : Fr B 5 w w') : BoxAt k t n s w' := hf.keep h (by decide)
def HoldS (k : Nat) (t : Bool) (n : Int) (s : ByteArray) (w : World) : Prop := BoxAt k t n s w ∧ w.cell? ⟨k, 1, none⟩ = some (.int .i64 n) ∧ w.cell? ⟨k, 2, none⟩ = some (.string s)
theorem HoldS.of {k : Nat} {t : Bool} {n : Int} {s : ByteArray} {w : World} (h : BoxAt k t n s w) : BoxAt k t n s w ∧ w.cell? ⟨k, 1, none⟩ = some (.int .i64 n) ∧ w.cell? ⟨k, 2, none⟩ = some (.string s) := ⟨h, h.cells.2.1, h.cells.2.2⟩
set_option maxHeartbeats 1000000 in
set_option maxRecDepth 100000 in
theorem appendItem_num (B : Nat) (v : Value) (l : List UInt8) (n : Int) (s : ByteArray) (w : World) (hB : B ≤ w.heap.size) (ho : Owns B w v l) (h0 : -9223372036854775808 ≤ n) (h1 : n < 9223372036854775808) (hl : l.length ≤ 140737488354000) :
    Calls Tryz.prog 114 #[v, .agg #[.bool false, .int .i64 n, .string s]] w fun e w' => ∃ v', e = .returned v' ∧ Owns B w' v' (l ++ itemB false n s) ∧ Fr B 5 w w' := by
  go_enter Tryz.func114, Tryz.ntmps114
  go_wp2_with fail
  have hblk : BoxAt w.heap.size false n s (w.alloc (.cells #[.bool false, .int .i64 n, .string s] 118)) := heap_alloc_new w _
  generalize hW : w.alloc (.cells #[.bool false, .int .i64 n, .string s] 118) = W at *
  have hoW : Owns B W v l := hW ▸ ho.alloc _
  have hsz : w.heap.size < W.heap.size := by rw [← hW]; simp
  have hfW : Fr B 5 w W := hW ▸ (Fr.refl B _ w).alloc hB _
  clear hW ho
  generalize w.heap.size = k at *
  have hcW := hblk.cells
  have hf0 : Fr B 5 W (W.alloc (.cells #[.int .u8 1] 5)).drew := ((Fr.refl B _ W).alloc (by omega) _).drew
  have hs1 : B ≤ (W.alloc (.cells #[.int .u8 1] 5)).drew.heap.size := by simp; omega
  have hc1 : (W.alloc (.cells #[.int .u8 1] 5)).drew.cell? ⟨W.heap.size, 0, none⟩ = some (.int .u8 ((1 : Nat) : Int)) := by simp
  have HF0 := hide hf0
  have HC1 := hide hc1
  clear hf0 hc1
  go_region_held3 (fun w' => BoxAt k false n s w' ∧ w'.cell? ⟨k, 1, none⟩ = some (.int .i64 n) ∧ w'.cell? ⟨k, 2, none⟩ = some (.string s)) (first | exact HoldS.of hblk | exact HoldS.of (hblk.fr (unhide HF0)) | exact HoldS.of (hblk.fr ((unhide HF0).trans hf1)) | exact HoldS.of (hblk.fr (((unhide HF0).trans hf1).trans hf2)))
    (first
      | (refine step_byte rfl (.tmp 8) (.tmp 9) rfl B v l 1 rfl (hoW.alloc _).drew W.heap.size rfl (unhide HC1) (by omega) (by omega) hs1 ?_; intro v1 w1 ho1 hf1)
      | (go_at_call 129; refine (appendNumber_any B v1 (l ++ [UInt8.ofNat 1]) n w1 ?_ ho1 h0 h1 ?_).mono ?_; exact Nat.le_trans hs1 hf1.size; (rw [List.length_append]; simp; omega); rintro e w2 ⟨v2, rfl, ho2, hf2⟩))
  go_wp2
  go_ret
  exact ⟨_, rfl, by unfold itemB; simpa using ho2, ((hfW.trans (unhide HF0)).trans hf1).trans hf2⟩
set_option maxHeartbeats 1000000 in
set_option maxRecDepth 100000 in
theorem appendItem_text (B : Nat) (v : Value) (l : List UInt8) (n : Int) (s : ByteArray) (w : World) (hB : B ≤ w.heap.size) (ho : Owns B w v l) (hl : l.length + s.size ≤ 140737488354000) :
    Calls Tryz.prog 114 #[v, .agg #[.bool true, .int .i64 n, .string s]] w fun e w' => ∃ v', e = .returned v' ∧ Owns B w' v' (l ++ itemB true n s) ∧ Fr B 5 w w' := by
  obtain ⟨i0, hi, hz0, hz1, hz2⟩ := info_parts info_u8
  go_enter Tryz.func114, Tryz.ntmps114
  go_wp2_with fail
  have hblk : BoxAt w.heap.size true n s (w.alloc (.cells #[.bool true, .int .i64 n, .string s] 118)) := heap_alloc_new w _
  generalize hW : w.alloc (.cells #[.bool true, .int .i64 n, .string s] 118) = W at *
  have hoW : Owns B W v l := hW ▸ ho.alloc _
  have hsz : w.heap.size < W.heap.size := by rw [← hW]; simp
  have hfW : Fr B 5 w W := hW ▸ (Fr.refl B _ w).alloc hB _
  clear hW ho
  generalize w.heap.size = k at *
  have hcW := hblk.cells
  have hf0 : Fr B 5 W (W.alloc (.cells #[.int .u8 2] 5)).drew := ((Fr.refl B _ W).alloc (by omega) _).drew
  have hs1 : B ≤ (W.alloc (.cells #[.int .u8 2] 5)).drew.heap.size := by simp; omega
  have hc1 : (W.alloc (.cells #[.int .u8 2] 5)).drew.cell? ⟨W.heap.size, 0, none⟩ = some (.int .u8 ((2 : Nat) : Int)) := by simp
  have HF0 := hide hf0
  have HC1 := hide hc1
  clear hf0 hc1
  go_region_held3 (fun w' => BoxAt k true n s w' ∧ w'.cell? ⟨k, 1, none⟩ = some (.int .i64 n) ∧ w'.cell? ⟨k, 2, none⟩ = some (.string s)) (first | exact HoldS.of hblk | exact HoldS.of (hblk.fr (unhide HF0)) | exact HoldS.of (hblk.fr ((unhide HF0).trans hf1)) | exact HoldS.of (hblk.fr (((unhide HF0).trans hf1).trans hf2)))
    (first
      | (refine step_byte rfl (.tmp 14) (.tmp 15) rfl B v l 2 rfl (hoW.alloc _).drew W.heap.size rfl (unhide HC1) (by omega) (by omega) hs1 ?_; intro v1 w1 ho1 hf1)
      | (go_at_call 129; refine (appendNumber_any B v1 (l ++ [UInt8.ofNat 2]) (s.size : Int) w1 ?_ ho1 (by omega) (by omega) ?_).mono ?_; exact Nat.le_trans hs1 hf1.size; (rw [List.length_append]; simp; omega); rintro e w2 ⟨v2, rfl, ho2, hf2⟩))
  have hfin := ((hfW.trans (unhide HF0)).trans hf1).trans hf2
  have hb2 : BoxAt k true n s w2 := hblk.fr (((unhide HF0).trans hf1).trans hf2)
  have hc2 := hb2.cells
  have hB2 : B ≤ w2.heap.size := Nat.le_trans (Nat.le_trans hs1 hf1.size) hf2.size
  have hnl := (numB_length (u := zig (s.size : Int)) (zig_lt (by omega) (by omega))).2
  have hl2 : (l ++ [UInt8.ofNat 2] ++ numB (zig (s.size : Int))).length = l.length + 1 + (numB (zig (s.size : Int))).length := by simp; omega
  generalize hL : l ++ [UInt8.ofNat 2] ++ numB (zig (s.size : Int)) = L at *
  have HL := hide hL
  clear hL
  have Hl2 := hide hl2
  have HB := hide hblk
  have Hb2 := hide hb2
  clear hblk hb2 hl2 hf1 hf2 ho1 hoW hcW hs1
  go_wp2_with (at_builtin; refine Lib.wpList_append_own_string _ rfl _ _ 91 9 rfl B 5 i0 Tryz.underlying91 Tryz.underlying9 hi hz0 hz1 hz2 v2 _ _ rfl ho2 s rfl ?a1 ?a2 ?a3 ?_)
  case a1 => unfold maxLen; rw [unhide Hl2]; omega
  case a2 => rw [unhide Hl2]; omega
  case a3 => exact hB2
  intro v3 w3 ho3 hg3 _
  have hf3 := hfin.grown ho2 hg3 hB2
  have ho4 : Owns B w3 v3 (l ++ itemB true n s) := by
    have e : l ++ itemB true n s = L ++ s.data.toList := by rw [← unhide HL]; simp [itemB]
    rw [e]
    unfold Owns
    rw [byteC_append, List.length_append, ← byteC_str, Array.length_toList]
    exact ho3
  clear ho3 hg3 ho2
  go_wp2
  go_ret
  exact ⟨_, rfl, ho4, hf3⟩
theorem appendItem_any (B : Nat) (v : Value) (l : List UInt8) (t : Bool) (n : Int) (s : ByteArray) (w : World) (hB : B ≤ w.heap.size) (ho : Owns B w v l) (h0 : -9223372036854775808 ≤ n) (h1 : n < 9223372036854775808) (hl : l.length + s.size ≤ 140737488354000) :
    Calls Tryz.prog 114 #[v, .agg #[.bool t, .int .i64 n, .string s]] w fun e w' => ∃ v', e = .returned v' ∧ Owns B w' v' (l ++ itemB t n s) ∧ Fr B 5 w w' := by
  cases t
  · exact appendItem_num B v l n s w hB ho h0 h1 (by omega)
  · exact appendItem_text B v l n s w hB ho hl
end Go.Proofs.YtdmckgcbmbhmmaaGreatDoor
