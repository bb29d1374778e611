/-
  appendNumber: a row of bytes that the call itself made has, behind the call, the number's bytes at its end.
-/
import Derived.Test.YtijckimjcogfjaaLeaf0
namespace Go.Proofs.Ytijckimjcogfjaa
open Go.RowKit

theorem info_u8 : (Try.prog.info? 5).map (fun i => (i.zero, i.size, i.bytes)) = some (some (.int .u8 0), 1, 1) := by kernel_rfl
/-- A row of bytes of the call's own. -/
def Owns (B : Nat) (w : World) (v : Value) (l : List UInt8) : Prop := w.ownsRow B 5 1 v l.length (byteC l)
theorem Owns.nil (B : Nat) (w : World) : Owns B w (.slice none 0 0) [] := World.ownsRow_nil _ _ _ _
theorem Owns.alloc {B : Nat} {w : World} {v : Value} {l : List UInt8} (h : Owns B w v l) (o : Obj) : Owns B (w.alloc o) v l := World.ownsRow.alloc h o
theorem Owns.drew {B : Nat} {w : World} {v : Value} {l : List UInt8} (h : Owns B w v l) : Owns B w.drew v l := h
/-- One byte more, as one step of a statement whose order is drawn. -/
theorem step_byte {ops : Array Oper} {o : Oper} {a : Act} {w : World} {K : Act → World → Prop} {Q : Exit → Act → World → Prop} {E : Prop}
    (hg : o.guard = none) (s x : Operand) (hop : o.op = Op.call { callee := Callee.builtin Builtin.append, args := #[s, x], argTypes := #[82, 82] })
    (B : Nat) (v : Value) (l : List UInt8) (c : Nat) (hs : a.eval s = v) (ho : Owns B w v l) (g : Nat) (hx : a.eval x = .slice (some ⟨g, 0, none⟩) 1 1) (hcell : w.cell? ⟨g, 0, none⟩ = some (.int .u8 (c : Int))) (hc : c < 256)
    (hl : l.length ≤ 140737488355000) (hb : B ≤ w.heap.size)
    (hK : ∀ v' w', Owns B w' v' (l ++ [UInt8.ofNat c]) → Fr B 5 w w' → K (a.put o.dst v') w') :
    if Region.wanted o (yielded ops a.tmps) = true then Oper.wp Try.prog o a w K Q else E := by
  obtain ⟨i0, hi, hz0, hz1, hz2⟩ := info_parts info_u8
  refine step_append_own hg s x 82 hop B 5 i0 (.int .u8 0) 1 1 Try.underlying82 hi hz0 hz1 hz2 rfl (by decide) v l.length (byteC l) hs ho ⟨g, 0, none⟩ 1 1 [.int .u8 (c : Int)] hx rfl ?_ ?_ (by unfold maxLen; omega) (by omega) hb ?_
  · intro j u hj
    match j, hj with
    | 0, hj => simp at hj; subst hj; exact hcell
  · intro u hu; simp at hu; subst hu; rfl
  · intro v' w' h1 h2
    refine hK v' w' ?_ ((Fr.refl _ _ _).grown ho h2 hb)
    unfold Owns
    rw [byteC_append, ← byteC_one c hc, List.length_append]
    exact h1
theorem div_cast (u k : Nat) : (u : Int) / 2 ^ (k * 7) % 256 = ((u / 128 ^ k % 256 : Nat) : Int) := by
  rw [pow128, Nat.mul_comm 7 k]; simp
theorem byte_round {u k : Nat} (hu : u < 18446744073709551616) (h0 : 0 < k) (hk : k < grps u) : ∃ c : Nat, c < 256 ∧ bits .or .u8 (bits .and .u8 ((u : Int) / 2 ^ (k * 7) % 256) 127) 128 = (c : Int) ∧
    hiB (u / 128 ^ k) = hiB (u / 128 ^ (k + 1)) ++ [UInt8.ofNat c] :=
  ⟨u / 128 ^ k % 128 + 128, by omega, by rw [div_cast, byte_hi], hiB_round hu h0 hk⟩
theorem byte_low {u : Nat} (_hu : u < 18446744073709551616) : bits .and .u8 ((u : Int) % 256) 127 = ((u % 128 : Nat) : Int) := by
  have := byte_lo u
  rw [← this]; congr 1
theorem hiB_le10 {u : Nat} (hu : u < 18446744073709551616) (k : Nat) : (hiB (u / 128 ^ k)).length ≤ 10 :=
  hiB_length 10 (Nat.lt_of_le_of_lt (Nat.div_le_self _ _) (Nat.lt_of_lt_of_le hu (by decide)))
set_option maxHeartbeats 1000000 in
theorem appendNumber_any (B : Nat) (v : Value) (l : List UInt8) (x : Int) (w : World) (hB : B ≤ w.heap.size) (ho : Owns B w v l) (h0 : -9223372036854775808 ≤ x) (h1 : x < 9223372036854775808) (hl : l.length ≤ 140737488355000) :
    Calls Try.prog 64 #[v, .int .i64 x] w fun e w' => ∃ v', e = .returned v' ∧ Owns B w' v' (l ++ numB (zig x)) ∧ Fr B 5 w w' := by
  have hu : zig x < 18446744073709551616 := zig_lt h0 h1
  have hf := fold_any x w h0 h1
  generalize hz : zig x = u at *
  have Hz := hide hz
  clear hz
  have hg := grps_le hu
  have hbl := bitLen_le64 hu
  have Hf := hide hf
  clear hf
  have hlen := Try.bits_Len64 (u : Int) w (by omega) (by omega)
  rw [Int.toNat_natCast] at hlen
  have Hlen := hide hlen
  clear hlen
  obtain ⟨i0, hi, hz0, hz1, hz2⟩ := info_parts info_u8
  go_enter Try.func64, Try.ntmps64
  go_wp2_with fail
  refine (unhide Hf).mono ?_
  rintro e w1 ⟨rfl, rfl⟩
  go_wp2_with fail
  refine (unhide Hlen).mono ?_
  rintro e w2 ⟨rfl, rfl⟩
  go_wp2_with fail
  go_loopw [0, 7] (fun v' g wr => ∃ k : Nat, k < grps u ∧ g = .int .i64 (k : Int) ∧ Owns B wr v' (l ++ hiB (u / 128 ^ (k + 1))) ∧ Fr B 5 w2 wr) (fun _ g _ => (intOf g).toNat)
  case atStart => exact ⟨grps u - 1, by omega, congrArg (Value.int .i64) (by unfold grps; omega), by rw [show grps u - 1 + 1 = grps u by omega, grps_top hu, hiB_zero, List.append_nil]; exact ho, Fr.refl _ _ _⟩
  case round =>
    obtain ⟨k, hk, rfl, hown, hfr⟩ := hrel
    by_cases hk0 : 0 < k
    · obtain ⟨c, hc, hby, hR⟩ := byte_round (u := u) (k := k) hu hk0 hk
      have HR := hide hR
      clear hR
      have hle : (hiB (u / 128 ^ (k + 1))).length ≤ 10 := hiB_le10 hu _
      go_wp2_with (at_builtin; refine wpList_append_own _ rfl _ _ 82 rfl B 5 i0 (.int .u8 0) 1 1 Try.underlying82 hi hz0 hz1 hz2 rfl (by decide) _ _ _ rfl (hown.alloc _) ⟨wr.heap.size, 0, none⟩ 1 1 [.int .u8 (c : Int)] rfl rfl ?c1 ?c2 ?c3 ?c4 ?c5 ?_)
      case c1 => exact cell_one_new _ _ _
      case c2 => intro u hu; simp at hu; subst hu; rfl
      case c3 => unfold maxLen; rw [List.length_append]; omega
      case c4 => rw [List.length_append]; omega
      case c5 => have := hfr.size; simp; omega
      · intro v' w3 hown' hgrow _
        have hfr' : Fr B 5 w2 w3 := (hfr.alloc (by have := hfr.size; omega) _).grown (hown.alloc _) hgrow (by have := hfr.size; simp; omega)
        have hown2 : Owns B w3 v' (l ++ hiB (u / 128 ^ k)) := by
          rw [unhide HR, ← List.append_assoc]
          unfold Owns
          rw [byteC_append, ← byteC_one c hc, List.length_append, List.length_append]
          exact hown'
        clear hown' hgrow hown hfr
        go_wp2
        go_roundw
        case rel => exact ⟨k - 1, by omega, by go_num, by rw [show k - 1 + 1 = k by omega]; exact hown2, hfr'⟩
        case measure => simp [intOf]; omega
    · obtain rfl : k = 0 := by omega
      rw [Nat.zero_add, Nat.pow_one] at hown
      have hle : (hiB (u / 128)).length ≤ 10 := by have := hiB_le10 hu 1; rwa [Nat.pow_one] at this
      have hby := byte_low hu
      go_wp2_with (at_builtin; refine wpList_append_own _ rfl _ _ 82 rfl B 5 i0 (.int .u8 0) 1 1 Try.underlying82 hi hz0 hz1 hz2 rfl (by decide) _ _ _ rfl (hown.alloc _) ⟨wr.heap.size, 0, none⟩ 1 1 [.int .u8 ((u % 128 : Nat) : Int)] rfl rfl ?d1 ?d2 ?d3 ?d4 ?d5 ?_)
      case d1 => exact cell_one_new _ _ _
      case d2 => intro u hu; simp at hu; subst hu; rfl
      case d3 => unfold maxLen; rw [List.length_append]; omega
      case d4 => rw [List.length_append]; omega
      case d5 => have := hfr.size; simp; omega
      intro v' w3 hown' hgrow _
      have hfr' : Fr B 5 w2 w3 := (hfr.alloc (by have := hfr.size; omega) _).grown (hown.alloc _) hgrow (by have := hfr.size; simp; omega)
      have hown2 : Owns B w3 v' (l ++ numB u) := by
        unfold numB
        rw [← List.append_assoc]
        unfold Owns
        rw [byteC_append, ← byteC_one (u % 128) (by omega), List.length_append, List.length_append, show ((u % 128 : Nat) : Int) = (u : Int) % 128 from by omega]
        exact hown'
      clear hown' hgrow hown hfr
      go_wp2
      go_ret
      exact ⟨v', rfl, hown2, hfr'⟩
end Go.Proofs.Ytijckimjcogfjaa
