/-
  The document's answer for a list's bytes (Bytes) is the plain function's.
-/
import Derived.Test.YtijckimjcogfjaaRefL
import Derived.Test.YtijckimjcogfjaaAppS
namespace Go.Proofs.Ytijckimjcogfjaa
open Go.RowKit

theorem Owns.below {B B' : Nat} {w w' : World} {v : Value} {l : List UInt8} (h : Owns B w v l) (hb : Below B' w w') (hB : w.heap.size ≤ B') : Owns B w' v l := by
  refine World.ownsRow.kept (row := none) h ⟨hb.os, hb.tape, hb.output, hb.size, fun k hk _ => hb.block k (by omega)⟩ ?_
  cases v.ownBlock
  · exact Or.inl rfl
  · exact Or.inr (by simp)
theorem itemB_size (t : Bool) (n : Int) (s : ByteArray) (h0 : -9223372036854775808 ≤ n) (h1 : n < 9223372036854775808) (hs : s.size ≤ 140737488351232) : (⟨(itemB t n s).toArray⟩ : ByteArray).size ≤ s.size + 11 := by
  show (List.toArray _).size ≤ _
  rw [List.size_toArray]
  unfold itemB
  split
  · have := (numB_length (u := zig (s.size : Int)) (zig_lt (by omega) (by omega))).2
    have e : s.data.toList.length = s.size := Array.length_toList
    rw [List.length_cons, List.length_append]; omega
  · have := (numB_length (u := zig n) (zig_lt h0 h1)).2
    rw [List.length_cons]; omega
set_option maxHeartbeats 1000000 in
set_option maxRecDepth 100000 in
theorem refBytes_any (ad : Option Addr) (cap : Nat) (l : List It) (w : World) (hlen : l.length ≤ 9223372036854775807) (hA : ItemsAt w ad l) (hok : ∀ x ∈ l, x.ok) (hsz : ∀ x ∈ l, x.s.size ≤ 140737488351232) :
    Calls Try.prog 52 #[.slice ad l.length cap] w fun e w' => ∃ k, k ≤ l.length ∧ e = .returned (.string ⟨(listB (l.take k)).toArray⟩) ∧ (k = l.length ∨ 262144 < (listB (l.take k)).length) ∧ Below w.heap.size w w' := by
  have HA := hide hA
  have HO := hide hok
  have HZ := hide hsz
  clear hA hok hsz
  go_enter Try.func52, Try.ntmps52
  go_wp2_with fail
  go_loopw [3, 4] (fun v i wr => ∃ k : Nat, k ≤ l.length ∧ i = .int .i64 k ∧ Owns w.heap.size wr v (listB (l.take k)) ∧ Below w.heap.size w wr) (fun _ i _ => l.length - (intOf i).toNat)
  case atStart => exact ⟨0, Nat.zero_le _, rfl, Owns.nil _ _, Below.refl _ _⟩
  case round =>
    obtain ⟨k, hk, rfl, hown, hbel⟩ := hrel
    obtain ⟨av, cv, rfl⟩ := hown.form
    have hz := hbel.size
    by_cases hlt : k < l.length
    · by_cases hbig : 262144 < (listB (l.take k)).length
      · have hcv := hown.string
        have hfin : ∃ k', k' ≤ l.length ∧ Ending.returned (.string ⟨(listB (l.take k)).toArray⟩) = .returned (.string ⟨(listB (l.take k')).toArray⟩) ∧ (k' = l.length ∨ 262144 < (listB (l.take k')).length) ∧ Below w.heap.size w wr := ⟨k, hk, rfl, Or.inr hbig, hbel⟩
        have HF := hide hfin
        clear hfin
        generalize listB (l.take k) = L at *
        generalize L.length = m at *
        go_wp2
        go_ret
        exact unhide HF
      · obtain ⟨b, off, rfl, hbw, hc⟩ := (unhide HA).below hbel (Nat.le_refl _) (fun e => by rw [e] at hlt; simp at hlt)
        obtain ⟨c0, c1, c2⟩ := hc k hlt
        clear hc
        have hxok := unhide HO l[k] (List.getElem_mem hlt)
        have hxs := unhide HZ l[k] (List.getElem_mem hlt)
        have hsucc := listB_take_succ hlt
        generalize hx : l[k] = x at *
        clear hx
        obtain ⟨t, n, s⟩ := x
        obtain ⟨o0, o1, o2⟩ := hxok
        dsimp only at o0 o1 o2 hxs
        have hone := fun w => refOne_any t n s w o0 o1 hxs
        have hos := itemB_size t n s o0 o1 hxs
        have hbl : (⟨(itemB t n s).toArray⟩ : ByteArray).data.toList = It.b ⟨t, n, s⟩ := rfl
        generalize (⟨(itemB t n s).toArray⟩ : ByteArray) = Z at *
        have HS := hide hsucc
        have HONE := hide hone
        have HBL := hide hbl
        generalize hL : listB (l.take k) = L at *
        clear hsucc hone hbl o2 hL
        go_wp2_with fail
        refine (unhide HONE _).mono ?_
        rintro e w1 ⟨rfl, hb1⟩
        have hbel1 := hbel.trans (hb1.mono hz)
        have hz1 := hbel1.size
        have hown1 : Owns w.heap.size w1 (.slice av L.length cv) L := hown.below hb1 (Nat.le_refl _)
        clear hown hbel hb1
        go_wp2_with (at_builtin; refine wpList_appS rfl _ _ rfl _ L rfl hown1 Z rfl (by omega) hz1 ?_)
        intro v2 w2 hown2 hfr
        have hbel2 := hbel1.trans hfr.below
        have hown3 : Owns w.heap.size w2 v2 (listB (l.take (k + 1))) := by rw [unhide HS, ← unhide HBL]; exact hown2
        clear hown2 hfr hown1 hbel1
        go_wp2
        go_roundw
        case rel => exact ⟨k + 1, by omega, by go_num, hown3, hbel2⟩
        case measure => simp [intOf]; omega
    · obtain rfl : k = l.length := by omega
      have hcv := hown.string
      have hfin : ∃ k', k' ≤ l.length ∧ Ending.returned (.string ⟨(listB (l.take l.length)).toArray⟩) = .returned (.string ⟨(listB (l.take k')).toArray⟩) ∧ (k' = l.length ∨ 262144 < (listB (l.take k')).length) ∧ Below w.heap.size w wr := ⟨l.length, hk, rfl, Or.inl rfl, hbel⟩
      have HF := hide hfin
      clear hfin
      generalize listB (l.take l.length) = L at *
      generalize L.length = m at *
      go_wp2
      go_ret
      exact unhide HF
end Go.Proofs.Ytijckimjcogfjaa
