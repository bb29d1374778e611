/-
  bodyOf and Unframe: what stands at a place is found to be a frame, or what is wrong is told, as the plain functions have it.
-/
import Derived.Test.YtllkkflolijpaaaDoorFra
import Derived.Test.YtllkkflolijpaaaDoorFBx
namespace Go.Proofs.YtllkkflolijpaaaDoor
open Go.RowKit

/-- The body of the frame that bytes begin with, and what is wrong. -/
def bodyS (l : List UInt8) : List UInt8 × Int :=
  if l.length < 2 ∧ Lib.hasPrefix [87, 70] l = true then ([], 11) else if Lib.hasPrefix l [87, 70] = false then ([], 3) else if l.length < 10 then ([], 11) else
  if 65536 < unw4 (l.drop 2) then ([], 2) else if (l.drop 10).length < unw4 (l.drop 2) then ([], 11) else
  if sumOf (l.take 6 ++ (l.drop 10).take (unw4 (l.drop 2))) ≠ unw4 (l.drop 6) then ([], 10) else ((l.drop 10).take (unw4 (l.drop 2)), 0)
theorem unw4_lt (l : List UInt8) : unw4 l < 4294967296 := by
  unfold unw4
  split
  · rename_i a b c d _
    have := a.toNat_lt; have := b.toNat_lt; have := c.toNat_lt; have := d.toNat_lt
    omega
  · decide
theorem ext_drop (b : ByteArray) (k : Nat) : (b.extract k b.size).data.toList = b.data.toList.drop k := by
  rw [Lib.extract_data, List.take_of_length_le]
  rw [List.length_drop, Array.length_toList]; exact Nat.le_refl _
theorem ext_pre (b : ByteArray) (k : Nat) : (b.extract 0 k).data.toList = b.data.toList.take k := by
  rw [Lib.extract_data, List.drop_zero]; rfl
theorem TabW.alloc {w : World} (h : TabW w) (o : Obj) : TabW (w.alloc o) := h.below ((Below.refl w.heap.size w).alloc (Nat.le_refl _) o) h.1
theorem TabW.drewN {w : World} (h : TabW w) (n : Nat) : TabW (w.drewN n) := h
set_option maxHeartbeats 2000000 in
theorem bodyOf_any (b : ByteArray) (w : World) (hb : b.size ≤ 9223372036854775807) (hT : TabW w) :
    Calls Tryd.prog 51 #[.string b] w fun e w' => e = .returned (.tuple #[.string ⟨(bodyS b.data.toList).1.toArray⟩, .int .i64 (bodyS b.data.toList).2]) ∧ ∃ n, w' = w.drewN n := by
  have hlen : b.data.toList.length = b.size := Array.length_toList
  generalize hR : bodyS b.data.toList = R
  unfold bodyS at hR
  rw [List.length_drop, hlen] at hR
  have p1 := fun w => Tryd.strings_HasPrefix ⟨#[87, 70]⟩ b w
  have p2 := fun w => Tryd.strings_HasPrefix b ⟨#[87, 70]⟩ w
  rw [show ({ data := #[87, 70] } : ByteArray).data.toList = [87, 70] from rfl] at p1 p2
  have P1 := hide p1
  have P2 := hide p2
  clear p1 p2
  by_cases h2 : b.size < 2
  · have hno : Lib.hasPrefix b.data.toList [87, 70] = false := by
      unfold Lib.hasPrefix
      rw [Bool.eq_false_iff]
      intro h
      have := (List.isPrefixOf_iff_prefix.1 h).length_le
      rw [hlen] at this
      simp at this
      omega
    by_cases hp : Lib.hasPrefix [87, 70] b.data.toList = true
    · rw [if_pos ⟨h2, hp⟩] at hR
      subst hR
      clear hT hno hlen P2
      go_enter Tryd.func51, Tryd.ntmps51
      go_wp2_with (go_at_call 53; refine (unhide P1 _).mono ?_; rintro e w1 ⟨rfl, rfl⟩)
      go_ret2
      exact ⟨rfl, 0, rfl⟩
    · have hp' : Lib.hasPrefix [87, 70] b.data.toList = false := by simpa using hp
      rw [if_neg (fun h => hp h.2), if_pos hno] at hR
      subst hR
      clear hT hlen hp
      go_enter Tryd.func51, Tryd.ntmps51
      go_wp2_with fail
      refine (unhide P1 _).mono ?_
      rintro e w1 ⟨rfl, rfl⟩
      go_wp2_with fail
      refine (unhide P2 _).mono ?_
      rintro e w2 ⟨rfl, rfl⟩
      go_wp2
      go_ret2
      exact ⟨rfl, 0, rfl⟩
  · rw [if_neg (fun h => h2 h.1)] at hR
    by_cases hp : Lib.hasPrefix b.data.toList [87, 70] = false
    · rw [if_pos hp] at hR
      subst hR
      clear hT hlen P1
      go_enter Tryd.func51, Tryd.ntmps51
      go_wp2_with fail
      refine (unhide P2 _).mono ?_
      rintro e w2 ⟨rfl, rfl⟩
      go_wp2
      go_ret2
      exact ⟨rfl, 0, rfl⟩
    · rw [if_neg hp] at hR
      have hp' : Lib.hasPrefix b.data.toList [87, 70] = true := by simpa using hp
      clear hp P1
      by_cases h10 : b.size < 10
      · rw [if_pos h10] at hR
        subst hR
        clear hT hlen
        go_enter Tryd.func51, Tryd.ntmps51
        go_wp2_with fail
        refine (unhide P2 _).mono ?_
        rintro e w2 ⟨rfl, rfl⟩
        go_wp2
        go_ret2
        exact ⟨rfl, 0, rfl⟩
      · rw [if_neg h10] at hR
        have c2 := fun w => word_any (b.extract 2 b.size) w (by rw [ByteArray.size_extract]; omega)
        rw [ext_drop] at c2
        have hn := unw4_lt (b.data.toList.drop 2)
        generalize unw4 (b.data.toList.drop 2) = n at *
        have C2 := hide c2
        clear c2
        go_enter Tryd.func51, Tryd.ntmps51
        go_wp2_with fail
        refine (unhide P2 _).mono ?_
        rintro e w2 ⟨rfl, rfl⟩
        go_wp2_with fail
        refine (unhide C2 _).mono ?_
        rintro e w3 ⟨rfl, n3, rfl⟩
        by_cases hbig : 65536 < n
        · rw [if_pos hbig] at hR
          subst hR
          go_wp2
          go_ret2
          exact ⟨rfl, _, rfl⟩
        · rw [if_neg hbig] at hR
          by_cases hsh : b.size - 10 < n
          · rw [if_pos hsh] at hR
            subst hR
            go_wp2
            go_ret2
            exact ⟨rfl, _, rfl⟩
          · rw [if_neg hsh] at hR
            have h6 : (6 : Int) ≤ (b.size : Int) := by omega
            have h6n : 6 ≤ b.size := by omega
            have fs := fun w hw => frameSum_any (b.extract 0 6) ((b.extract 10 b.size).extract 0 n) w (by rw [ByteArray.size_extract]; unfold maxLen; omega) (by rw [ByteArray.size_extract, ByteArray.size_extract]; unfold maxLen; omega) hw
            rw [ext_pre, ext_pre, ext_drop] at fs
            have wd := fun w => word_any (b.extract 6 b.size) w (by rw [ByteArray.size_extract]; omega)
            rw [ext_drop] at wd
            have hbody : (b.extract 10 b.size).extract 0 n = ⟨((b.data.toList.drop 10).take n).toArray⟩ := by
              apply ByteArray.ext
              apply Array.ext'
              rw [ext_pre, ext_drop]
            generalize sumOf (b.data.toList.take 6 ++ (b.data.toList.drop 10).take n) = x at *
            generalize unw4 (b.data.toList.drop 6) = y at *
            have FS := hide fs
            have WD := hide wd
            have HT := hide hT
            have HB := hide hbody
            clear fs wd hT hbody
            by_cases hxy : x = y
            · rw [if_neg (by simpa using hxy)] at hR
              subst hR
              have g : ((x : Int) != (y : Int)) = false := by simp; omega
              clear hxy
              go_wp2_with fail
              have hTW : TabW (w2.drewN n3) := (unhide HT).drewN _
              generalize hW : w2.drewN n3 = W at *
              have HTW := hide hTW
              have HWe := hide hW
              clear hTW hW
              go_quiet ((first | (go_at_call 50; exact Calls.quiet_of_same (unhide FS _ ((unhide HTW).drewN _))) | (go_at_call 54; exact Calls.quiet_of (unhide WD _))))
              go_wp2
              go_ret2
              exact ⟨by rw [← unhide HB]; rfl, _, by rw [← unhide HWe, World.drewN_drewN]⟩
            · rw [if_pos hxy] at hR
              subst hR
              have g : ((x : Int) != (y : Int)) = true := by rw [bne_iff_ne]; omega
              clear hxy
              go_wp2_with fail
              have hTW : TabW (w2.drewN n3) := (unhide HT).drewN _
              generalize hW : w2.drewN n3 = W at *
              have HTW := hide hTW
              have HWe := hide hW
              clear hTW hW
              go_quiet ((first | (go_at_call 50; exact Calls.quiet_of_same (unhide FS _ ((unhide HTW).drewN _))) | (go_at_call 54; exact Calls.quiet_of (unhide WD _))))
              go_wp2
              go_ret2
              exact ⟨rfl, _, by rw [← unhide HWe, World.drewN_drewN]⟩
theorem bodyS_ok (l : List UInt8) (h : (bodyS l).2 = 0) : 10 + (bodyS l).1.length ≤ l.length ∧ (bodyS l).1.length ≤ 65536 := by
  unfold bodyS at h ⊢
  by_cases a : l.length < 2 ∧ Lib.hasPrefix [87, 70] l = true
  · rw [if_pos a] at h; simp at h
  · rw [if_neg a] at h ⊢
    by_cases b : Lib.hasPrefix l [87, 70] = false
    · rw [if_pos b] at h; simp at h
    · rw [if_neg b] at h ⊢
      by_cases c : l.length < 10
      · rw [if_pos c] at h; simp at h
      · rw [if_neg c] at h ⊢
        by_cases d : 65536 < unw4 (l.drop 2)
        · rw [if_pos d] at h; simp at h
        · rw [if_neg d] at h ⊢
          by_cases e : (l.drop 10).length < unw4 (l.drop 2)
          · rw [if_pos e] at h; simp at h
          · rw [if_neg e] at h ⊢
            by_cases f : sumOf (l.take 6 ++ (l.drop 10).take (unw4 (l.drop 2))) ≠ unw4 (l.drop 6)
            · rw [if_pos f] at h; simp at h
            · rw [if_neg f]
              dsimp only
              rw [List.length_take, List.length_drop]
              omega
/-- The frame at a place: its body, the place behind, the place and the number of what is wrong. -/
def unfS (l : List UInt8) (p : Int) : List UInt8 × Int × Int × Int :=
  if p < 0 ∨ (l.length : Int) < p then ([], 0, 0, 1) else if (bodyS (l.drop p.toNat)).2 ≠ 0 then ([], 0, p, (bodyS (l.drop p.toNat)).2) else ((bodyS (l.drop p.toNat)).1, p + 10 + (bodyS (l.drop p.toNat)).1.length, 0, 0)
set_option maxHeartbeats 2000000 in
theorem unframe_any (b : ByteArray) (p : Int) (w : World) (hb : b.size ≤ 9223372036854775807) (hT : TabW w) :
    Calls Tryd.prog 48 #[.string b, .int .i64 p] w fun e w' =>
      e = .returned (.tuple #[.string ⟨(unfS b.data.toList p).1.toArray⟩, .int .i64 (unfS b.data.toList p).2.1, .agg #[.int .i64 (unfS b.data.toList p).2.2.1, .int .i64 (unfS b.data.toList p).2.2.2]]) ∧ Below w.heap.size w w' := by
  have hlen : b.data.toList.length = b.size := Array.length_toList
  generalize hR : unfS b.data.toList p = R
  unfold unfS at hR
  rw [hlen] at hR
  have h0 := hT.1
  by_cases hout : p < 0 ∨ (b.size : Int) < p
  · rw [if_pos hout] at hR
    subst hR
    clear hT hlen
    rcases Int.lt_or_le p 0 with hp | hp
    · clear hout
      go_enter Tryd.func48, Tryd.ntmps48
      go_wp2
      all_goals exact bodyPost_ret (v := .tuple #[.string ⟨#[]⟩, .int .i64 0, .agg #[.int .i64 0, .int .i64 1]]) (by simp [results, Tryd.results48, go_sem]) rfl ⟨rfl, (Below.refl _ _).alloc (Nat.le_refl _) _⟩
    · have hp2 : (b.size : Int) < p := by omega
      clear hout
      go_enter Tryd.func48, Tryd.ntmps48
      go_wp2
      all_goals exact bodyPost_ret (v := .tuple #[.string ⟨#[]⟩, .int .i64 0, .agg #[.int .i64 0, .int .i64 1]]) (by simp [results, Tryd.results48, go_sem]) rfl ⟨rfl, (Below.refl _ _).alloc (Nat.le_refl _) _⟩
  · rw [if_neg hout] at hR
    have hp0 : 0 ≤ p := by omega
    have hp1 : p ≤ (b.size : Int) := by omega
    clear hout
    obtain ⟨P, rfl⟩ := Int.eq_ofNat_of_zero_le hp0
    rw [Int.toNat_natCast] at hR
    have hbo := fun w hw => bodyOf_any (b.extract P b.size) w (by rw [ByteArray.size_extract]; omega) hw
    rw [ext_drop] at hbo
    have hok := bodyS_ok (b.data.toList.drop P)
    rw [List.length_drop, hlen] at hok
    generalize bodyS (b.data.toList.drop P) = Q at *
    obtain ⟨body, code⟩ := Q
    dsimp only at hbo hok hR
    have HB := hide hbo
    have HT := hide hT
    clear hbo hT
    by_cases hc : code = 0
    · subst hc
      rw [if_neg (by simp)] at hR
      subst hR
      have hk := hok rfl
      have hbs : ({ data := body.toArray } : ByteArray).size = body.length := by show (List.toArray _).size = _; rw [List.size_toArray]
      clear hok
      generalize hBA : ({ data := body.toArray } : ByteArray) = BA at *
      have hcl := fun w => clone_any BA w (by omega)
      have HCL := hide hcl
      have HBS := hide hbs
      clear hcl hlen hBA hbs
      go_enter Tryd.func48, Tryd.ntmps48
      go_wp2_with fail
      refine (unhide HB _ ((unhide HT).alloc _)).mono ?_
      rintro e w1 ⟨rfl, n1, rfl⟩
      go_wp2_with fail
      refine (unhide HCL _).mono ?_
      rintro e w2 ⟨rfl, hb2⟩
      have hz : ((w.alloc (.cells #[.int .i64 0, .int .i64 0] 89)).drewN n1).heap.size = w.heap.size + 1 := by show (w.alloc _).heap.size = _; simp
      have hf1 : FBox w.heap.size ((w.alloc (.cells #[.int .i64 0, .int .i64 0] 89)).drewN n1) := heap_alloc_new w _
      have hf2 := hf1.below hb2 (by rw [hz]; omega)
      have hc2 := hf2.cells
      have hl2 := hf2.lt
      have hbel : Below w.heap.size w w2 := (below_drewN ((Below.refl _ _).alloc (Nat.le_refl _) _) n1).trans (hb2.mono (by rw [hz]; omega))
      have HBel := hide hbel
      have HF := hide hf2
      clear hf1 hb2 hz hbel hf2
      have hend : (P : Int) + 10 + (BA.size : Int) = (P : Int) + 10 + (body.length : Int) := by rw [unhide HBS]
      have HEND := hide hend
      have hbs2 : BA.size ≤ 65536 ∧ P + 10 + BA.size ≤ b.size := by rw [unhide HBS]; omega
      clear hend
      go_wp2
      exact bodyPost_ret (v := .tuple #[.string BA, .int .i64 ((P : Int) + 10 + (BA.size : Int)), .agg #[.int .i64 0, .int .i64 0]]) (by simp [results, Tryd.results48, go_sem, hc2]) rfl
        ⟨by rw [unhide HEND], ((unhide HBel).setCell (Nat.le_refl _) _).setCell (Nat.le_refl _) _⟩
    · rw [if_pos hc] at hR
      subst hR
      have gc : (code != 0) = true := by rw [bne_iff_ne]; exact hc
      clear hok hc hlen
      go_enter Tryd.func48, Tryd.ntmps48
      go_wp2_with fail
      refine (unhide HB _ ((unhide HT).alloc _)).mono ?_
      rintro e w1 ⟨rfl, n1, rfl⟩
      go_wp2
      exact bodyPost_ret (v := .tuple #[.string ⟨#[]⟩, .int .i64 0, .agg #[.int .i64 (P : Int), .int .i64 code]]) (by simp [results, Tryd.results48, go_sem]) rfl ⟨rfl, ((below_drewN ((Below.refl _ _).alloc (Nat.le_refl _) _) _).setCell (Nat.le_refl _) _).setCell (Nat.le_refl _) _⟩
end Go.Proofs.YtllkkflolijpaaaDoor
