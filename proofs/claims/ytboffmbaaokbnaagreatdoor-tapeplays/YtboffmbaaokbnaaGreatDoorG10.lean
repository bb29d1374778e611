/-
  bodyOf and Unframe: what stands at a place is found to be a frame, or what is wrong is told, as the plain functions have it.
  Plain facts on frames: a frame that ends early is none; nor is one in which one byte behind the number is another one; a frame is found wherever it stands.
  Frames: all frames from the front on are found, as the plain function has it; SameTexts of two slices that read the same texts returns true.
  Plain facts on frames that stand one behind the other.
-/
import Derived.Test.YtboffmbaaokbnaaGreatDoorG09
import Derived.Deep.DeepAppendWide
namespace Go.Proofs.YtboffmbaaokbnaaGreatDoor
open Go.RowKit

/-- The body of the frame that bytes begin with, and what is wrong. -/
def bodyS (l : List UInt8) : List UInt8 × Int :=
  if l.length < 2 ∧ Lib.hasPrefix [87, 70] l = true then ([], 11) else if Lib.hasPrefix l [87, 70] = false then ([], 3) else if l.length < 10 then ([], 11) else
  if 65536 < unw4 (l.drop 2) then ([], 2) else if (l.drop 10).length < unw4 (l.drop 2) then ([], 11) else
  if sumOf (l.take 6 ++ (l.drop 10).take (unw4 (l.drop 2))) ≠ unw4 (l.drop 6) then ([], 10) else ((l.drop 10).take (unw4 (l.drop 2)), 0)
theorem unw4_lt (l : List UInt8) : unw4 l < 4294967296 := by
  unfold unw4
  split
  · rename_i a b c d _
    have := a.toNat_lt; have := b.toNat_lt; have := c.toNat_lt; have := d.toNat_lt
    omega
  · decide
theorem ext_drop (b : ByteArray) (k : Nat) : (b.extract k b.size).data.toList = b.data.toList.drop k := by
  rw [Lib.extract_data, List.take_of_length_le]
  rw [List.length_drop, Array.length_toList]; exact Nat.le_refl _
theorem ext_pre (b : ByteArray) (k : Nat) : (b.extract 0 k).data.toList = b.data.toList.take k := by
  rw [Lib.extract_data, List.drop_zero]; rfl
theorem TabW.alloc {w : World} (h : TabW w) (o : Obj) : TabW (w.alloc o) := h.below ((Below.refl w.heap.size w).alloc (Nat.le_refl _) o) h.1
theorem TabW.drewN {w : World} (h : TabW w) (n : Nat) : TabW (w.drewN n) := h
set_option maxHeartbeats 2000000 in
theorem bodyOf_any (b : ByteArray) (w : World) (hb : b.size ≤ 9223372036854775807) (hT : TabW w) :
    Calls Tryz.prog 84 #[.string b] w fun e w' => e = .returned (.tuple #[.string ⟨(bodyS b.data.toList).1.toArray⟩, .int .i64 (bodyS b.data.toList).2]) ∧ ∃ n, w' = w.drewN n := by
  have hlen : b.data.toList.length = b.size := Array.length_toList
  generalize hR : bodyS b.data.toList = R
  unfold bodyS at hR
  rw [List.length_drop, hlen] at hR
  have p1 := fun w => Tryz.strings_HasPrefix ⟨#[87, 70]⟩ b w
  have p2 := fun w => Tryz.strings_HasPrefix b ⟨#[87, 70]⟩ w
  rw [show ({ data := #[87, 70] } : ByteArray).data.toList = [87, 70] from rfl] at p1 p2
  have P1 := hide p1
  have P2 := hide p2
  clear p1 p2
  by_cases h2 : b.size < 2
  · have hno : Lib.hasPrefix b.data.toList [87, 70] = false := by
      unfold Lib.hasPrefix
      rw [Bool.eq_false_iff]
      intro h
      have := (List.isPrefixOf_iff_prefix.1 h).length_le
      rw [hlen] at this
      simp at this
      omega
    by_cases hp : Lib.hasPrefix [87, 70] b.data.toList = true
    · rw [if_pos ⟨h2, hp⟩] at hR
      subst hR
      clear hT hno hlen P2
      go_enter Tryz.func84, Tryz.ntmps84
      go_wp2_with (go_at_call 91; refine (unhide P1 _).mono ?_; rintro e w1 ⟨rfl, rfl⟩)
      go_ret2
      exact ⟨rfl, 0, rfl⟩
    · have hp' : Lib.hasPrefix [87, 70] b.data.toList = false := by simpa using hp
      rw [if_neg (fun h => hp h.2), if_pos hno] at hR
      subst hR
      clear hT hlen hp
      go_enter Tryz.func84, Tryz.ntmps84
      go_wp2_with fail
      refine (unhide P1 _).mono ?_
      rintro e w1 ⟨rfl, rfl⟩
      go_wp2_with fail
      refine (unhide P2 _).mono ?_
      rintro e w2 ⟨rfl, rfl⟩
      go_wp2
      go_ret2
      exact ⟨rfl, 0, rfl⟩
  · rw [if_neg (fun h => h2 h.1)] at hR
    by_cases hp : Lib.hasPrefix b.data.toList [87, 70] = false
    · rw [if_pos hp] at hR
      subst hR
      clear hT hlen P1
      go_enter Tryz.func84, Tryz.ntmps84
      go_wp2_with fail
      refine (unhide P2 _).mono ?_
      rintro e w2 ⟨rfl, rfl⟩
      go_wp2
      go_ret2
      exact ⟨rfl, 0, rfl⟩
    · rw [if_neg hp] at hR
      have hp' : Lib.hasPrefix b.data.toList [87, 70] = true := by simpa using hp
      clear hp P1
      by_cases h10 : b.size < 10
      · rw [if_pos h10] at hR
        subst hR
        clear hT hlen
        go_enter Tryz.func84, Tryz.ntmps84
        go_wp2_with fail
        refine (unhide P2 _).mono ?_
        rintro e w2 ⟨rfl, rfl⟩
        go_wp2
        go_ret2
        exact ⟨rfl, 0, rfl⟩
      · rw [if_neg h10] at hR
        have c2 := fun w => word_any (b.extract 2 b.size) w (by rw [ByteArray.size_extract]; omega)
        rw [ext_drop] at c2
        have hn := unw4_lt (b.data.toList.drop 2)
        generalize unw4 (b.data.toList.drop 2) = n at *
        have C2 := hide c2
        clear c2
        go_enter Tryz.func84, Tryz.ntmps84
        go_wp2_with fail
        refine (unhide P2 _).mono ?_
        rintro e w2 ⟨rfl, rfl⟩
        go_wp2_with fail
        refine (unhide C2 _).mono ?_
        rintro e w3 ⟨rfl, n3, rfl⟩
        by_cases hbig : 65536 < n
        · rw [if_pos hbig] at hR
          subst hR
          go_wp2
          go_ret2
          exact ⟨rfl, _, rfl⟩
        · rw [if_neg hbig] at hR
          by_cases hsh : b.size - 10 < n
          · rw [if_pos hsh] at hR
            subst hR
            go_wp2
            go_ret2
            exact ⟨rfl, _, rfl⟩
          · rw [if_neg hsh] at hR
            have h6 : (6 : Int) ≤ (b.size : Int) := by omega
            have h6n : 6 ≤ b.size := by omega
            have fs := fun w hw => frameSum_any (b.extract 0 6) ((b.extract 10 b.size).extract 0 n) w (by rw [ByteArray.size_extract]; unfold maxLen; omega) (by rw [ByteArray.size_extract, ByteArray.size_extract]; unfold maxLen; omega) hw
            rw [ext_pre, ext_pre, ext_drop] at fs
            have wd := fun w => word_any (b.extract 6 b.size) w (by rw [ByteArray.size_extract]; omega)
            rw [ext_drop] at wd
            have hbody : (b.extract 10 b.size).extract 0 n = ⟨((b.data.toList.drop 10).take n).toArray⟩ := by
              apply ByteArray.ext
              apply Array.ext'
              rw [ext_pre, ext_drop]
            generalize sumOf (b.data.toList.take 6 ++ (b.data.toList.drop 10).take n) = x at *
            generalize unw4 (b.data.toList.drop 6) = y at *
            have FS := hide fs
            have WD := hide wd
            have HT := hide hT
            have HB := hide hbody
            clear fs wd hT hbody
            by_cases hxy : x = y
            · rw [if_neg (by simpa using hxy)] at hR
              subst hR
              have g : ((x : Int) != (y : Int)) = false := by simp; omega
              clear hxy
              go_wp2_with fail
              have hTW : TabW (w2.drewN n3) := (unhide HT).drewN _
              generalize hW : w2.drewN n3 = W at *
              have HTW := hide hTW
              have HWe := hide hW
              clear hTW hW
              go_quiet ((first | (go_at_call 86; exact Calls.quiet_of_same (unhide FS _ ((unhide HTW).drewN _))) | (go_at_call 92; exact Calls.quiet_of (unhide WD _))))
              go_wp2
              go_ret2
              exact ⟨by rw [← unhide HB]; rfl, _, by rw [← unhide HWe, World.drewN_drewN]⟩
            · rw [if_pos hxy] at hR
              subst hR
              have g : ((x : Int) != (y : Int)) = true := by rw [bne_iff_ne]; omega
              clear hxy
              go_wp2_with fail
              have hTW : TabW (w2.drewN n3) := (unhide HT).drewN _
              generalize hW : w2.drewN n3 = W at *
              have HTW := hide hTW
              have HWe := hide hW
              clear hTW hW
              go_quiet ((first | (go_at_call 86; exact Calls.quiet_of_same (unhide FS _ ((unhide HTW).drewN _))) | (go_at_call 92; exact Calls.quiet_of (unhide WD _))))
              go_wp2
              go_ret2
              exact ⟨rfl, _, by rw [← unhide HWe, World.drewN_drewN]⟩
theorem bodyS_ok (l : List UInt8) (h : (bodyS l).2 = 0) : 10 + (bodyS l).1.length ≤ l.length ∧ (bodyS l).1.length ≤ 65536 := by
  unfold bodyS at h ⊢
  by_cases a : l.length < 2 ∧ Lib.hasPrefix [87, 70] l = true
  · rw [if_pos a] at h; simp at h
  · rw [if_neg a] at h ⊢
    by_cases b : Lib.hasPrefix l [87, 70] = false
    · rw [if_pos b] at h; simp at h
    · rw [if_neg b] at h ⊢
      by_cases c : l.length < 10
      · rw [if_pos c] at h; simp at h
      · rw [if_neg c] at h ⊢
        by_cases d : 65536 < unw4 (l.drop 2)
        · rw [if_pos d] at h; simp at h
        · rw [if_neg d] at h ⊢
          by_cases e : (l.drop 10).length < unw4 (l.drop 2)
          · rw [if_pos e] at h; simp at h
          · rw [if_neg e] at h ⊢
            by_cases f : sumOf (l.take 6 ++ (l.drop 10).take (unw4 (l.drop 2))) ≠ unw4 (l.drop 6)
            · rw [if_pos f] at h; simp at h
            · rw [if_neg f]
              dsimp only
              rw [List.length_take, List.length_drop]
              omega
/-- The frame at a place: its body, the place behind, the place and the number of what is wrong. -/
def unfS (l : List UInt8) (p : Int) : List UInt8 × Int × Int × Int :=
  if p < 0 ∨ (l.length : Int) < p then ([], 0, 0, 1) else if (bodyS (l.drop p.toNat)).2 ≠ 0 then ([], 0, p, (bodyS (l.drop p.toNat)).2) else ((bodyS (l.drop p.toNat)).1, p + 10 + (bodyS (l.drop p.toNat)).1.length, 0, 0)
set_option maxHeartbeats 2000000 in
theorem unframe_any (b : ByteArray) (p : Int) (w : World) (hb : b.size ≤ 9223372036854775807) (hT : TabW w) :
    Calls Tryz.prog 68 #[.string b, .int .i64 p] w fun e w' =>
      e = .returned (.tuple #[.string ⟨(unfS b.data.toList p).1.toArray⟩, .int .i64 (unfS b.data.toList p).2.1, .agg #[.int .i64 (unfS b.data.toList p).2.2.1, .int .i64 (unfS b.data.toList p).2.2.2]]) ∧ Below w.heap.size w w' := by
  have hlen : b.data.toList.length = b.size := Array.length_toList
  generalize hR : unfS b.data.toList p = R
  unfold unfS at hR
  rw [hlen] at hR
  have h0 := hT.1
  by_cases hout : p < 0 ∨ (b.size : Int) < p
  · rw [if_pos hout] at hR
    subst hR
    clear hT hlen
    rcases Int.lt_or_le p 0 with hp | hp
    · clear hout
      go_enter Tryz.func68, Tryz.ntmps68
      go_wp2
      all_goals exact bodyPost_ret (v := .tuple #[.string ⟨#[]⟩, .int .i64 0, .agg #[.int .i64 0, .int .i64 1]]) (by simp [results, Tryz.results68, go_sem]) rfl ⟨rfl, (Below.refl _ _).alloc (Nat.le_refl _) _⟩
    · have hp2 : (b.size : Int) < p := by omega
      clear hout
      go_enter Tryz.func68, Tryz.ntmps68
      go_wp2
      all_goals exact bodyPost_ret (v := .tuple #[.string ⟨#[]⟩, .int .i64 0, .agg #[.int .i64 0, .int .i64 1]]) (by simp [results, Tryz.results68, go_sem]) rfl ⟨rfl, (Below.refl _ _).alloc (Nat.le_refl _) _⟩
  · rw [if_neg hout] at hR
    have hp0 : 0 ≤ p := by omega
    have hp1 : p ≤ (b.size : Int) := by omega
    clear hout
    obtain ⟨P, rfl⟩ := Int.eq_ofNat_of_zero_le hp0
    rw [Int.toNat_natCast] at hR
    have hbo := fun w hw => bodyOf_any (b.extract P b.size) w (by rw [ByteArray.size_extract]; omega) hw
    rw [ext_drop] at hbo
    have hok := bodyS_ok (b.data.toList.drop P)
    rw [List.length_drop, hlen] at hok
    generalize bodyS (b.data.toList.drop P) = Q at *
    obtain ⟨body, code⟩ := Q
    dsimp only at hbo hok hR
    have HB := hide hbo
    have HT := hide hT
    clear hbo hT
    by_cases hc : code = 0
    · subst hc
      rw [if_neg (by simp)] at hR
      subst hR
      have hk := hok rfl
      have hbs : ({ data := body.toArray } : ByteArray).size = body.length := by show (List.toArray _).size = _; rw [List.size_toArray]
      clear hok
      generalize hBA : ({ data := body.toArray } : ByteArray) = BA at *
      have hcl := fun w => clone_any BA w (by omega)
      have HCL := hide hcl
      have HBS := hide hbs
      clear hcl hlen hBA hbs
      go_enter Tryz.func68, Tryz.ntmps68
      go_wp2_with fail
      refine (unhide HB _ ((unhide HT).alloc _)).mono ?_
      rintro e w1 ⟨rfl, n1, rfl⟩
      go_wp2_with fail
      refine (unhide HCL _).mono ?_
      rintro e w2 ⟨rfl, hb2⟩
      have hz : ((w.alloc (.cells #[.int .i64 0, .int .i64 0] 84)).drewN n1).heap.size = w.heap.size + 1 := by show (w.alloc _).heap.size = _; simp
      have hf1 : FBox w.heap.size ((w.alloc (.cells #[.int .i64 0, .int .i64 0] 84)).drewN n1) := heap_alloc_new w _
      have hf2 := hf1.below hb2 (by rw [hz]; omega)
      have hc2 := hf2.cells
      have hl2 := hf2.lt
      have hbel : Below w.heap.size w w2 := (below_drewN ((Below.refl _ _).alloc (Nat.le_refl _) _) n1).trans (hb2.mono (by rw [hz]; omega))
      have HBel := hide hbel
      have HF := hide hf2
      clear hf1 hb2 hz hbel hf2
      have hend : (P : Int) + 10 + (BA.size : Int) = (P : Int) + 10 + (body.length : Int) := by rw [unhide HBS]
      have HEND := hide hend
      have hbs2 : BA.size ≤ 65536 ∧ P + 10 + BA.size ≤ b.size := by rw [unhide HBS]; omega
      clear hend
      go_wp2
      exact bodyPost_ret (v := .tuple #[.string BA, .int .i64 ((P : Int) + 10 + (BA.size : Int)), .agg #[.int .i64 0, .int .i64 0]]) (by simp [results, Tryz.results68, go_sem, hc2]) rfl
        ⟨by rw [unhide HEND], ((unhide HBel).setCell (Nat.le_refl _) _).setCell (Nat.le_refl _) _⟩
    · rw [if_pos hc] at hR
      subst hR
      have gc : (code != 0) = true := by rw [bne_iff_ne]; exact hc
      clear hok hc hlen
      go_enter Tryz.func68, Tryz.ntmps68
      go_wp2_with fail
      refine (unhide HB _ ((unhide HT).alloc _)).mono ?_
      rintro e w1 ⟨rfl, n1, rfl⟩
      go_wp2
      exact bodyPost_ret (v := .tuple #[.string ⟨#[]⟩, .int .i64 0, .agg #[.int .i64 (P : Int), .int .i64 code]]) (by simp [results, Tryz.results68, go_sem]) rfl ⟨rfl, ((below_drewN ((Below.refl _ _).alloc (Nat.le_refl _) _) _).setCell (Nat.le_refl _) _).setCell (Nat.le_refl _) _⟩
end Go.Proofs.YtboffmbaaokbnaaGreatDoor
namespace Go.Proofs.YtboffmbaaokbnaaGreatDoor
open Go.RowKit

theorem frame_take2 (b : List UInt8) : ∃ r, frameL b = 87 :: 70 :: r ∧ r.length = b.length + 8 := by
  refine ⟨w4 b.length ++ w4 (sumOf (headL b.length ++ b)) ++ b, ?_, ?_⟩
  · unfold frameL headL; simp
  · rw [List.length_append, List.length_append]; show 4 + 4 + b.length = _; omega
theorem frame_drop2 (b : List UInt8) : (frameL b).drop 2 = w4 b.length ++ (w4 (sumOf (headL b.length ++ b)) ++ b) := by
  unfold frameL headL; simp
theorem frame_drop6 (b : List UInt8) : (frameL b).drop 6 = w4 (sumOf (headL b.length ++ b)) ++ b := by
  unfold frameL headL w4; simp
theorem frame_drop10 (b : List UInt8) : (frameL b).drop 10 = b := by
  unfold frameL headL w4; simp
theorem frame_take6 (b : List UInt8) : (frameL b).take 6 = headL b.length := by
  unfold frameL headL w4; simp
theorem take4_unw4 (l : List UInt8) : unw4 l = unw4 (l.take 4) := by
  match l with
  | [] => rfl
  | [_] => rfl
  | [_, _] => rfl
  | [_, _, _] => rfl
  | _ :: _ :: _ :: _ :: _ => rfl
theorem hasPre (r : List UInt8) : Lib.hasPrefix (87 :: 70 :: r) [87, 70] = true := by
  unfold Lib.hasPrefix; simp [List.isPrefixOf]
/-- A frame that ends early. -/
theorem torn_early (b : List UInt8) (k : Nat) (hb : b.length ≤ 65536) (hk : k < b.length + 10) : bodyS ((frameL b).take k) = ([], 11) := by
  obtain ⟨r, e, hr⟩ := frame_take2 b
  have hl : ((frameL b).take k).length = k := by rw [List.length_take, frameL_len]; omega
  unfold bodyS
  by_cases h2 : k < 2
  · rw [if_pos]
    refine ⟨by omega, ?_⟩
    rw [e]
    match k, h2 with
    | 0, _ => rfl
    | 1, _ => rfl
  · obtain ⟨j, rfl⟩ : ∃ j, k = j + 2 := ⟨k - 2, by omega⟩
    have e2 : (frameL b).take (j + 2) = 87 :: 70 :: r.take j := by rw [e]; rfl
    have hp : Lib.hasPrefix ((frameL b).take (j + 2)) [87, 70] = true := by rw [e2]; exact hasPre _
    rw [if_neg (fun h => by omega), if_neg (by rw [hp]; simp)]
    by_cases h10 : j + 2 < 10
    · rw [if_pos (by omega)]
    · rw [if_neg (by omega)]
      have hn : unw4 (((frameL b).take (j + 2)).drop 2) = b.length := by
        rw [List.drop_take, frame_drop2, take4_unw4, List.take_take, show min 4 (j + 2 - 2) = 4 by omega, ← take4_unw4]
        exact unw4_w4 _ _ (by omega)
      rw [hn, if_neg (by omega), if_pos]
      rw [List.length_drop, hl]; omega
theorem w4_inj_one (a : List UInt8) (x y : UInt8) (r : List UInt8) (hne : x ≠ y) (hl : a.length < 4) : unw4 (a ++ x :: r) ≠ unw4 (a ++ y :: r) ∨ (a ++ x :: r).length < 4 := by
  by_cases hs : (a ++ x :: r).length < 4
  · exact Or.inr hs
  · refine Or.inl fun h => hne ?_
    apply UInt8.toNat_inj.1
    have hx := x.toNat_lt; have hy := y.toNat_lt
    match a, hl with
    | [], _ =>
      match r, hs, h with
      | [], hs, _ => simp at hs
      | [_], hs, _ => simp at hs
      | [_, _], hs, _ => simp at hs
      | _ :: _ :: _ :: _, _, h => simp only [List.nil_append, unw4] at h; omega
    | [_], _ =>
      match r, hs, h with
      | [], hs, _ => simp at hs
      | [_], hs, _ => simp at hs
      | _ :: _ :: _, _, h => simp only [List.cons_append, List.nil_append, unw4] at h; omega
    | [_, _], _ =>
      match r, hs, h with
      | [], hs, _ => simp at hs
      | _ :: _, _, h => simp only [List.cons_append, List.nil_append, unw4] at h; omega
    | [_, _, _], _ => simp only [List.cons_append, List.nil_append, unw4] at h; omega
    | _ :: _ :: _ :: _ :: _, hl => simp at hl; omega
/-- A frame in which one byte behind the number is another one. -/
theorem torn_byte (b : List UInt8) (k : Nat) (c : UInt8) (hb : b.length ≤ 65536) (h6 : 6 ≤ k) (hk : k < b.length + 10) (hc : (frameL b)[k]? ≠ some c) : bodyS ((frameL b).set k c) = ([], 10) := by
  obtain ⟨r, e, hr⟩ := frame_take2 b
  obtain ⟨j, rfl⟩ : ∃ j, k = j + 2 := ⟨k - 2, by omega⟩
  have e2 : (frameL b).set (j + 2) c = 87 :: 70 :: r.set j c := by rw [e]; rfl
  have hl : ((frameL b).set (j + 2) c).length = b.length + 10 := by rw [List.length_set, frameL_len]
  have hp : Lib.hasPrefix ((frameL b).set (j + 2) c) [87, 70] = true := by rw [e2]; exact hasPre _
  have hd2 : ((frameL b).set (j + 2) c).drop 2 = ((frameL b).drop 2).set j c := by rw [List.drop_set, if_neg (by omega)]; rfl
  have hn : unw4 (((frameL b).set (j + 2) c).drop 2) = b.length := by
    rw [hd2, take4_unw4, List.take_set_of_le (by omega), ← take4_unw4, frame_drop2]
    exact unw4_w4 _ _ (by omega)
  have ht6 : ((frameL b).set (j + 2) c).take 6 = headL b.length := by rw [List.take_set_of_le (by omega), frame_take6]
  have hsum := sumOf_lt (headL b.length ++ b)
  unfold bodyS
  rw [if_neg (fun h => by omega), if_neg (by rw [hp]; simp), if_neg (by omega), hn, if_neg (by omega), if_neg (by rw [List.length_drop, hl]; omega), if_pos]
  rw [ht6]
  by_cases h10 : j + 2 < 10
  · have hd10 : ((frameL b).set (j + 2) c).drop 10 = b := by rw [List.drop_set, if_pos (by omega), frame_drop10]
    have hd6 : ((frameL b).set (j + 2) c).drop 6 = (w4 (sumOf (headL b.length ++ b)) ++ b).set (j - 4) c := by rw [List.drop_set, if_neg (by omega), frame_drop6]; congr 1
    rw [hd10, List.take_length, hd6]
    have hlen : (w4 (sumOf (headL b.length ++ b)) ++ b).length = b.length + 4 := by rw [List.length_append]; show 4 + b.length = _; omega
    have hget : (w4 (sumOf (headL b.length ++ b)) ++ b)[j - 4]? ≠ some c := by
      rw [← frame_drop6, List.getElem?_drop, show 6 + (j - 4) = j + 2 by omega]; exact hc
    have hun := unw4_w4 (sumOf (headL b.length ++ b)) b hsum
    generalize w4 (sumOf (headL b.length ++ b)) ++ b = L at *
    have hj : j - 4 < L.length := by omega
    rw [← hun]
    have es : L = L.take (j - 4) ++ L[j - 4] :: L.drop (j - 4 + 1) := by rw [← List.drop_eq_getElem_cons hj, List.take_append_drop]
    rw [List.set_eq_take_append_cons_drop, if_pos hj]
    have hne : L[j - 4] ≠ c := fun h => hget (by rw [List.getElem?_eq_getElem hj, h])
    rcases w4_inj_one (L.take (j - 4)) L[j - 4] c (L.drop (j - 4 + 1)) hne (by rw [List.length_take]; omega) with h | h
    · rw [← es] at h; exact h
    · rw [← es] at h; omega
  · have hd6 : unw4 (((frameL b).set (j + 2) c).drop 6) = sumOf (headL b.length ++ b) := by
      rw [List.drop_set, if_neg (by omega), frame_drop6, take4_unw4, List.take_set_of_le (by omega), ← take4_unw4]
      exact unw4_w4 _ _ hsum
    have hd10 : ((frameL b).set (j + 2) c).drop 10 = b.set (j - 8) c := by rw [List.drop_set, if_neg (by omega), frame_drop10]; congr 1
    have hget : b[j - 8]? ≠ some c := by
      have : b[j - 8]? = (frameL b)[j + 2]? := by rw [← frame_drop10 b, List.getElem?_drop, frame_drop10, show 10 + (j - 8) = j + 2 by omega]
      rw [this]; exact hc
    rw [hd6, hd10, List.take_of_length_le (by rw [List.length_set]; omega)]
    have hj : j - 8 < b.length := by omega
    have es : b = b.take (j - 8) ++ b[j - 8] :: b.drop (j - 8 + 1) := by rw [← List.drop_eq_getElem_cons hj, List.take_append_drop]
    have hne : b[j - 8] ≠ c := fun h => hget (by rw [List.getElem?_eq_getElem hj, h])
    intro h
    have h := sumOf_inj h
    rw [List.set_eq_take_append_cons_drop, if_pos hj, ← List.append_assoc] at h
    refine sumL_byte (s := 4294967295) (headL b.length ++ b.take (j - 8)) (b.drop (j - 8 + 1)) (by omega) hne ?_
    rw [h, List.append_assoc, ← es]
end Go.Proofs.YtboffmbaaokbnaaGreatDoor
namespace Go.Proofs.YtboffmbaaokbnaaGreatDoor
open Go.RowKit

/-- The frames from a place on: their bodies, the place behind the last one. -/
def frsF : Nat → List UInt8 → Nat → List (List UInt8) × Nat
  | 0, _, e => ([], e)
  | f + 1, l, e => if (bodyS (l.drop e)).2 ≠ 0 then ([], e) else ((bodyS (l.drop e)).1 :: (frsF f l (e + 10 + (bodyS (l.drop e)).1.length)).1, (frsF f l (e + 10 + (bodyS (l.drop e)).1.length)).2)
def frsS (l : List UInt8) : List (List UInt8) × Nat := frsF (l.length + 1) l 0
theorem info_string : (Tryz.prog.info? 9).map (fun i => (i.zero, i.size, i.bytes)) = some (some (.string ⟨#[]⟩), 1, 16) := by kernel_rfl
/-- A row of texts of the call's own. -/
def textC (l : List (List UInt8)) : List Value := l.map fun x => .string ⟨x.toArray⟩
def OwnsS (B : Nat) (w : World) (v : Value) (l : List (List UInt8)) : Prop := w.ownsRow B 9 1 v l.length (textC l)
theorem OwnsS.nil (B : Nat) (w : World) : OwnsS B w (.slice none 0 0) [] := World.ownsRow_nil _ _ _ _
theorem OwnsS.alloc {B : Nat} {w : World} {v : Value} {l : List (List UInt8)} (h : OwnsS B w v l) (o : Obj) : OwnsS B (w.alloc o) v l := World.ownsRow.alloc h o
theorem OwnsS.below {B B' : Nat} {w w' : World} {v : Value} {l : List (List UInt8)} (h : OwnsS B w v l) (hb : Below B' w w') (hB : w.heap.size ≤ B') : OwnsS B w' v l := by
  refine World.ownsRow.kept (row := none) h ⟨hb.os, hb.tape, hb.output, hb.size, fun k hk _ => hb.block k (by omega)⟩ ?_
  cases v.ownBlock
  · exact Or.inl rfl
  · exact Or.inr (by simp)
theorem textC_append (a b : List (List UInt8)) : textC (a ++ b) = textC a ++ textC b := by unfold textC; exact List.map_append
/-- Texts lie where a slice says. -/
def TextsAt (w : World) (ad : Option Addr) (l : List (List UInt8)) : Prop :=
  l ≠ [] → ∃ b off, ad = some ⟨b, off, none⟩ ∧ b < w.heap.size ∧ ∀ i (h : i < l.length), w.cell? ⟨b, off + i, none⟩ = some (.string ⟨(l[i]).toArray⟩)
theorem TextsAt.below {w w' : World} {B : Nat} {ad : Option Addr} {l : List (List UInt8)} (h : TextsAt w ad l) (hb : Below B w w') (hB : w.heap.size ≤ B) : TextsAt w' ad l := fun hl => by
  obtain ⟨b, off, e, hlt, hc⟩ := h hl
  exact ⟨b, off, e, Nat.lt_of_lt_of_le hlt hb.size, fun i hi => (hb.cell (p := ⟨b, off + i, none⟩) (Nat.lt_of_lt_of_le hlt hB)).trans (hc i hi)⟩
theorem OwnsS.texts {B : Nat} {w : World} {v : Value} {l : List (List UInt8)} (h : OwnsS B w v l) : ∃ ad cp, v = .slice ad l.length cp ∧ TextsAt w ad l := by
  obtain ⟨_, ⟨rfl, h0⟩ | ⟨g, cp, cur, rfl, r⟩⟩ := id h
  · refine ⟨none, 0, by rw [h0], fun hne => ?_⟩
    exact absurd (List.eq_nil_of_length_eq_zero h0) hne
  · have hl := World.ownsRow.lt h g rfl
    refine ⟨_, _, rfl, fun _ => ⟨g, 0, rfl, hl.2, fun i hi => ?_⟩⟩
    rw [Nat.zero_add, World.ownsRow.cellAt h i (by omega)]
    unfold textC
    rw [List.getElem?_map, List.getElem?_eq_getElem hi]
    rfl
set_option maxHeartbeats 2000000 in
theorem frames_any (b : ByteArray) (w : World) (hb : b.size ≤ 140737488351232) (hT : TabW w) :
    Calls Tryz.prog 38 #[.string b] w fun e w' => ∃ v, e = .returned (.tuple #[v, .int .i64 ((frsS b.data.toList).2 : Nat)]) ∧ OwnsS w.heap.size w' v (frsS b.data.toList).1 ∧ Below w.heap.size w w' := by
  generalize hR : frsS b.data.toList = R
  have hlen : b.data.toList.length = b.size := Array.length_toList
  unfold frsS at hR
  rw [hlen] at hR
  have h0 := hT.1
  have HT := hide hT
  have HR := hide hR
  have unf := fun p w hw => unframe_any b p w (by omega) hw
  have UNF := hide unf
  obtain ⟨i0, hi, hz0, hz1, hz2⟩ := info_parts info_string
  clear hT hR unf
  go_enter Tryz.func38, Tryz.ntmps38
  go_wp2_with fail
  go_loopw [2, 3] (fun v p wr => ∃ (e f : Nat) (acc : List (List UInt8)), e ≤ b.size ∧ p = .int .i64 (e : Int) ∧ OwnsS w.heap.size wr v acc ∧ Below w.heap.size w wr ∧ acc.length * 10 ≤ e ∧ b.size - e < f ∧ Hid (R = (acc ++ (frsF f b.data.toList e).1, (frsF f b.data.toList e).2))) (fun _ p _ => b.size - (intOf p).toNat)
  case atStart => exact ⟨0, b.size + 1, [], Nat.zero_le _, rfl, OwnsS.nil _ _, Below.refl _ _, by simp, by omega, hide (by rw [← unhide HR]; simp)⟩
  case round =>
    obtain ⟨p, f, acc, hp, rfl, hown, hbel, hacc, hf, HD⟩ := hrel
    obtain ⟨f, rfl⟩ : ∃ g, f = g + 1 := ⟨f - 1, by omega⟩
    have hd := unhide HD
    rw [frsF] at hd
    have hu := unhide UNF (p : Int) wr ((unhide HT).below hbel h0)
    unfold unfS at hu
    rw [if_neg (by rw [hlen]; omega), Int.toNat_natCast] at hu
    have hok := bodyS_ok (b.data.toList.drop p)
    rw [List.length_drop, hlen] at hok
    generalize bodyS (b.data.toList.drop p) = Q at *
    obtain ⟨body, code⟩ := Q
    dsimp only at hu hok hd
    clear HD
    by_cases hc : code = 0
    · subst hc
      rw [if_neg (by simp)] at hd hu
      have hk := hok rfl
      have hz := hbel.size
      have HU := hide hu
      have HD := hide hd
      clear hok hu hd
      go_wp2_with fail
      refine (unhide HU).mono ?_
      rintro e w1 ⟨rfl, hb1⟩
      dsimp only
      have hbel1 := hbel.trans (hb1.mono hz)
      have hown1 := hown.below hb1 (Nat.le_refl _)
      have hz1' := hbel1.size
      clear hown hbel hb1
      go_wp2_with (at_builtin; refine wpList_append_own_wide _ rfl _ _ 62 rfl w.heap.size 9 i0 (.string ⟨#[]⟩) 1 16 Tryz.underlying62 hi hz0 hz1 hz2 rfl (by decide) _ _ _ rfl ((hown1.alloc _).alloc _) ⟨w1.heap.size + 1, 0, none⟩ 1 1 [.string ⟨body.toArray⟩] rfl rfl ?c1 ?c2 ?c3 ?c4 ?c5 ?_)
      case c1 =>
        intro q u hq
        match q, hq with
        | 0, hq => simp at hq; subst hq; simp [Addr.add]
      case c2 => intro u hu; simp at hu; subst hu; rfl
      case c3 => unfold maxLen; omega
      case c4 => omega
      case c5 => simp; omega
      intro v' w2 hown2 hgrow _
      have hfr : Fr w.heap.size 9 w1 w2 := (((Fr.refl _ _ w1).alloc hz1' _).alloc (by simp; omega) _).grown ((hown1.alloc _).alloc _) hgrow (by simp; omega)
      have hown3 : OwnsS w.heap.size w2 v' (acc ++ [body]) := by
        unfold OwnsS
        rw [textC_append, List.length_append]
        exact hown2
      have hbel2 := hbel1.trans hfr.below
      clear hown2 hgrow hown1 hfr hbel1
      go_wp2
      go_roundw
      case rel => exact ⟨p + 10 + body.length, f, acc ++ [body], by omega, by go_num, hown3, hbel2, by simp; omega, by omega, hide (by rw [unhide HD]; simp)⟩
      case measure => simp [intOf]; omega
    · rw [if_pos hc] at hd hu
      subst hd
      have gc : (code != 0) = true := by rw [bne_iff_ne]; exact hc
      have hz := hbel.size
      have HU := hide hu
      clear hok hu hc HR
      go_wp2_with fail
      refine (unhide HU).mono ?_
      rintro e w1 ⟨rfl, hb1⟩
      dsimp only
      have hbel1 := hbel.trans (hb1.mono hz)
      have hown1 := hown.below hb1 (Nat.le_refl _)
      have hz1' := hbel1.size
      clear hown hbel hb1
      go_wp2
      go_ret2
      exact ⟨_, rfl, hown1.alloc _, hbel1.alloc hz1' _⟩
end Go.Proofs.YtboffmbaaokbnaaGreatDoor
namespace Go.Proofs.YtboffmbaaokbnaaGreatDoor
open Go.RowKit

/-- A frame is found, whatever stands behind it. -/
theorem bodyS_frame (b r : List UInt8) (hb : b.length ≤ 65536) : bodyS (frameL b ++ r) = (b, 0) := by
  obtain ⟨q, e, hq⟩ := frame_take2 b
  have hl := frameL_len b
  have hsum := sumOf_lt (headL b.length ++ b)
  have hp : Lib.hasPrefix (frameL b ++ r) [87, 70] = true := by rw [e]; exact hasPre _
  have h2 : (frameL b ++ r).drop 2 = w4 b.length ++ (w4 (sumOf (headL b.length ++ b)) ++ b ++ r) := by
    rw [List.drop_append_of_le_length (by omega), frame_drop2]; simp
  have h6 : (frameL b ++ r).drop 6 = w4 (sumOf (headL b.length ++ b)) ++ (b ++ r) := by
    rw [List.drop_append_of_le_length (by omega), frame_drop6]; simp
  have h10 : (frameL b ++ r).drop 10 = b ++ r := by rw [List.drop_append_of_le_length (by omega), frame_drop10]
  have t6 : (frameL b ++ r).take 6 = headL b.length := by rw [List.take_append_of_le_length (by omega), frame_take6]
  have hn : unw4 ((frameL b ++ r).drop 2) = b.length := by rw [h2]; exact unw4_w4 _ _ (by omega)
  have hs : unw4 ((frameL b ++ r).drop 6) = sumOf (headL b.length ++ b) := by rw [h6]; exact unw4_w4 _ _ hsum
  unfold bodyS
  rw [if_neg (fun h => by have := h.1; rw [List.length_append] at this; omega), if_neg (by rw [hp]; simp), if_neg (by rw [List.length_append]; omega), hn, if_neg (by omega), h10, if_neg (by rw [List.length_append]; omega), List.take_left, t6, hs, if_neg (by simp)]
/-- .. wherever it stands. -/
theorem unfS_frame (a b c : List UInt8) (hb : b.length ≤ 65536) : unfS (a ++ frameL b ++ c) (a.length : Int) = (b, ((a.length + (frameL b).length : Nat) : Int), 0, 0) := by
  unfold unfS
  rw [if_neg (by rw [List.length_append, List.length_append]; omega), Int.toNat_natCast, List.append_assoc, List.drop_left, bodyS_frame b c hb]
  dsimp only
  rw [if_neg (by simp), frameL_len]
  refine Prod.ext rfl (Prod.ext ?_ rfl)
  dsimp only
  omega
/-- Frames one behind the other. -/
def allF (bs : List (List UInt8)) : List UInt8 := bs.flatMap frameL
theorem frsF_all (bs : List (List UInt8)) (f : Nat) (a r : List UInt8) (hb : ∀ b ∈ bs, b.length ≤ 65536) (hr : (bodyS r).2 ≠ 0) (hf : bs.length < f) : frsF f (a ++ allF bs ++ r) a.length = (bs, a.length + (allF bs).length) := by
  induction bs generalizing f a with
  | nil =>
    obtain ⟨f, rfl⟩ : ∃ g, f = g + 1 := ⟨f - 1, by simp at hf; omega⟩
    rw [frsF]
    have : (a ++ allF [] ++ r).drop a.length = r := by show (a ++ [] ++ r).drop a.length = r; rw [List.append_nil, List.drop_left]
    rw [this, if_pos hr]
    rfl
  | cons b bs ih =>
    obtain ⟨f, rfl⟩ : ∃ g, f = g + 1 := ⟨f - 1, by simp at hf; omega⟩
    have hbb := hb b List.mem_cons_self
    have e1 : allF (b :: bs) = frameL b ++ allF bs := by unfold allF; rw [List.flatMap_cons]
    have hd : (a ++ allF (b :: bs) ++ r).drop a.length = frameL b ++ (allF bs ++ r) := by rw [e1, List.append_assoc, List.drop_left, List.append_assoc]
    rw [frsF, hd, bodyS_frame b _ hbb]
    dsimp only
    rw [if_neg (by simp)]
    have e2 : a ++ allF (b :: bs) ++ r = (a ++ frameL b) ++ allF bs ++ r := by rw [e1]; simp
    have e3 : a.length + 10 + b.length = (a ++ frameL b).length := by rw [List.length_append, frameL_len]; omega
    rw [e2, e3, ih f (a ++ frameL b) (fun x hx => hb x (List.mem_cons_of_mem _ hx)) (by simp at hf; omega), e1]
    refine Prod.ext rfl ?_
    dsimp only
    rw [List.length_append, List.length_append]; omega
theorem frsS_all (bs : List (List UInt8)) (r : List UInt8) (hb : ∀ b ∈ bs, b.length ≤ 65536) (hr : (bodyS r).2 ≠ 0) : frsS (allF bs ++ r) = (bs, (allF bs).length) := by
  have hl : bs.length ≤ (allF bs).length := by
    clear hb
    induction bs with
    | nil => exact Nat.zero_le _
    | cons b bs ih =>
      have e1 : allF (b :: bs) = frameL b ++ allF bs := by unfold allF; rw [List.flatMap_cons]
      rw [e1, List.length_append, frameL_len, List.length_cons]; omega
  have := frsF_all bs ((allF bs ++ r).length + 1) [] r hb hr (by rw [List.length_append]; omega)
  unfold frsS
  rw [List.nil_append] at this
  exact this.trans (Prod.ext rfl (by simp))
theorem body_none : (bodyS []).2 ≠ 0 := by decide
theorem body_WF : (bodyS [87, 70]).2 ≠ 0 := by decide
end Go.Proofs.YtboffmbaaokbnaaGreatDoor
