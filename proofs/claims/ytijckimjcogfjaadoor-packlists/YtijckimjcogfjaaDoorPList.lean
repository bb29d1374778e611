/-
  PackLists: whatever the list and the bytes, the law returns true; nothing that was there has changed.
-/
import Derived.Test.YtijckimjcogfjaaDoorLend
import Derived.Test.YtijckimjcogfjaaDoorRefE
import Derived.Test.YtijckimjcogfjaaDoorRefDD
import Derived.Test.YtijckimjcogfjaaDoorWorks
namespace Go.Proofs.YtijckimjcogfjaaDoor
open Go.RowKit

theorem decF_len (f : Nat) (b : List UInt8) (at_ : Nat) (acc : List It) (h : acc.length ≤ 4096) : (decF f b at_ acc).1.length ≤ 4096 := by
  induction f generalizing b at_ acc with
  | zero => exact h
  | succ f ih =>
    rw [decF]
    split
    · exact h
    · split
      · exact Nat.zero_le _
      · split
        · exact Nat.zero_le _
        · rename_i hf _
          exact ih _ _ _ (by rw [List.length_append, List.length_cons, List.length_nil]; omega)
theorem decS_len (b : List UInt8) : (decS b).1.length ≤ 4096 := by
  unfold decS
  split
  · exact Nat.zero_le _
  · exact decF_len _ _ _ _ (Nat.zero_le _)
set_option maxHeartbeats 4000000 in
theorem packLists_walk (ad : Option Addr) (cap : Nat) (l : List It) (b : ByteArray) (w : World) (hlen : l.length ≤ 4398046511104) (hA : ItemsAt w ad l) (hok : ∀ x ∈ l, x.ok) (hsz : ∀ x ∈ l, x.s.size ≤ 140737488351232) (hn : ad = none → cap = 0) (hb : b.size ≤ 9223372036854775807) (hT : TabW w) :
    Calls Tryd.prog 3 #[.slice ad l.length cap, .string b] w fun e w' => e = .returned (.bool true) ∧ Below w.heap.size w w' := by
  have h0 := hT.1
  have c1 := lendItems_any ad cap l w hlen hA hn
  have c2 := fun g cp w hI => encode_any g cp l w (by omega) hI hok
  have c3 := fun w hI => refEncode_any ad cap l w (by omega) hI hok hsz
  have c4 := fun w => decode_any b w hb
  have c5 := fun w => refDecode_any b w hb
  have hdl := decS_len b.data.toList
  generalize encS l = S at *
  generalize encE l = E at *
  generalize decS b.data.toList = X at *
  obtain ⟨Xl, Xa, Xc⟩ := X
  dsimp only at c4 c5 hdl
  have C1 := hide c1
  have C2 := hide c2
  have C3 := hide c3
  have C4 := hide c4
  have C5 := hide c5
  have HT := hide hT
  have HA := hide hA
  have tab : ∀ W, Below w.heap.size w W → TabW W := fun W hW => (unhide HT).below hW h0
  have TAB := hide tab
  clear c1 c2 c3 c4 c5 hT tab hA hok hsz hn
  go_enter Tryd.func3, Tryd.ntmps3
  go_wp2_with fail
  refine (unhide C1).mono ?_
  rintro e w1 ⟨g, cp, rfl, ho1, hb1⟩
  have hz1 := hb1.size
  obtain ⟨g', cp', eg, _, _, _, hI1, _⟩ := lend_hold ho1
  simp only [Value.slice.injEq, Option.some.injEq, Addr.mk.injEq] at eg
  obtain ⟨⟨rfl, _⟩, _, rfl⟩ := eg
  have e2 := unhide C2 (some ⟨g, 0, none⟩) cp w1 hI1
  have E2 := hide e2
  clear hI1 e2
  go_wp2_with fail
  refine (unhide E2).mono ?_
  rintro e w2 ⟨rfl, hb2⟩
  have hb2' := hb1.trans (hb2.mono hz1)
  have ho2 := ho1.below hb2 (Nat.le_refl _)
  have hz2 := hb2'.size
  clear hb1 hb2 ho1
  go_wp2_with fail
  refine (unhide C3 w2 ((unhide HA).below hb2' (Nat.le_refl _))).mono ?_
  rintro e w3 ⟨rfl, hb3⟩
  have hb3' := hb2'.trans (hb3.mono hz2)
  have ho3 := ho2.below hb3 (Nat.le_refl _)
  have hz3 := hb3'.size
  clear hb2' hb3 ho2
  go_wp2_with fail
  refine (unhide C4 w3).mono ?_
  rintro e w4 ⟨v4, rfl, hv4, hb4⟩
  have hb4' := hb3'.trans (hb4.mono hz3)
  have ho4 := ho3.below hb4 (Nat.le_refl _)
  have hz4 := hb4'.size
  clear hb3' hb4 ho3
  obtain ⟨a4, k4, rfl, hx4⟩ := hv4.items
  have f4 : (w4.alloc (.cells #[.int .i64 Xa, .int .i64 Xc] 28)).heap[w4.heap.size]? = some (.cells #[.int .i64 Xa, .int .i64 Xc] 28 (0, 0)) := heap_alloc_new w4 _
  have hb4'' : Below w.heap.size w (w4.alloc (.cells #[.int .i64 Xa, .int .i64 Xc] 28)) := hb4'.alloc hz4 _
  have hsz4 : w4.heap.size < (w4.alloc (.cells #[.int .i64 Xa, .int .i64 Xc] 28)).heap.size := by simp
  have ho4' := ho4.alloc (.cells #[.int .i64 Xa, .int .i64 Xc] 28)
  have hx4' : ItemsAt (w4.alloc (.cells #[.int .i64 Xa, .int .i64 Xc] 28)) a4 Xl := hx4.below ((Below.refl w4.heap.size w4).alloc (Nat.le_refl _) _) (Nat.le_refl _)
  go_wp2_with fail
  generalize (w4.alloc (.cells #[.int .i64 Xa, .int .i64 Xc] 28)) = W4 at *
  generalize w4.heap.size = g4 at *
  refine (unhide C5 W4).mono ?_
  rintro e w5 ⟨v5, rfl, hv5, hb5⟩
  have hb5' := hb4''.trans (hb5.mono hb4''.size)
  have ho5 := ho4'.below hb5 (Nat.le_refl _)
  have hx5 := hx4'.below hb5 (Nat.le_refl _)
  have hz5 := hb5'.size
  have f5 := (hb5.block g4 hsz4).trans f4
  have hg5 : g4 < w5.heap.size := Nat.lt_of_lt_of_le hsz4 hb5.size
  obtain ⟨a5, k5, rfl, hy5⟩ := hv5.items
  have f6 : (w5.alloc (.cells #[.int .i64 Xa, .int .i64 Xc] 28)).heap[w5.heap.size]? = some (.cells #[.int .i64 Xa, .int .i64 Xc] 28 (0, 0)) := heap_alloc_new w5 _
  have f5' : (w5.alloc (.cells #[.int .i64 Xa, .int .i64 Xc] 28)).heap[g4]? = some (.cells #[.int .i64 Xa, .int .i64 Xc] 28 (0, 0)) := (Below.heap_alloc _ _ _ hg5).trans f5
  have hb6 : Below w.heap.size w (w5.alloc (.cells #[.int .i64 Xa, .int .i64 Xc] 28)) := hb5'.alloc hz5 _
  have ho6 := ho5.alloc (.cells #[.int .i64 Xa, .int .i64 Xc] 28)
  have hal : Below w5.heap.size w5 (w5.alloc (.cells #[.int .i64 Xa, .int .i64 Xc] 28)) := (Below.refl w5.heap.size w5).alloc (Nat.le_refl _) _
  have hx6 := hx5.below hal (Nat.le_refl _)
  have hy6 := hy5.below hal (Nat.le_refl _)
  have st := sameItems_true a4 a5 k4 k5 Xl _ hx6 hy6 (by omega)
  have kt := fun n => keptItems_any w.heap.size g cp ad cap l ((w5.alloc (.cells #[.int .i64 Xa, .int .i64 Xc] 28)).drewN n) hlen ho6 ((unhide HA).below (below_drewN hb6 n) (Nat.le_refl _))
  clear hb4' hb4'' hb5 f4 f5 ho4 ho4' ho5 hx4 hx4' hx5 hy5 hv4 hv5 hal hb5' hx6 hy6
  go_wp2_with fail
  generalize (w5.alloc (.cells #[.int .i64 Xa, .int .i64 Xc] 28)) = W5 at *
  generalize w5.heap.size = g5 at *
  have hc1 : W5.cell? ⟨g4, 0, none⟩ = some (.int .i64 Xa) ∧ W5.cell? ⟨g4, 1, none⟩ = some (.int .i64 Xc) ∧ W5.cell? ⟨g5, 0, none⟩ = some (.int .i64 Xa) ∧ W5.cell? ⟨g5, 1, none⟩ = some (.int .i64 Xc) := by
    simp [World.cell?, f5', f6]
  have ST := hide st
  have KT := hide kt
  have HB := hide hb6
  clear st kt hb6 f5' f6 ho6
  refine (names_any _).mono ?_
  rintro e w6 ⟨rfl, rfl⟩
  go_wp2_with fail
  refine (unhide ST).mono ?_
  rintro e w7 ⟨rfl, n7, rfl⟩
  go_wp2_with fail
  refine (unhide KT n7).mono ?_
  rintro e w8 ⟨rfl, n8, rfl⟩
  have hb9 := below_drewN (unhide HB) (n7 + n8)
  have wk := works_any _ (unhide TAB _ hb9)
  go_wp2_with fail
  refine wk.mono ?_
  rintro e w10 ⟨rfl, hb10⟩
  have hb11 := hb9.trans (hb10.mono hb9.size)
  clear wk hb9 hb10
  go_wp2
  go_ret
  exact ⟨rfl, hb11⟩
end Go.Proofs.YtijckimjcogfjaaDoor
