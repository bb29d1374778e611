/-
  PackJoins: whatever the two lists and the place, the law returns true; nothing that was there has changed.
-/
import Derived.Test.YtbbmacpjgflndaaDoorJoi
import Derived.Test.YtbbmacpjgflndaaDoorPBack
import Derived.Laws.AppendOwnNone
import Derived.Lib.SmallJoins
namespace Go.Proofs.YtbbmacpjgflndaaDoor
open Go.RowKit

theorem items_cells {w : World} {g : Addr} {l : List It} (h : ItemsAt w (some g) l) : ∀ j u, (itemC l)[j]? = some u → w.cell? (g.add j) = some u := by
  intro j u hj
  have hlen : (itemC l).length = l.length * 3 := by
    clear h hj
    induction l with
    | nil => rfl
    | cons x r ih =>
      have e : itemC (x :: r) = [.bool x.t, .int .i64 x.n, .string x.s] ++ itemC r := by unfold itemC; rw [List.flatMap_cons]
      rw [e, List.length_append, ih, List.length_cons]; simp; omega
  have hjl : j < l.length * 3 := by
    rcases Nat.lt_or_ge j (itemC l).length with h1 | h1
    · omega
    · rw [List.getElem?_eq_none h1] at hj; cases hj
  have hne : l ≠ [] := fun e => by rw [e] at hjl; simp at hjl
  obtain ⟨b, off, e, _, hc⟩ := h hne
  obtain rfl := Option.some.inj e
  rw [Go.WideShapes.add_plain]
  obtain ⟨c0, c1, c2⟩ := hc (j / 3) (by omega)
  obtain ⟨g0, g1, g2⟩ := itemC_get l (j / 3) (by omega)
  rcases (by omega : j = j / 3 * 3 ∨ j = j / 3 * 3 + 1 ∨ j = j / 3 * 3 + 2) with e | e | e
  · rw [e] at hj; rw [g0] at hj; rw [e, ← hj]; exact c0
  · rw [e] at hj; rw [g1] at hj; rw [e, ← hj, ← Nat.add_assoc]; exact c1
  · rw [e] at hj; rw [g2] at hj; rw [e, ← hj, ← Nat.add_assoc]; exact c2
theorem itemC_one (l : List It) : ∀ u ∈ itemC l, u.oneCell' = true := by
  intro u hu
  obtain ⟨x, _, hx⟩ := List.mem_flatMap.1 hu
  simp at hx
  rcases hx with rfl | rfl | rfl <;> rfl
theorem itemC_len (l : List It) : (itemC l).length = l.length * 3 := by
  induction l with
  | nil => rfl
  | cons x r ih =>
    have e : itemC (x :: r) = [.bool x.t, .int .i64 x.n, .string x.s] ++ itemC r := by unfold itemC; rw [List.flatMap_cons]
    rw [e, List.length_append, ih, List.length_cons]; simp; omega
/-- A list of items put at the end of a row of the call's own. -/
theorem wpList_items {w : World} {ops : Array Oper} {rest : List Oper} {o : Oper} {a : Act} {Q : Exit → Act → World → Prop} (hgd : o.guard = none) (s x : Operand)
    (ho : o.op = .call { callee := .builtin .append, args := #[s, x], argTypes := #[22, 22] })
    (B : Nat) (v : Value) (xs : List It) (hs : a.eval s = v) (hown : OwnsI B w v xs) (ad : Option Addr) (cap : Nat) (l : List It) (hx : a.eval x = .slice ad l.length cap) (hnil : ad = none → cap = 0) (hI : ItemsAt w ad l)
    (hb : xs.length + l.length ≤ 10000) (hbase : B ≤ w.heap.size)
    (h : ∀ v' w', OwnsI B w' v' (xs ++ l) → Fr B 50 w w' → wpList Tryd.prog ops Q rest (a.put o.dst v') w') : wpList Tryd.prog ops Q (o :: rest) a w := by
  obtain ⟨i0, hi, hz0, hz1, hz2⟩ := info_parts info_Item
  cases ad with
  | none =>
    have hl : l = [] := by
      by_cases e : l = []
      · exact e
      · obtain ⟨_, _, e2, _⟩ := hI e; cases e2
    subst hl
    refine wpList_append_own_none hgd s x 22 ho B 50 i0 3 Tryd.underlying22 hi v xs.length (itemC xs) hs hown (by rw [hx, hnil rfl]; rfl) ?_
    exact h v w (by rw [List.append_nil]; exact hown) (Fr.refl _ _ _)
  | some g =>
    refine wpList_append_own w hgd s x 22 ho B 50 i0 (.agg #[.bool false, .int .i64 0, .string ⟨#[]⟩]) 3 32 Tryd.underlying22 hi hz0 hz1 hz2 rfl (by decide) v xs.length (itemC xs) hs hown g l.length cap (itemC l) hx (itemC_len l) (items_cells hI) (itemC_one l) (by unfold maxLen; omega) (by omega) hbase ?_
    intro v' w' h1 h2 _
    refine h v' w' ?_ ((Fr.refl _ _ _).grown hown h2 hbase)
    unfold OwnsI
    rw [itemC_append, List.length_append]
    exact h1
theorem wrapUJ (q : Int) : ∃ Q : Nat, Q < 18446744073709551616 ∧ IntKind.u64.wrap q = (Q : Int) :=
  ⟨(q % 18446744073709551616).toNat, by omega, by rw [IntKind.wrap_u64]; omega⟩
set_option maxHeartbeats 2000000 in
set_option maxRecDepth 100000 in
theorem packJoins_walk (ad1 ad2 : Option Addr) (cap1 cap2 : Nat) (a b : List It) (c : Int) (w : World) (hl1 : a.length ≤ 9223372036854775807) (hl2 : b.length ≤ 9223372036854775807) (hA1 : ItemsAt w ad1 a) (hA2 : ItemsAt w ad2 b) (hok1 : ∀ x ∈ a, x.ok) (hok2 : ∀ x ∈ b, x.ok)
    (hn1 : ad1 = none → cap1 = 0) (hn2 : ad2 = none → cap2 = 0) (hcap : b.length ≤ cap2) (hT : TabW w) :
    Calls Tryd.prog 6 #[.slice ad1 a.length cap1, .slice ad2 b.length cap2, .int .i64 c] w fun e w' => e = .returned (.bool true) ∧ Below w.heap.size w w' := by
  have hw := works_any w hT
  have HW := hide hw
  have e1 := fun w hA => encode_any ad1 cap1 a w hl1 hA hok1
  have e2 := fun w hA => encode_any ad2 cap2 b w hl2 hA hok2
  have E1 := hide e1
  have E2 := hide e2
  have HA1 := hide hA1
  have HA2 := hide hA2
  have HO1 := hide hok1
  have HO2 := hide hok2
  have HN1 := hide hn1
  have HN2 := hide hn2
  clear hw hT e1 e2 hA1 hA2 hok1 hok2 hn1 hn2
  obtain ⟨R, hR, eR⟩ := wrapUJ c
  have okA := encE_ok a
  have okB := encE_ok b
  have sa := encS_size a
  have sb := encS_size b
  have hjoin := enc_join a b
  have hshort := fun x k => dec_short a x k
  generalize hEA : encE a = EA at *
  generalize hEB : encE b = EB at *
  generalize hSA : encS a = S at *
  generalize hSB : encS b = T at *
  have OKA := hide okA
  have OKB := hide okB
  have HJ := hide hjoin
  have HS := hide hshort
  have HEB := hide hEB
  clear okA okB hjoin hshort hEA hEB hSA hSB
  go_enter Tryd.func6, Tryd.ntmps6
  go_wp2_with fail
  refine (unhide HW).mono ?_
  rintro e w1 ⟨rfl, hb1⟩
  go_wp2_with fail
  refine (unhide E1 w1 ((unhide HA1).below hb1 (Nat.le_refl _))).mono ?_
  rintro e w2 ⟨rfl, hb2⟩
  have hb3 := hb1.trans (hb2.mono hb1.size)
  clear hb1 hb2
  go_wp2_with fail
  refine (unhide E2 w2 ((unhide HA2).below hb3 (Nat.le_refl _))).mono ?_
  rintro e w3 ⟨rfl, hb4⟩
  have hb5 := hb3.trans (hb4.mono hb3.size)
  have hz5 := hb5.size
  clear hb3 hb4
  by_cases h1 : EA = 0
  · subst h1
    by_cases h2 : EB = 0
    · subst h2
      have a1 := (unhide OKA rfl).1
      have b1 := (unhide OKB rfl).1
      by_cases h3 : 4096 < a.length + b.length
      · go_wp2
        go_ret
        exact ⟨rfl, hb5⟩
      · by_cases h4 : 262144 < S.size + T.size
        · go_wp2
          go_ret
          exact ⟨rfl, hb5⟩
        · obtain ⟨j1, j2⟩ := unhide HJ rfl rfl (by omega) (by omega)
          have hST : (⟨(S.data.toList ++ T.data.toList).toArray⟩ : ByteArray) = S ++ T := by
            apply ByteArray.ext
            apply Array.ext'
            rw [Joins.data_append]
          rw [hST] at j2
          have hsum : S.size + T.size ≤ 9223372036854775807 := by omega
          have ow : OwnsI w.heap.size (w3.alloc (.cells #[] 50)) (.slice (some ⟨w3.heap.size, 0, none⟩) 0 0) [] := World.ownsRow_made w3 #[] 0 hz5 (by unfold maxLen; omega) (by simp)
          have ia : ItemsAt (w3.alloc (.cells #[] 50)) ad1 a := (unhide HA1).below (hb5.alloc hz5 _) (Nat.le_refl _)
          have hzA : w.heap.size ≤ (w3.alloc (.cells #[] 50)).heap.size := by simp; omega
          have hb6 : Below w.heap.size w (w3.alloc (.cells #[] 50)) := hb5.alloc hz5 _
          have J1 := hide j1
          have J2 := hide j2
          have OW := hide ow
          have IA := hide ia
          have HZA := hide hzA
          have HB6 := hide hb6
          clear j1 j2 hST ow ia hzA hb6
          go_wp2_with (at_builtin; refine wpList_items rfl (.tmp 52) (.tmp 53) rfl w.heap.size _ [] rfl (unhide OW) ad1 cap1 a rfl (unhide HN1) (unhide IA) (by simp; omega) (unhide HZA) ?_)
          intro v4 w4 ho4 hf4
          have hb7 := (unhide HB6).trans hf4.below
          have ib := (unhide HA2).below hb7 (Nat.le_refl _)
          have hz7 := hb7.size
          have IB := hide ib
          have HO4 := hide ho4
          clear ib hf4 OW IA HZA ho4
          go_wp2_with (at_builtin; refine wpList_items rfl (.tmp 54) (.tmp 55) rfl w.heap.size _ a rfl (unhide HO4) ad2 cap2 b rfl (unhide HN2) (unhide IB) (by omega) hz7 ?_)
          intro v5 w5 ho5 hf5
          have hb8 := hb7.trans hf5.below
          have hz8 := hb8.size
          obtain ⟨a5, c5, rfl, hi5⟩ := ho5.items
          have e3 := encode_any a5 c5 (a ++ b) w5 (by rw [List.length_append]; omega) hi5 (fun x hx => by
            rcases List.mem_append.1 hx with h | h
            · exact unhide HO1 x h
            · exact unhide HO2 x h)
          rw [unhide J1, unhide J2] at e3
          have E3 := hide e3
          clear e3 hi5 ho5 hf5 hb7 HO4 IB HB6
          generalize (a ++ b).length = m at *
          go_wp2_with fail
          refine (unhide E3).mono ?_
          rintro e w6 ⟨rfl, hb9⟩
          have hb10 := hb8.trans (hb9.mono hz8)
          have hz10 := hb10.size
          clear hb8 hb9
          cases b with
          | nil =>
            go_wp2
            go_ret
            exact ⟨rfl, hb10⟩
          | cons x r =>
            obtain ⟨bb, off, rfl, hbb, hcs⟩ := unhide HA2 (by simp)
            obtain ⟨o1, o2, o3, o4⟩ := enc_one x r (unhide HEB)
            have i1 : ItemsAt w (some ⟨bb, off, none⟩) [x] := fun _ => ⟨bb, off, rfl, hbb, fun i hi => by
              obtain rfl : i = 0 := by simpa using hi
              exact hcs 0 (by simp)⟩
            have hxok := unhide HO2 x List.mem_cons_self
            have e4 := encode_any (some ⟨bb, off, none⟩) cap2 [x] w6 (by simp) (i1.below hb10 (Nat.le_refl _)) (fun y hy => by rw [List.mem_singleton] at hy; rw [hy]; exact hxok)
            rw [o1, o2] at e4
            have hxs : (⟨x.b.toArray⟩ : ByteArray).size = x.b.length := by show (List.toArray _).size = _; rw [List.size_toArray]
            have hbp := x.b_pos
            have hge := It.b_ge x o3
            have hTs : x.b.length ≤ T.size := by
              have q := (unhide OKB (by first | rfl | trivial)).2.2.2
              rw [q]
              show _ ≤ (List.toArray _).size
              rw [List.size_toArray, show listB (x :: r) = x.b ++ listB r from by unfold listB; rw [List.flatMap_cons], List.length_append]
              omega
            have hsh := fun k h1 h2 => unhide HS x k (by first | rfl | trivial) (unhide HO1) (by simp only [List.length_cons] at h3; omega) (by omega) o3 hxok (by omega) h1 h2
            have hcl : (x :: r).length = r.length + 1 := List.length_cons
            simp only [List.length_cons] at hcap h3 b1 ⊢
            have hc1 : 1 ≤ cap2 := by omega
            obtain ⟨K, hK, eK⟩ : ∃ K : Nat, K < x.b.length ∧ (R : Int) % (x.b.length : Int) = (K : Int) := ⟨R % x.b.length, Nat.mod_lt _ (by omega), by simp⟩
            rw [← hxs] at eK hK hsh hbp
            have hXd : (⟨x.b.toArray⟩ : ByteArray).data.toList = x.b := rfl
            rw [← hXd] at hsh
            have hX6 : (⟨x.b.toArray⟩ : ByteArray).size ≤ 262144 := by rw [hxs]; exact o4
            generalize ({ data := x.b.toArray } : ByteArray) = X at *
            have E4 := hide e4
            have HSH := hide hsh
            clear e4 hsh o1 o2 o3 o4 hxs hge hXd hTs hcs i1 hxok hcl HS OKA OKB HJ HEB
            go_wp2_with fail
            refine (unhide E4).mono ?_
            rintro e w7 ⟨rfl, hb11⟩
            have hb12 := hb10.trans (hb11.mono hz10)
            have hz12 := hb12.size
            clear hb10 hb11
            by_cases hfull : 1 + K = X.size
            · have gf : ((1 : Int) + (K : Int) == (X.size : Int)) = true := beq_iff_eq.2 (by omega)
              go_wp2
              go_ret
              exact ⟨rfl, hb12⟩
            · have gf : ((1 : Int) + (K : Int) == (X.size : Int)) = false := beq_eq_false_iff_ne.2 (by omega)
              have hd := unhide HSH (1 + K) (by omega) (by omega)
              have hde := fun w => decode_any (S ++ X.extract 0 (1 + K)) w (by rw [ByteArray.size_append, ByteArray.size_extract]; omega)
              rw [Joins.data_append, Lib.extract_data, List.drop_zero, Nat.sub_zero, hd] at hde
              have HDE := hide hde
              have hsum2 : S.size + (X.extract 0 (1 + K)).size ≤ 9223372036854775807 := by rw [ByteArray.size_extract]; omega
              clear hd hde
              go_wp2_with fail
              refine (unhide HDE w7).mono ?_
              rintro e w8 ⟨v8, rfl, ho8, hb13⟩
              dsimp only
              obtain ⟨a8, c8, rfl, _⟩ := ho8.items
              have hb14 := hb12.trans (hb13.mono hz12)
              have hz14 := hb14.size
              clear ho8 hb12 hb13
              go_wp2
              go_ret
              exact ⟨rfl, hb14.alloc hz14 _⟩
    · have g2 : (EB != 0) = true := by rw [bne_iff_ne]; exact h2
      clear h2
      go_wp2
      go_ret
      exact ⟨rfl, hb5⟩
  · have g1 : (EA != 0) = true := by rw [bne_iff_ne]; exact h1
    clear h1
    go_wp2
    go_ret
    exact ⟨rfl, hb5⟩
end Go.Proofs.YtbbmacpjgflndaaDoor
