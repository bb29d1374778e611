/-
  TokenBlanks: its walk.
-/
import Derived.Test.YtglfjgnbfligoaaDoorTBkW
namespace Go.Proofs.YtglfjgnbfligoaaDoor
open Go.RowKit

/-- A gap of so many blanks. -/
def gapL (k : Nat) : List UInt8 := (List.range k).map fun i => if i % 2 = 0 then 32 else 10
theorem gapL_len (k : Nat) : (gapL k).length = k := by unfold gapL; simp
theorem gapL_succ (k : Nat) : gapL (k + 1) = gapL k ++ [if k % 2 = 0 then 32 else 10] := by unfold gapL; rw [List.range_succ, List.map_append]; rfl
theorem gapL_blk (k : Nat) : ∀ x ∈ gapL k, isBlk x = true := by
  unfold gapL
  intro x hx
  obtain ⟨i, _, rfl⟩ := List.mem_map.1 hx
  split <;> rfl
theorem txt_app (a b : List UInt8) : txt a ++ txt b = txt (a ++ b) := by
  apply ByteArray.ext
  apply Array.ext'
  simp [txt]
theorem gap_cut (z : Nat) (h : z < 2) : (⟨#[32, 10]⟩ : ByteArray).extract z (z + 1) = txt [if z = 0 then 32 else 10] := by
  match z, h with
  | 0, _ => rfl
  | 1, _ => rfl
theorem TksAt.one {w : World} {b off : Nat} {l : List Tk} {j : Nat} (h : TksAt w (some ⟨b, off, none⟩) l) (hj : j < l.length) : TksAt w (some ⟨b, off + j * 4, none⟩) [l[j]] := fun _ => by
  obtain ⟨b', off', he, hlt, hc⟩ := h (by intro e; subst e; simp at hj)
  injection he with he
  injection he with e1 e2
  subst e1
  subst e2
  refine ⟨b, off + j * 4, rfl, hlt, fun i hi => ?_⟩
  obtain rfl : i = 0 := by simpa using hi
  have := hc j hj
  simpa using this
theorem join_at {gx cp : Nat} {l : List Tk} {j : Nat} {w : World} (hA : TksAt w (some ⟨gx, 0, none⟩) l) (hT : TbW w) (hok : ∀ t ∈ l, t.ok) (hj : j < l.length) (hw : wrOk l[j] = true) (hc : j + 1 ≤ cp) :
    Calls Tryd.prog 14 #[.slice (some ⟨gx, j * 4, none⟩) 1 (cp - j)] w fun e w' => e = .returned (.tuple #[.string (txt (spell l[j])), .int .i64 0]) ∧ Below w.heap.size w w' := by
  have h1 := hA.one hj
  rw [Nat.zero_add] at h1
  have := join_any (some ⟨gx, j * 4, none⟩) (cp - j) [l[j]] w hT (by simp) (by simp; omega) h1 (by simpa using hok _ (List.getElem_mem hj))
  rw [joR_one hw] at this
  exact this
theorem gaps_len (g : List UInt8) (m : Nat) (hg : g.length ≤ m) (ts : List Tk) (j : Nat) (h : ∀ t ∈ ts, wrOk t = true) : (g ++ (ts.take j).flatMap fun t => spell t ++ g).length ≤ m + j * (258 + m) := by
  have key : ∀ l : List Tk, (∀ t ∈ l, wrOk t = true) → (l.flatMap fun t => spell t ++ g).length ≤ l.length * (258 + m) := by
    intro l
    induction l with
    | nil => simp
    | cons t r ih =>
      intro h
      have h1 := (wr_facts (h t (by simp))).2.2.2.2
      have h2 := ih (fun x hx => h x (by simp [hx]))
      rw [List.flatMap_cons, List.length_append, List.length_append, List.length_cons, Nat.succ_mul]
      omega
  have h1 := key (ts.take j) (fun t ht => h t (List.mem_of_mem_take ht))
  rw [List.length_append]
  have h2 : (ts.take j).length * (258 + m) ≤ j * (258 + m) := Nat.mul_le_mul_right _ (by rw [List.length_take]; omega)
  omega
theorem many_is (x : Int) : ∃ M : Nat, wrap64 (1 + wrap64 ((IntKind.u64.wrap x).tmod 5)) = (M : Int) ∧ 1 ≤ M ∧ M ≤ 5 := by
  have h0 : 0 ≤ IntKind.u64.wrap x := by rw [IntKind.wrap_u64]; omega
  have h1 : (IntKind.u64.wrap x).tmod 5 = (IntKind.u64.wrap x) % 5 := Int.tmod_eq_emod_of_nonneg h0
  rw [h1]
  generalize IntKind.u64.wrap x = y at *
  have h2 : wrap64 (y % 5) = y % 5 := by unfold wrap64; omega
  rw [h2]
  have h3 : wrap64 (1 + y % 5) = 1 + y % 5 := by unfold wrap64; omega
  rw [h3]
  exact ⟨(1 + y % 5).toNat, by omega, by omega, by omega⟩
set_option maxHeartbeats 1000000 in
set_option maxRecDepth 100000 in
theorem blanks_walk (s : ByteArray) (x : Int) (w : World) (hs : s.size ≤ 9223372036854775807) (hT : TbW w) :
    Calls Tryd.prog 6 #[.string s, .int .i64 x] w fun e w' => e = .returned (.bool true) ∧ Kp [] w w' := by
  have hlow := hT.low
  have TK := fun W hW => tokens_any s W hW hs
  have HFL := hide (tsL_ok s)
  have HCS := hide (tsR_flt s)
  have EQ : ∀ W, (Op.equalIn 10000 25 (.agg #[.int .i64 (tsA (tsR s)), .int .i64 (tsC (tsR s))]) (.agg #[.int .i64 0, .int .i64 0])).run Tryd.prog W = .ok (tsA (tsR s) == 0 && tsC (tsR s) == 0) W := fun W => eqF 9998 _ _ _ _ W
  generalize (tsA (tsR s) == 0 && tsC (tsR s) == 0) = FB at *
  generalize tsA (tsR s) = A at *
  generalize tsC (tsR s) = C at *
  generalize tsL s.size (tsR s) = L at *
  have HTK : Hid (∀ W, TbW W → Calls Tryd.prog 9 #[.string s] W fun e w' => ∃ a2 n2 c2, e = .returned (.tuple #[.slice a2 n2 c2, .agg #[.int .i64 A, .int .i64 C]]) ∧ n2 = L.length ∧ OwnsK W.heap.size w' (.slice a2 n2 c2) L ∧ Below W.heap.size W w') := hide (fun W hW => (TK W hW).mono fun e w' ⟨v, h1, h2, h3⟩ => by
    obtain ⟨a2, c2, rfl, _⟩ := h2.at
    exact ⟨a2, L.length, c2, h1, rfl, h2, h3⟩)
  clear TK
  go_enter Tryd.func6, Tryd.ntmps6
  go_wp2_with fail
  refine (tworks_any w hT).mono ?_
  rintro e w1 ⟨rfl, hb1⟩
  have hT1 := hT.below hb1 hlow
  have hl1 := hb1.size
  have HB1 := hide hb1
  clear hb1
  go_wp2_with fail
  refine (unhide HTK _ hT1).mono ?_
  rintro e w2 ⟨a2, n2, c2, rfl, hn2, hO2, hb2⟩
  have hT2 : TbW (w2.alloc (.cells #[.int .i64 A, .int .i64 C] 25)) := (hT1.below hb2 hT1.low).alloc _
  have hl2 := hb2.size
  have hb12 : Below w.heap.size w (w2.alloc (.cells #[.int .i64 A, .int .i64 C] 25)) := ((unhide HB1).trans (hb2.mono hl1)).alloc (by omega) _
  have hO3 : OwnsK w1.heap.size (w2.alloc (.cells #[.int .i64 A, .int .i64 C] 25)) (.slice a2 n2 c2) L := hO2.alloc _
  have hlw : w.heap.size ≤ (w2.alloc (.cells #[.int .i64 A, .int .i64 C] 25)).heap.size := hb12.size
  have HN2 := hide hn2
  have HB2 := hide hb12
  have HO3 := hide hO3
  clear hb2 hT1 hO2 hO3 hb12 hn2 hl2 HTK HB1
  by_cases hbad : FB = false ∨ 500 < n2 ∨ 20000 < s.size
  · have HK : Hid (Kp [] w (w2.alloc (.cells #[.int .i64 A, .int .i64 C] 25))) := hide (Kp.ofBelow (unhide HB2))
    have HBD := hide hbad
    clear hbad
    cases FB with
    | false =>
      go_wp2
      go_ret
      exact ⟨rfl, unhide HK⟩
    | true =>
      by_cases h5 : 500 < n2
      · go_wp2
        go_ret
        exact ⟨rfl, unhide HK⟩
      · have h2 : 20000 < s.size := by rcases unhide HBD with h | h | h; (cases h); (omega); exact h
        go_wp2
        go_ret
        exact ⟨rfl, unhide HK⟩
  · have h5 : n2 ≤ 500 := by omega
    have h2 : s.size ≤ 20000 := by omega
    obtain rfl : FB = true := by cases FB with | true => rfl | false => exact absurd (Or.inl rfl) hbad
    clear hbad
    obtain ⟨M, hM, hM1, hM5⟩ := many_is x
    have HM := hide hM
    clear hM
    go_wp2_with fail
    rw [unhide HM]
    clear HM EQ
    generalize w2.alloc (.cells #[.int .i64 A, .int .i64 C] 25) = W2 at *
    go_loop [7, 42] (fun g i => ∃ k : Nat, k ≤ M ∧ i = .int .i64 (k : Int) ∧ g = .string (txt (gapL k))) (fun _ i => M - (intOf i).toNat)
    case atStart => exact ⟨0, Nat.zero_le _, rfl, rfl⟩
    case round =>
      obtain ⟨k, hk, rfl, rfl⟩ := hrel
      by_cases hlt : k < M
      · have hz : (k : Int) % 2 = ((k % 2 : Nat) : Int) := by omega
        have hz2 : k % 2 < 2 := by omega
        have HG := hide (gapL_succ k)
        have hgl : (txt (gapL k)).size = k := by rw [txt_size, gapL_len]
        generalize k % 2 = z at *
        have gc := gap_cut z hz2
        have hb1 : (9223372036854775807 < (txt (gapL k)).size + (min (z + 1) 2 - z)) = False := eq_false (by rw [hgl]; omega)
        have HGC := hide gc
        have HGL := hide hgl
        clear gc hgl
        go_wp2
        go_round
        case rel => exact ⟨k + 1, by omega, by go_num, by rw [unhide HGC, txt_app, unhide HG]⟩
        case measure => simp [intOf]; omega
      · obtain rfl : k = M := by omega
        rcases unhide HCS with ⟨_, ts, rfl, hwr, h4⟩ | ⟨h, _⟩
        rotate_left 1
        · cases h
        have hL : (ts ++ [endK s.size]).length = ts.length + 1 := by simp
        have hn2 := unhide HN2
        rw [hL] at hn2
        obtain ⟨gx, cpx, hvx, hgx, hgxl, hRx⟩ := (unhide HO3).row (by simp)
        obtain ⟨ax, cpx2, hv2, hAx, hcx⟩ := (unhide HO3).at
        injection hvx with ea en ec
        subst ea
        injection hv2 with ea2 en2 ec2
        subst ea2
        subst ec
        subst ec2
        have hgxw : w.heap.size ≤ gx := by omega
        rw [hL] at hcx
        have HWR := hide hwr
        have HNN := hide hn2
        have HRX := hide hRx
        have HAX := hide hAx
        have hn2c : n2 ≤ c2 := by omega
        have hn2p : 1 ≤ n2 := by omega
        clear en en2 hcx hAx hRx HO3 HN2 hn2 hwr h4 hL
        have hGs : (txt (gapL k)).size ≤ 5 := by rw [txt_size, gapL_len]; exact hM5
        have HGS := hide hGs
        go_wp2_with fail
        go_loopw [9, 10] (fun t i wr => ∃ j : Nat, j + 1 ≤ n2 ∧ i = .int .i64 (j : Int) ∧ t = .string (txt (gapL k ++ (ts.take j).flatMap fun t => spell t ++ gapL k)) ∧ Below W2.heap.size W2 wr) (fun _ i _ => n2 - (intOf i).toNat)
        case atStart => exact ⟨0, by omega, rfl, by simp, Below.refl _ _⟩
        case round =>
          obtain ⟨j, hj, rfl, rfl, hbe⟩ := hrel
          have hTr : TbW wr := hT2.below hbe hT2.low
          have hlr := hbe.size
          have HBE := hide hbe
          by_cases hlt : j + 1 < n2
          · have hjt : j < ts.length := by have := unhide HNN; omega
            have hwj := unhide HWR ts[j] (List.getElem_mem hjt)
            have htl := gaps_len (gapL k) 5 (by rw [gapL_len]; exact hM5) ts j (unhide HWR)
            have hsp := (wr_facts hwj).2.2.2.2
            have JO := join_at (gx := gx) (cp := c2) (l := ts ++ [endK s.size]) (j := j) ((unhide HAX).below hbe (Nat.le_refl _)) hTr (unhide HFL) (by simp; omega) (by rw [List.getElem_append_left hjt]; exact hwj) (by omega)
            rw [List.getElem_append_left hjt] at JO
            have HN : Hid (gapL k ++ (ts.take j).flatMap (fun t => spell t ++ gapL k) ++ (spell ts[j] ++ gapL k) = gapL k ++ (ts.take (j + 1)).flatMap fun t => spell t ++ gapL k) := hide (by rw [List.take_succ_eq_append_getElem hjt, List.flatMap_append, List.append_assoc]; simp)
            rw [← txt_size] at htl hsp
            have b1 : (9223372036854775807 < (txt (spell ts[j])).size + (txt (gapL k)).size) = False := eq_false (by have := unhide HGS; omega)
            have b2 : (9223372036854775807 < (txt (gapL k ++ (ts.take j).flatMap fun t => spell t ++ gapL k)).size + ((txt (spell ts[j])).size + (txt (gapL k)).size)) = False := eq_false (by have := unhide HGS; omega)
            have HJO := hide JO
            clear JO htl hsp hbe hwj
            go_wp2_with fail
            refine (unhide HJO).mono ?_
            rintro e w3 ⟨rfl, hb3⟩
            have hbe3 : Below W2.heap.size W2 w3 := (unhide HBE).trans (hb3.mono hlr)
            clear hb3 HJO
            go_wp2
            go_roundw
            case rel => exact ⟨j + 1, by omega, by go_num, by rw [txt_app, txt_app, unhide HN], hbe3⟩
            case measure => simp [intOf]; omega
          · have hjt : j = ts.length := by have := unhide HNN; omega
            have hjt2 : ts.take j = ts := by rw [hjt, List.take_length]
            rw [hjt2]
            have htl := gaps_len (gapL k) 5 (by rw [gapL_len]; exact hM5) ts ts.length (unhide HWR)
            rw [List.take_length] at htl
            have hts : ts.length ≤ 499 := by omega
            obtain ⟨ts2, hr2, hmp⟩ := toks_gaps (gapL k) (gapL_blk k) (fun e => by have := congrArg List.length e; rw [gapL_len] at this; simp at this; omega) ts 0 0 (unhide HWR) (by omega)
            have hr3 : tsR (txt (gapL k ++ ts.flatMap fun t => spell t ++ gapL k)) = .good ts2 := by
              unfold tsR
              rw [if_neg (by rw [txt_size]; omega), txt_list]
              exact hr2
            have hal := alike_of_map hmp
            have TK2 := fun W hW => tokens_any (txt (gapL k ++ ts.flatMap fun t => spell t ++ gapL k)) W hW (by rw [txt_size]; omega)
            rw [hr3] at TK2
            have hALL : Alike (ts ++ [endK s.size]) (ts2 ++ [endK (txt (gapL k ++ ts.flatMap fun t => spell t ++ gapL k)).size]) := Alike.snoc ⟨hal.1.symm, fun i a b => by have := hal.2 i b a; exact ⟨this.1.symm, this.2.1.symm, this.2.2.symm⟩⟩ ⟨rfl, rfl, rfl⟩
            have hL1 : (ts ++ [endK s.size]).length = n2 := by have := unhide HNN; simp; omega
            have hlen2 : (ts2 ++ [endK (txt (gapL k ++ ts.flatMap fun t => spell t ++ gapL k)).size]).length = n2 := by rw [← hALL.1, hL1]
            have HTK2 : Hid (∀ W, TbW W → Calls Tryd.prog 9 #[.string (txt (gapL k ++ ts.flatMap fun t => spell t ++ gapL k))] W fun e w' => ∃ gy cy, e = .returned (.tuple #[.slice (some ⟨gy, 0, none⟩) n2 cy, .agg #[.int .i64 0, .int .i64 0]]) ∧ W.heap.size ≤ gy ∧ gy < w'.heap.size ∧ RowK gy (ts2 ++ [endK (txt (gapL k ++ ts.flatMap fun t => spell t ++ gapL k)).size]) w' ∧ Below W.heap.size W w') := hide (fun W hW => (TK2 W hW).mono fun e w' ⟨v, h1, h2, h3⟩ => by
              have h2' : OwnsK W.heap.size w' v (ts2 ++ [endK (txt (gapL k ++ ts.flatMap fun t => spell t ++ gapL k)).size]) := h2
              obtain ⟨gy, cy, rfl, a, b, c⟩ := h2'.row (by simp)
              rw [hlen2] at h1
              exact ⟨gy, cy, h1, a, b, c, h3⟩)
            clear TK2 hr2 hr3 hmp hal htl hts hjt hjt2 HNN HWR HAX HFL HCS
            generalize txt (gapL k ++ ts.flatMap fun t => spell t ++ gapL k) = J at *
            generalize ts2 ++ [endK J.size] = L2 at *
            generalize ts ++ [endK s.size] = L1 at *
            have HAL := hide hALL
            have HL1 := hide hL1
            have HL2 := hide hlen2
            clear hALL hL1 hlen2 hbe
            go_wp2_with fail
            refine (unhide HTK2 _ hTr).mono ?_
            rintro e w4 ⟨gy, cy, rfl, hgy, hgyl, hRy, hb4⟩
            have hl4 := hb4.size
            have hRx4 : RowK gx L1 (w4.alloc (.cells #[.int .i64 0, .int .i64 0] 25)) := (((unhide HRX).kp (Kp.ofBelow (unhide HBE)) (by simp)).kp (Kp.ofBelow hb4) (by simp)).kp (Kp.alloc _ _) (by simp)
            have hRy4 : RowK gy L2 (w4.alloc (.cells #[.int .i64 0, .int .i64 0] 25)) := hRy.kp (Kp.alloc _ _) (by simp)
            have hB4 : Below w.heap.size w (w4.alloc (.cells #[.int .i64 0, .int .i64 0] 25)) := (((unhide HB2).trans ((unhide HBE).mono hlw)).trans (hb4.mono (by omega))).alloc (by omega) _
            have hne : gx ≠ gy := by omega
            have hgyw : w.heap.size ≤ gy := by omega
            clear hRy hb4 HBE HRX
            go_wp2_with fail
            generalize w4.alloc (.cells #[.int .i64 0, .int .i64 0] 25) = W4 at *
            have HB4 := hide hB4
            clear hB4
            go_loopw [95] (fun i wr => ∃ k : Nat, k ≤ n2 ∧ i = .int .i64 (k : Int) ∧ Kp [gx, gy] W4 wr ∧ RowK gx L1 wr ∧ RowK gy L2 wr) (fun i _ => n2 - (intOf i).toNat)
            case atStart => exact ⟨0, Nat.zero_le _, rfl, Kp.refl _ _, hRx4, hRy4⟩
            case round =>
              obtain ⟨k, hk, rfl, hkp, hrx, hry⟩ := hrel
              by_cases hlt : k < n2
              · have hk1 : k < L1.length := by rw [unhide HL1]; exact hlt
                have hk2 : k < L2.length := by rw [unhide HL2]; exact hlt
                obtain ⟨x0, x1, x2, ⟨xv, x3⟩, fx⟩ := hrx.cells k hk1
                obtain ⟨y0, y1, y2, ⟨yv, y3⟩, fy⟩ := hry.cells k hk2
                have y3' := (Kp.set wr gx (k * 4 + 3) (.int .i64 0)).cell y3 (by simp; omega)
                have fy' : (wr.setCell ⟨gx, k * 4 + 3, none⟩ (.int .i64 0)).frozen? ⟨gy, k * 4 + 3, none⟩ = false := (hry.kp (Kp.set wr gx (k * 4 + 3) (.int .i64 0)) (by simp; omega)).cells k hk2 |>.2.2.2.2
                have TR := two_rows hrx hry hne hk1 hk2 (unhide HAL)
                have HTR := hide TR
                have HKP := hide hkp
                clear TR hkp hrx hry x0 x1 x2 y0 y1 y2 hk1 hk2 y3 fy
                go_wp2_with fail
                obtain ⟨W5, hW5, hrx5, hry5, hkp5, ka, kb, kc, x0, x1, x2, x3', y0, y1, y2, y3⟩ := unhide HTR
                rw [← hW5]
                have HKP5 : Hid (Kp [gx, gy] W4 W5) := hide ((unhide HKP).trans hkp5 (by simp))
                have HX5 := hide hrx5
                have HY5 := hide hry5
                clear hW5 hrx5 hry5 hkp5 HTR HKP x3 y3' fx fy'
                go_quiet (fail)
                go_wp2
                go_roundw
                case rel => exact ⟨k + 1, by omega, by go_num, (unhide HKP5).trans (Kp.drewQ _ _) (by simp), (unhide HX5).kp (Kp.drewQ _ _) (by simp), (unhide HY5).kp (Kp.drewQ _ _) (by simp)⟩
                case measure => simp [intOf]; omega
              · have HBE : Hid (Kp [] w wr) := hide (Kp.ofBelow ((unhide HB4).trans (hkp.below (by have := (unhide HB4).size; omega) (by simp; omega))))
                clear hkp hrx hry
                go_wp2
                go_ret
                exact ⟨rfl, unhide HBE⟩
end Go.Proofs.YtglfjgnbfligoaaDoor
