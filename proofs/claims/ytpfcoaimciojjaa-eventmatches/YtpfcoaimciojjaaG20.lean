/-
  matchOf, walked.
-/
import Derived.Test.YtpfcoaimciojjaaG19
namespace Go.Proofs.Ytpfcoaimciojjaa
open Go.RowKit

/-- What matchOf answers. -/
def MRes (B : Nat) (w' : World) (l : List It) (r : Ending) : Prop :=
  (mtOf l = none ∧ ∃ k a n c, r = .returned (.tuple #[.agg #[.string k, .slice a n c], .bool false])) ∨
  (∃ k ss a c, mtOf l = some (k, ss) ∧ r = .returned (.tuple #[.agg #[.string k, .slice a ss.length c], .bool true]) ∧ ∃ vs, OwnsV B w' (.slice a ss.length c) vs ∧ All3 B w' vs ss)
theorem ItemsAt.same {w : World} {ad : Option Addr} (l : List It) (h : l = []) : ItemsAt w ad l := fun hne => absurd h hne
set_option maxHeartbeats 8000000 in
set_option maxRecDepth 100000 in
theorem matchOf_any (ad : Option Addr) (cap : Nat) (l : List It) (w : World) (hcap : l.length ≤ cap) (hmax : cap ≤ 9223372036854775807) (h4 : l.length ≤ 4096) (hA : ItemsAt w ad l) :
    Calls Try.prog 34 #[.slice ad l.length cap] w fun r w' => Below w.heap.size w w' ∧ MRes w.heap.size w' l r := by
  have hb0 : Below w.heap.size w (w.alloc (.cells #[.string ⟨#[]⟩, .slice none 0 0] 35)) := below_new _ _
  have bR : VBox w.heap.size ⟨#[]⟩ (.slice none 0 0) (w.alloc (.cells #[.string ⟨#[]⟩, .slice none 0 0] 35)) := heap_alloc_new w _
  by_cases h2 : l.length < 2
  · have hm : mtOf l = none := by
      match l, h2 with
      | [], _ => rfl
      | [x], _ => rfl
      | x :: y :: r, h => exact absurd h (by simp)
    have HM := hide hm
    clear hm hA bR
    generalize l.length = n at *
    go_enter Try.func34, Try.ntmps34
    go_wp2
    exact bodyPost_ret (v := .tuple #[.agg #[.string ⟨#[]⟩, .slice none 0 0], .bool false]) (by simp [results, Try.results34, go_sem]) rfl ⟨hb0, Or.inl ⟨unhide HM, _, _, _, _, rfl⟩⟩
  · obtain ⟨x, y, r, rfl⟩ : ∃ x y r, l = x :: y :: r := by
      match l, h2 with
      | [], h => exact absurd (by simp) h
      | [x], h => exact absurd (by simp) h
      | x :: y :: r, _ => exact ⟨x, y, r, rfl⟩
    obtain ⟨b, off, rfl, hbw, hc⟩ := hA (by simp)
    have hcs : ∀ W, Below w.heap.size w W → W.cell? ⟨b, off, none⟩ = some (.bool x.t) ∧ W.cell? ⟨b, off + 2, none⟩ = some (.string x.s) ∧ W.cell? ⟨b, off + 3, none⟩ = some (.bool y.t) ∧ W.cell? ⟨b, off + 4, none⟩ = some (.int .i64 y.n) ∧ W.cell? ⟨b, off + 5, none⟩ = some (.string y.s) := fun W hW => by
      have k := fun o => hW.cell (p := ⟨b, o, none⟩) hbw
      obtain ⟨c0, _, c2⟩ := hc 0 (by simp)
      obtain ⟨d0, d1, d2⟩ := hc 1 (by simp)
      exact ⟨(k _).trans c0, (k _).trans c2, (k _).trans d0, (k _).trans d1, (k _).trans d2⟩
    have hlen : (x :: y :: r).length = r.length + 2 := rfl
    rw [hlen] at hcap h4 ⊢
    have hmt : mtOf (x :: y :: r) = if x.t = true ∧ nupB y 8 = true then (rdSs y.n.toNat r).bind fun z => if z.2 = [] then some (x.s, z.1) else none else none := rfl
    have HMT := hide hmt
    have HCS := hide hcs
    have HA := hide hA
    have fc := hcs _ hb0
    clear hmt hcs hc hlen h2 hA
    have hl2 : ¬ (((r.length + 2 : Nat) : Int) < 2) := by omega
    by_cases hx : x.t = true
    · have nu1 := fun w => numberUpTo_any y 8 w
      by_cases hn : nupB y 8 = true
      · have hv : nupV y 8 = y.n := if_pos hn
        rw [hn, hv] at nu1
        have hb8 : 0 ≤ y.n ∧ y.n ≤ 8 := by
          unfold nupB at hn
          simp only [Bool.and_eq_true, decide_eq_true_eq] at hn
          exact ⟨hn.1.2, hn.2⟩
        have hmt := unhide HMT
        rw [if_pos ⟨hx, hn⟩] at hmt
        obtain ⟨xt, xn, xs⟩ := x
        obtain ⟨yt, yn, ys⟩ := y
        dsimp only at hx hmt fc nu1 hb8 HCS
        subst hx
        obtain ⟨N, rfl⟩ := Int.eq_ofNat_of_zero_le hb8.1
        rw [Int.toNat_natCast] at hmt
        have hN8 : N ≤ 8 := by omega
        have hrest0 : ∀ W, ItemsAt W (some ⟨b, off, none⟩) (⟨true, xn, xs⟩ :: ⟨yt, (N : Int), ys⟩ :: r) → ItemsAt W (some ⟨b, off + 6, none⟩) r := fun W h => by
          have := h.tail 2
          exact this
        have NU := hide nu1
        have HMT2 := hide hmt
        have HR0 := hide hrest0
        have rs := fun a' c' l' w h1 h2 h3 h4 => readStage_any a' c' l' w h1 h2 h3 h4
        have RS := hide rs
        obtain ⟨i0, hi, hz0, hz1, hz2⟩ := info_parts info_ints
        have hbx := hb0.alloc hb0.size (.cells #[.bool yt, .int .i64 (N : Int), .string ys] 47)
        have bRx := bR.alloc (.cells #[.bool yt, .int .i64 (N : Int), .string ys] 47)
        clear nu1 hmt hrest0 rs hn hv HMT
        have hrdone : rdSs N r = (rdSs (N - 0) r).bind fun z => some ([] ++ z.1, z.2) := by
          rw [Nat.sub_zero]
          cases rdSs N r with
          | none => rfl
          | some z => simp
        have HD := hide hrdone
        clear hrdone
        by_cases hc2 : cap = 2
        · subst hc2
          obtain rfl : r = [] := List.eq_nil_of_length_eq_zero (by omega)
          simp only [List.length_nil, Nat.zero_add] at *
          go_enter Try.func34, Try.ntmps34
          go_wp2_with fail
          refine (unhide NU _).mono ?_
          rintro e w1 ⟨rfl, rfl⟩
          generalize (w.alloc (.cells #[.string ⟨#[]⟩, .slice none 0 0] 35)).alloc (.cells #[.bool yt, .int .i64 (N : Int), .string ys] 47) = W1 at *
          have fc1 := unhide HCS W1 hbx
          have hb2 := hbx.alloc hbx.size (.cells #[.string xs, .slice none 0 0] 35)
          have bR2 := bRx.alloc (.cells #[.string xs, .slice none 0 0] 35)
          have bM2 : VBox W1.heap.size xs (.slice none 0 0) (W1.alloc (.cells #[.string xs, .slice none 0 0] 35)) := heap_alloc_new W1 _
          have hgm : w.heap.size < W1.heap.size := bRx.lt
          clear fc
          go_wp2_with fail
          generalize W1.alloc (.cells #[.string xs, .slice none 0 0] 35) = W2 at *
          generalize W1.heap.size = gm at *
          clear hbx bRx fc1 hb0 bR NU
          go_loopw [7, 38] (fun v7 i wr => ∃ (j c7 : Nat) (a7 : Option Addr) (rest : List It) (acc : List (List Int)) (vs : List Value) (mv : Value), j ≤ N ∧ i = .int .i64 (j : Int) ∧ v7 = .slice a7 rest.length c7 ∧ Hid (∀ W, ItemsAt W (some ⟨b, off, none⟩) (⟨true, xn, xs⟩ :: ⟨yt, (N : Int), ys⟩ :: ([] : List It)) → ItemsAt W a7 rest) ∧ rest.length ≤ c7 ∧ c7 ≤ 9223372036854775807 ∧ rest.length ≤ 4096 ∧ Below w.heap.size w wr ∧ VBox w.heap.size ⟨#[]⟩ (.slice none 0 0) wr ∧ VBox gm xs mv wr ∧ OwnsV w.heap.size wr mv vs ∧ All3 w.heap.size wr vs acc ∧ vs.length ≤ j ∧ Hid (rdSs N ([] : List It) = (rdSs (N - j) rest).bind fun z => some (acc ++ z.1, z.2))) (fun _ i _ => N - (intOf i).toNat)
          case atStart => exact ⟨0, 0, some ⟨b, off, none⟩, [], [], [], .slice none 0 0, by omega, rfl, rfl, hide (fun W _ => ItemsAt.same _ rfl), by simp, by omega, by simp, hb2, bR2, bM2, OwnsV.nil _ _, trivial, by simp, HD⟩
          case round =>
            clear hb2 bR2 bM2
            obtain ⟨j, c7, a7, rest, acc, vs, mv, hj, rfl, rfl, HI, hc7, hm7, h47, hb2, bR2, bM2, ow, al, hvs, HK⟩ := hrel
            have fR := bR2.cells
            have rR := bR2.froz
            have fM := bM2.cells
            by_cases hlt : j < N
            · have hjn : (j : Int) < (N : Int) := by omega
              have rs := unhide RS a7 c7 rest wr hc7 hm7 h47 (unhide HI wr ((unhide HA).below hb2 (Nat.le_refl _)))
              have RS2 := hide rs
              clear rs
              go_wp2_with fail
              refine (unhide RS2).mono ?_
              rintro e w3 ⟨hb3, hor⟩
              have hb3' := hb2.trans (hb3.mono hb2.size)
              have bR3 := bR2.below hb3 bR2.lt
              have bM3 := bM2.below hb3 bM2.lt
              rcases hor with ⟨hnone, rfl⟩ | ⟨ps, rest', pv, a', c', hsome, rfl, owp, hit, hl', hm', hlt'⟩
              · have hfail := rdSs_fail hlt (unhide HK) hnone
                have hmt := unhide HMT2
                rw [hfail] at hmt
                have HM := hide hmt
                have fR3 := bR3.cells
                have rR3 := bR3.froz
                have hbf := (hb3'.setCell (p := ⟨w.heap.size, 0, none⟩) (Nat.le_refl _) (.string ⟨#[]⟩)).setCell (p := ⟨w.heap.size, 1, none⟩) (Nat.le_refl _) (.slice none 0 0)
                clear hmt hfail HK fR rR fM bR2 bM2 ow al hb2 RS2 HI HMT2 hb3' bR3 bM3
                go_wp2
                exact bodyPost_ret (v := .tuple #[.agg #[.string ⟨#[]⟩, .slice none 0 0], .bool false]) (by simp [results, Try.results34, go_sem, fR3]) rfl ⟨hbf, Or.inl ⟨unhide HM, _, _, _, _, rfl⟩⟩
              · have hstep := rdSs_step hlt (unhide HK) hsome
                have al3 := al.mono (w' := w3) (fun v p h => h.below hb3 (Nat.le_refl _))
                have ip := owp.mono hb2.size
                obtain ⟨pa, pc, rfl, _⟩ := ip.ints
                have ow3 := ow.below hb3 (Nat.le_refl _)
                have fM3 := bM3.cells
                have hz3 := hb3'.size
                have HST := hide hstep
                have HI2 : Hid (∀ W, ItemsAt W (some ⟨b, off, none⟩) (⟨true, xn, xs⟩ :: ⟨yt, (N : Int), ys⟩ :: ([] : List It)) → ItemsAt W a' rest') := hide (fun W h => hit W (unhide HI W h))
                have hone : (Value.slice pa ps.length pc).oneCell' = true := rfl
                clear hstep HK HI hit fR rR fM bR2 bM2 ow al hb2 RS2 owp hsome hb3
                go_wp2_with (at_builtin; refine wpList_append_own _ rfl _ _ 33 rfl w.heap.size 61 i0 (.slice none 0 0) 1 24 Try.underlying33 hi hz0 hz1 hz2 rfl (by decide) _ _ _ rfl (ow3.alloc _) ⟨w3.heap.size, 0, none⟩ 1 1 [.slice pa ps.length pc] rfl rfl ?c1 ?c2 ?c3 ?c4 ?c5 ?_)
                case c1 => exact cell_one_new _ _ _
                case c2 => intro u hu; simp at hu; subst hu; exact hone
                case c3 => unfold maxLen; omega
                case c4 => omega
                case c5 => simp; omega
                intro v4 w4 ow4 hg4 _
                have hf4 : Fr w.heap.size 61 w3 w4 := ((Fr.refl _ _ w3).alloc hz3 _).grown (ow3.alloc _) hg4 (by simp; omega)
                have bR4 := bR3.fr hf4
                have bM4 := bM3.fr hf4
                have al4 := (All3.snoc ip al3).mono (w' := w4) (fun v p h => h.fr hf4 (by decide))
                have hb4 := hb3'.trans hf4.below
                have ow5 : OwnsV w.heap.size w4 v4 (vs ++ [.slice pa ps.length pc]) := by
                  unfold OwnsV
                  rw [List.length_append]
                  exact ow4
                obtain ⟨a4, c4, rfl⟩ := ow5.form
                have rM4 := bM4.froz
                have fM4 := bM4.cells
                have bM5 := bM4.set (.slice a4 (vs ++ [Value.slice pa ps.length pc]).length c4)
                have bR5 := bR4.setOther (i := 1) (Nat.ne_of_lt hgm) (.slice a4 (vs ++ [Value.slice pa ps.length pc]).length c4)
                have ow6 := ow5.setBox (i := 1) (y := .slice a4 (vs ++ [Value.slice pa ps.length pc]).length c4) bM4
                have al6 := al4.mono (w' := w4.setCell ⟨gm, 1, none⟩ (.slice a4 (vs ++ [Value.slice pa ps.length pc]).length c4)) (fun v p h => OwnsN.setBox bM4 v p h)
                have hb5 := hb4.setCell (p := ⟨gm, 1, none⟩) (Nat.le_of_lt hgm) (.slice a4 (vs ++ [Value.slice pa ps.length pc]).length c4)
                clear ow3 ow4 hg4 hf4 bR3 bM3 al3 ip hb3' bR4 bM4 al4 hb4 ow5 fM3
                have hln : (vs ++ [Value.slice pa ps.length pc]).length = vs.length + 1 := by simp
                rw [hln] at bM5 bR5 ow6 al6 hb5 ⊢
                go_wp2
                go_roundw
                case rel => exact ⟨j + 1, c', a', rest', acc ++ [ps], vs ++ [.slice pa ps.length pc], _, by omega, by go_num, rfl, HI2, hl', hm', by omega, hb5, bR5, bM5, ow6, al6, by simp; omega, HST⟩
                case measure => simp [intOf]; omega
            · obtain rfl : j = N := by omega
              have hk := unhide HK
              rw [Nat.sub_self] at hk
              simp only [rdSs, Option.bind_some, List.append_nil] at hk
              have hmt := unhide HMT2
              rw [hk] at hmt
              simp only [Option.bind_some] at hmt
              obtain ⟨sa, sc, rfl, _⟩ := ow.stages3 al
              have hnj : ¬ ((j : Int) < (j : Int)) := by omega
              have hbf := (hb2.setCell (p := ⟨w.heap.size, 0, none⟩) (Nat.le_refl _) (.string xs)).setCell (p := ⟨w.heap.size, 1, none⟩) (Nat.le_refl _) (.slice sa acc.length sc)
              have bR6 : VBox w.heap.size xs (.slice none 0 0) (wr.setCell ⟨w.heap.size, 0, none⟩ (.string xs)) := by
                unfold VBox at bR2 ⊢
                unfold World.setCell
                simp [bR2, Array.getElem?_modify]
              have ow7 := (ow.setBox (i := 0) (y := .string xs) bR2).setBox (i := 1) (y := .slice sa acc.length sc) bR6
              have al7 := (al.mono (w' := wr.setCell ⟨w.heap.size, 0, none⟩ (.string xs)) (fun v p h => OwnsN.setBox bR2 v p h)).mono (w' := (wr.setCell ⟨w.heap.size, 0, none⟩ (.string xs)).setCell ⟨w.heap.size, 1, none⟩ (.slice sa acc.length sc)) (fun v p h => OwnsN.setBox bR6 v p h)
              have HST := hide (And.intro ow7 al7)
              have HM := hide hmt
              have HBF := hide hbf
              clear hmt hk HK ow al ow7 al7 hbf bM2 bR2 bR6 HI HMT2
              cases rest with
              | nil =>
                go_wp2
                refine bodyPost_ret (v := .tuple #[.agg #[.string xs, .slice sa acc.length sc], .bool true]) (by simp [results, Try.results34, go_sem, fR]) rfl ⟨unhide HBF, Or.inr ⟨xs, acc, sa, sc, ?_, rfl, vs, unhide HST⟩⟩
                rw [unhide HM]; simp
              | cons z zs =>
                have gz : (((z :: zs).length : Int) == 0) = false := beq_eq_false_iff_ne.2 (by simp; omega)
                have gz2 : ((zs.length : Int) + 1 == 0) = false := beq_eq_false_iff_ne.2 (by omega)
                go_wp2
                refine bodyPost_ret (v := .tuple #[.agg #[.string xs, .slice sa acc.length sc], .bool false]) (by simp [results, Try.results34, go_sem, fR]) rfl ⟨unhide HBF, Or.inl ⟨?_, _, _, _, _, rfl⟩⟩
                rw [unhide HM]; simp
        · have hcn : ¬ cap = 2 := hc2
          go_enter Try.func34, Try.ntmps34
          go_wp2_with fail
          refine (unhide NU _).mono ?_
          rintro e w1 ⟨rfl, rfl⟩
          generalize (w.alloc (.cells #[.string ⟨#[]⟩, .slice none 0 0] 35)).alloc (.cells #[.bool yt, .int .i64 (N : Int), .string ys] 47) = W1 at *
          have fc1 := unhide HCS W1 hbx
          have hb2 := hbx.alloc hbx.size (.cells #[.string xs, .slice none 0 0] 35)
          have bR2 := bRx.alloc (.cells #[.string xs, .slice none 0 0] 35)
          have bM2 : VBox W1.heap.size xs (.slice none 0 0) (W1.alloc (.cells #[.string xs, .slice none 0 0] 35)) := heap_alloc_new W1 _
          have hgm : w.heap.size < W1.heap.size := bRx.lt
          clear fc
          go_wp2_with fail
          generalize W1.alloc (.cells #[.string xs, .slice none 0 0] 35) = W2 at *
          generalize W1.heap.size = gm at *
          clear hbx bRx fc1 hb0 bR NU
          go_loopw [7, 38] (fun v7 i wr => ∃ (j c7 : Nat) (a7 : Option Addr) (rest : List It) (acc : List (List Int)) (vs : List Value) (mv : Value), j ≤ N ∧ i = .int .i64 (j : Int) ∧ v7 = .slice a7 rest.length c7 ∧ Hid (∀ W, ItemsAt W (some ⟨b, off, none⟩) (⟨true, xn, xs⟩ :: ⟨yt, (N : Int), ys⟩ :: r) → ItemsAt W a7 rest) ∧ rest.length ≤ c7 ∧ c7 ≤ 9223372036854775807 ∧ rest.length ≤ 4096 ∧ Below w.heap.size w wr ∧ VBox w.heap.size ⟨#[]⟩ (.slice none 0 0) wr ∧ VBox gm xs mv wr ∧ OwnsV w.heap.size wr mv vs ∧ All3 w.heap.size wr vs acc ∧ vs.length ≤ j ∧ Hid (rdSs N r = (rdSs (N - j) rest).bind fun z => some (acc ++ z.1, z.2))) (fun _ i _ => N - (intOf i).toNat)
          case atStart => exact ⟨0, cap - 2, some ⟨b, off + 6, none⟩, r, [], [], .slice none 0 0, by omega, rfl, rfl, hide (fun W h => unhide HR0 W h), by omega, by omega, by omega, hb2, bR2, bM2, OwnsV.nil _ _, trivial, by simp, HD⟩
          case round =>
            clear hb2 bR2 bM2
            obtain ⟨j, c7, a7, rest, acc, vs, mv, hj, rfl, rfl, HI, hc7, hm7, h47, hb2, bR2, bM2, ow, al, hvs, HK⟩ := hrel
            have fR := bR2.cells
            have rR := bR2.froz
            have fM := bM2.cells
            by_cases hlt : j < N
            · have hjn : (j : Int) < (N : Int) := by omega
              have rs := unhide RS a7 c7 rest wr hc7 hm7 h47 (unhide HI wr ((unhide HA).below hb2 (Nat.le_refl _)))
              have RS2 := hide rs
              clear rs
              go_wp2_with fail
              refine (unhide RS2).mono ?_
              rintro e w3 ⟨hb3, hor⟩
              have hb3' := hb2.trans (hb3.mono hb2.size)
              have bR3 := bR2.below hb3 bR2.lt
              have bM3 := bM2.below hb3 bM2.lt
              rcases hor with ⟨hnone, rfl⟩ | ⟨ps, rest', pv, a', c', hsome, rfl, owp, hit, hl', hm', hlt'⟩
              · have hfail := rdSs_fail hlt (unhide HK) hnone
                have hmt := unhide HMT2
                rw [hfail] at hmt
                have HM := hide hmt
                have fR3 := bR3.cells
                have rR3 := bR3.froz
                have hbf := (hb3'.setCell (p := ⟨w.heap.size, 0, none⟩) (Nat.le_refl _) (.string ⟨#[]⟩)).setCell (p := ⟨w.heap.size, 1, none⟩) (Nat.le_refl _) (.slice none 0 0)
                clear hmt hfail HK fR rR fM bR2 bM2 ow al hb2 RS2 HI HMT2 hb3' bR3 bM3
                go_wp2
                exact bodyPost_ret (v := .tuple #[.agg #[.string ⟨#[]⟩, .slice none 0 0], .bool false]) (by simp [results, Try.results34, go_sem, fR3]) rfl ⟨hbf, Or.inl ⟨unhide HM, _, _, _, _, rfl⟩⟩
              · have hstep := rdSs_step hlt (unhide HK) hsome
                have al3 := al.mono (w' := w3) (fun v p h => h.below hb3 (Nat.le_refl _))
                have ip := owp.mono hb2.size
                obtain ⟨pa, pc, rfl, _⟩ := ip.ints
                have ow3 := ow.below hb3 (Nat.le_refl _)
                have fM3 := bM3.cells
                have hz3 := hb3'.size
                have HST := hide hstep
                have HI2 : Hid (∀ W, ItemsAt W (some ⟨b, off, none⟩) (⟨true, xn, xs⟩ :: ⟨yt, (N : Int), ys⟩ :: r) → ItemsAt W a' rest') := hide (fun W h => hit W (unhide HI W h))
                have hone : (Value.slice pa ps.length pc).oneCell' = true := rfl
                clear hstep HK HI hit fR rR fM bR2 bM2 ow al hb2 RS2 owp hsome hb3
                go_wp2_with (at_builtin; refine wpList_append_own _ rfl _ _ 33 rfl w.heap.size 61 i0 (.slice none 0 0) 1 24 Try.underlying33 hi hz0 hz1 hz2 rfl (by decide) _ _ _ rfl (ow3.alloc _) ⟨w3.heap.size, 0, none⟩ 1 1 [.slice pa ps.length pc] rfl rfl ?c1 ?c2 ?c3 ?c4 ?c5 ?_)
                case c1 => exact cell_one_new _ _ _
                case c2 => intro u hu; simp at hu; subst hu; exact hone
                case c3 => unfold maxLen; omega
                case c4 => omega
                case c5 => simp; omega
                intro v4 w4 ow4 hg4 _
                have hf4 : Fr w.heap.size 61 w3 w4 := ((Fr.refl _ _ w3).alloc hz3 _).grown (ow3.alloc _) hg4 (by simp; omega)
                have bR4 := bR3.fr hf4
                have bM4 := bM3.fr hf4
                have al4 := (All3.snoc ip al3).mono (w' := w4) (fun v p h => h.fr hf4 (by decide))
                have hb4 := hb3'.trans hf4.below
                have ow5 : OwnsV w.heap.size w4 v4 (vs ++ [.slice pa ps.length pc]) := by
                  unfold OwnsV
                  rw [List.length_append]
                  exact ow4
                obtain ⟨a4, c4, rfl⟩ := ow5.form
                have rM4 := bM4.froz
                have fM4 := bM4.cells
                have bM5 := bM4.set (.slice a4 (vs ++ [Value.slice pa ps.length pc]).length c4)
                have bR5 := bR4.setOther (i := 1) (Nat.ne_of_lt hgm) (.slice a4 (vs ++ [Value.slice pa ps.length pc]).length c4)
                have ow6 := ow5.setBox (i := 1) (y := .slice a4 (vs ++ [Value.slice pa ps.length pc]).length c4) bM4
                have al6 := al4.mono (w' := w4.setCell ⟨gm, 1, none⟩ (.slice a4 (vs ++ [Value.slice pa ps.length pc]).length c4)) (fun v p h => OwnsN.setBox bM4 v p h)
                have hb5 := hb4.setCell (p := ⟨gm, 1, none⟩) (Nat.le_of_lt hgm) (.slice a4 (vs ++ [Value.slice pa ps.length pc]).length c4)
                clear ow3 ow4 hg4 hf4 bR3 bM3 al3 ip hb3' bR4 bM4 al4 hb4 ow5 fM3
                have hln : (vs ++ [Value.slice pa ps.length pc]).length = vs.length + 1 := by simp
                rw [hln] at bM5 bR5 ow6 al6 hb5 ⊢
                go_wp2
                go_roundw
                case rel => exact ⟨j + 1, c', a', rest', acc ++ [ps], vs ++ [.slice pa ps.length pc], _, by omega, by go_num, rfl, HI2, hl', hm', by omega, hb5, bR5, bM5, ow6, al6, by simp; omega, HST⟩
                case measure => simp [intOf]; omega
            · obtain rfl : j = N := by omega
              have hk := unhide HK
              rw [Nat.sub_self] at hk
              simp only [rdSs, Option.bind_some, List.append_nil] at hk
              have hmt := unhide HMT2
              rw [hk] at hmt
              simp only [Option.bind_some] at hmt
              obtain ⟨sa, sc, rfl, _⟩ := ow.stages3 al
              have hnj : ¬ ((j : Int) < (j : Int)) := by omega
              have hbf := (hb2.setCell (p := ⟨w.heap.size, 0, none⟩) (Nat.le_refl _) (.string xs)).setCell (p := ⟨w.heap.size, 1, none⟩) (Nat.le_refl _) (.slice sa acc.length sc)
              have bR6 : VBox w.heap.size xs (.slice none 0 0) (wr.setCell ⟨w.heap.size, 0, none⟩ (.string xs)) := by
                unfold VBox at bR2 ⊢
                unfold World.setCell
                simp [bR2, Array.getElem?_modify]
              have ow7 := (ow.setBox (i := 0) (y := .string xs) bR2).setBox (i := 1) (y := .slice sa acc.length sc) bR6
              have al7 := (al.mono (w' := wr.setCell ⟨w.heap.size, 0, none⟩ (.string xs)) (fun v p h => OwnsN.setBox bR2 v p h)).mono (w' := (wr.setCell ⟨w.heap.size, 0, none⟩ (.string xs)).setCell ⟨w.heap.size, 1, none⟩ (.slice sa acc.length sc)) (fun v p h => OwnsN.setBox bR6 v p h)
              have HST := hide (And.intro ow7 al7)
              have HM := hide hmt
              have HBF := hide hbf
              clear hmt hk HK ow al ow7 al7 hbf bM2 bR2 bR6 HI HMT2
              cases rest with
              | nil =>
                go_wp2
                refine bodyPost_ret (v := .tuple #[.agg #[.string xs, .slice sa acc.length sc], .bool true]) (by simp [results, Try.results34, go_sem, fR]) rfl ⟨unhide HBF, Or.inr ⟨xs, acc, sa, sc, ?_, rfl, vs, unhide HST⟩⟩
                rw [unhide HM]; simp
              | cons z zs =>
                have gz : (((z :: zs).length : Int) == 0) = false := beq_eq_false_iff_ne.2 (by simp; omega)
                have gz2 : ((zs.length : Int) + 1 == 0) = false := beq_eq_false_iff_ne.2 (by omega)
                go_wp2
                refine bodyPost_ret (v := .tuple #[.agg #[.string xs, .slice sa acc.length sc], .bool false]) (by simp [results, Try.results34, go_sem, fR]) rfl ⟨unhide HBF, Or.inl ⟨?_, _, _, _, _, rfl⟩⟩
                rw [unhide HM]; simp
      · have hn' : nupB y 8 = false := by simpa using hn
        have hv : nupV y 8 = 0 := if_neg hn
        rw [hn', hv] at nu1
        have hmt := unhide HMT
        rw [if_neg (fun h => hn h.2)] at hmt
        obtain ⟨xt, xn, xs⟩ := x
        obtain ⟨yt, yn, ys⟩ := y
        dsimp only at hx hmt fc nu1 HCS
        subst hx
        have NU := hide nu1
        have HM := hide hmt
        have hbx := hb0.alloc hb0.size (.cells #[.bool yt, .int .i64 yn, .string ys] 47)
        have bRx := bR.alloc (.cells #[.bool yt, .int .i64 yn, .string ys] 47)
        clear nu1 hmt hn hn' hv HMT HA HCS
        go_enter Try.func34, Try.ntmps34
        go_wp2_with fail
        refine (unhide NU _).mono ?_
        rintro e w1 ⟨rfl, rfl⟩
        generalize (w.alloc (.cells #[.string ⟨#[]⟩, .slice none 0 0] 35)).alloc (.cells #[.bool yt, .int .i64 yn, .string ys] 47) = W1 at *
        have fR := bRx.cells
        have rR := bRx.froz
        have hbf := (hbx.setCell (p := ⟨w.heap.size, 0, none⟩) (Nat.le_refl _) (.string ⟨#[]⟩)).setCell (p := ⟨w.heap.size, 1, none⟩) (Nat.le_refl _) (.slice none 0 0)
        clear hbx bRx hb0 bR fc NU
        go_wp2
        exact bodyPost_ret (v := .tuple #[.agg #[.string ⟨#[]⟩, .slice none 0 0], .bool false]) (by simp [results, Try.results34, go_sem, fR]) rfl ⟨hbf, Or.inl ⟨unhide HM, _, _, _, _, rfl⟩⟩
    · have hx' : x.t = false := by simpa using hx
      have hmt := unhide HMT
      rw [if_neg (fun h => hx h.1)] at hmt
      obtain ⟨xt, xn, xs⟩ := x
      dsimp only at hx hx' fc HCS
      subst hx'
      have HM := hide hmt
      clear hmt hx HMT HA HCS bR
      go_enter Try.func34, Try.ntmps34
      go_wp2
      exact bodyPost_ret (v := .tuple #[.agg #[.string ⟨#[]⟩, .slice none 0 0], .bool false]) (by simp [results, Try.results34, go_sem]) rfl ⟨hb0, Or.inl ⟨unhide HM, _, _, _, _, rfl⟩⟩
end Go.Proofs.Ytpfcoaimciojjaa
