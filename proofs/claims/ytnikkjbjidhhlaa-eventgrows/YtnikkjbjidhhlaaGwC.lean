/-
  EventGrows: the walk.
-/
import Derived.Test.YtnikkjbjidhhlaaGwD
import Derived.Deep.DeepCutAuto
namespace Go.Proofs.Ytnikkjbjidhhlaa
open Go.RowKit

theorem by_nat (b : Int) : ∃ B : Nat, 1 ≤ B ∧ B ≤ 1000 ∧ (1 : Int) + (IntKind.u64.wrap b).tmod 1000 = (B : Int) := by
  rw [IntKind.wrap_u64, Int.tmod_eq_emod_of_nonneg (by omega)]
  exact ⟨(1 + b % 18446744073709551616 % 1000).toNat, by omega, by omega, by omega⟩
theorem StagesAt.kp0 {w w' : World} {ad : Option Addr} {ss : List (List Int)} (h : StagesAt w ad ss) (hk : Kp [] w w') : StagesAt w' ad ss := h.below (hk.below (Nat.le_refl _) (by simp)) (Nat.le_refl _)
set_option maxHeartbeats 8000000 in
set_option maxRecDepth 100000 in
theorem grows_walk (k : ByteArray) (ad : Option Addr) (cap : Nat) (ss : List (List Int)) (b : Int) (w : World) (ok : MtOk k ss) (hS : StagesAt w ad ss) :
    Calls Try.prog 4 #[.agg #[.string k, .slice ad ss.length cap], .int .i64 b] w fun e w' => e = .returned (.bool true) ∧ Below w.heap.size w w' := by
  have WK := hide (fun W => evWorks_any W)
  have CK := hide (fun W (hk : Kp [] w W) => checkMatch_any k ad cap ss W ok (hS.kp0 hk))
  have HS := hide hS
  have HOK := hide ok
  clear hS ok
  obtain ⟨B, hB1, hB2, hB⟩ := by_nat b
  have hbx := CBox.new w #[.string k, .slice ad ss.length cap] 28
  have hk0 := Kp.alloc w (.cells #[.string k, .slice ad ss.length cap] 28)
  go_enter Try.func4, Try.ntmps4
  go_wp2_with fail
  generalize w.alloc (.cells #[.string k, .slice ad ss.length cap] 28) = W0 at *
  refine (unhide WK W0).mono ?_
  rintro r w1 ⟨rfl, hb1⟩
  have hk1 := hk0.trans (Kp.ofBelow hb1) (by simp)
  have bx1 := hbx.kp (Kp.ofBelow hb1) (by simp)
  clear hk0 hbx hb1 WK
  have c1 : w1.cell? ⟨w.heap.size, 0, none⟩ = some (.string k) ∧ w1.cell? ⟨w.heap.size, 1, none⟩ = some (.slice ad ss.length cap) := ⟨bx1.cell rfl, bx1.cell rfl⟩
  have C1 := hide (unhide CK w1 hk1)
  have BX1 := hide bx1
  have K1 := hide hk1
  clear bx1 hk1 CK
  by_cases hm : mayM k ss = true
  · have e0 : chkM k ss = 0 := if_pos hm
    rw [e0] at C1
    have HM := hide hm
    clear hm e0
    go_wp2_with fail
    refine (unhide C1).mono ?_
    rintro r w2 ⟨rfl, rfl⟩
    have kq := Kp.alloc w1 (.cells #[.string k, .slice ad ss.length cap] 28)
    have K2 := hide ((unhide K1).trans kq (by simp))
    have BX2 := hide ((unhide BX1).kp kq (by simp))
    have c2 : (w1.alloc (.cells #[.string k, .slice ad ss.length cap] 28)).cell? ⟨w.heap.size, 0, none⟩ = some (.string k) ∧ (w1.alloc (.cells #[.string k, .slice ad ss.length cap] 28)).cell? ⟨w.heap.size, 1, none⟩ = some (.slice ad ss.length cap) := ⟨(unhide BX2).cell rfl, (unhide BX2).cell rfl⟩
    clear kq C1 K1 BX1 c1
    generalize w1.alloc (.cells #[.string k, .slice ad ss.length cap] 28) = W2 at *
    have d2 : W2.drew.cell? ⟨w.heap.size, 0, none⟩ = some (.string k) := c2.1
    have d3 : ∀ o, (W2.alloc o).drew.cell? ⟨w.heap.size, 0, none⟩ = some (.string k) := fun o => (Kp.alloc _ _).cell c2.1 (by simp)
    have d4 : ∀ o o', ((W2.alloc o).alloc o').drew.cell? ⟨w.heap.size, 0, none⟩ = some (.string k) := fun o o' => ((Kp.alloc _ _).trans (Kp.alloc _ _) (by simp)).cell c2.1 (by simp)
    have ST := hide (fun gm gl h => GwS.start W2 k gm gl h)
    go_upto_region 6 with fail
    go_cut [5, 6] (fun s5 s6 wc => ∃ gm gl : Nat, s5 = .pointer (some ⟨gm, 0, none⟩) ∧ s6 = .pointer (some ⟨gl, 0, none⟩) ∧ Hid (GwS W2 wc gm gl k (.slice none 0 0) (.slice none 0 0) [] [] [] []))
    case first =>
      go_region
      · go_wp2
        go_meet
        exact ⟨_, _, rfl, rfl, hide (unhide ST _ _ (Or.inl ⟨rfl, rfl⟩))⟩
      · go_wp2
        go_meet
        exact ⟨_, _, rfl, rfl, hide (unhide ST _ _ (Or.inr ⟨rfl, rfl⟩))⟩
    case rest =>
      obtain ⟨gm, gl, rfl, rfl, S3⟩ := hcut
      clear ST d2 d3 d4
      generalize wc = W3 at *
      have BX3 := (unhide BX2).kp (unhide S3).tw.kp (by simp)
      have c3 : W3.cell? ⟨w.heap.size, 0, none⟩ = some (.string k) ∧ W3.cell? ⟨w.heap.size, 1, none⟩ = some (.slice ad ss.length cap) := ⟨BX3.cell rfl, BX3.cell rfl⟩
      clear BX3 c2
      have HS2 := hide ((unhide HS).kp0 (unhide K2))
      have hs8 := (mayM_ne (unhide HM)).2.1
      have hs0 := (mayM_ne (unhide HM)).1
      clear HS
      go_wp2
      go_loopw [37] (fun i wr => ∃ (j : Nat) (va la : Option Addr) (vc lc : Nat) (ms ls : List Value), j ≤ ss.length ∧ i = .int .i64 (j : Int) ∧ Hid (GwS W2 wr gm gl k (.slice va ms.length vc) (.slice la ls.length lc) ms ls (ss.take j) ((ss.take j).map (laterP B)))) (fun i _ => ss.length - (intOf i).toNat)
      case atStart => exact ⟨0, none, none, 0, 0, [], [], Nat.zero_le _, rfl, S3⟩
      case round =>
        obtain ⟨j, va, la, vc, lc, ms, ls, hj, rfl, G⟩ := hrel
        by_cases hlt : j < ss.length
        · obtain ⟨b0, off, rfl, _, hc⟩ := (unhide HS2) (fun e => by rw [e] at hlt; simp at hlt)
          obtain ⟨pa, pc, hcell0, hI⟩ := hc j hlt
          have hcell := (unhide G).tw.kp.cell hcell0 (by simp)
          have hp1 := (mayM_ne (unhide HM)).2.2 ss[j] (List.getElem_mem _)
          obtain ⟨hp2, hp3⟩ := mayM_bnd (unhide HM) ss[j] (List.getElem_mem _)
          have NX1 : Hid (ss.take (j + 1) = ss.take j ++ [ss[j]]) := hide (List.take_succ_eq_append_getElem hlt)
          have HNP := hide hp3
          have hml : ms.length ≤ 8 := by have := (unhide G).tw.sm.inn.1; rw [this, List.length_take]; omega
          have hll : ls.length ≤ 8 := by have := (unhide G).tw.sl.inn.1; rw [this, List.length_map, List.length_take]; omega
          clear hc hp3 hcell0
          generalize ss[j] = p at *
          obtain ⟨pb, po, rfl, _, hpc⟩ := hI (fun e => by rw [e] at hp1; simp at hp1)
          have hji : (j : Int) < (ss.length : Int) := by omega
          have RD := hide (fun W' hk => (unhide G).reads W' hk)
          have kE : Kp [] wr (wr.alloc (.cells #[] 3)).drew := (Kp.alloc _ _).trans (Kp.drew _) (by simp)
          have x0 : wr.drew.cell? ⟨gm, 1, none⟩ = some (.slice va ms.length vc) := (unhide RD _ (Kp.drew wr)).1
          have x1 : (wr.alloc (.cells #[] 3)).drew.cell? ⟨gm, 1, none⟩ = some (.slice va ms.length vc) := (unhide RD _ kE).1
          have oE : (wr.alloc (.cells #[] 3)).drew.ownsRow 0 3 1 (.slice (some ⟨wr.heap.size, 0, none⟩) 0 0) 0 (iC []) := IRo.empty wr
          have SRC : Hid (∀ W', Kp [] wr W' → ∀ a, some (⟨pb, po, none⟩ : Addr) = some a → ∀ q u, (iC p)[q]? = some u → W'.cell? (a.add q) = some u) := hide (fun W' hk a ha q u hu => by
            injection ha with ha
            subst ha
            unfold iC at hu
            rw [List.getElem?_map] at hu
            cases hq : p[q]? with
            | none => rw [hq] at hu; cases hu
            | some y =>
              rw [hq] at hu
              simp at hu
              subst hu
              obtain ⟨hql, rfl⟩ := List.getElem?_eq_some_iff.1 hq
              rw [Go.WideShapes.add_plain]
              exact ((unhide G).tw.kp.trans hk (by simp)).cell (hpc q hql) (by simp))
          obtain ⟨i0, hi0, hz0, hz1, hz2⟩ := info_parts info_intT
          obtain ⟨i1, hi1, hy0, hy1, hy2⟩ := info_parts info_intsT
          have HPC := hide hpc
          clear hI hpc c3
          go_upto_region 10 with fail
          go_cut [] (fun wc => ∃ (g7 cap7 g5 cap5 : Nat), Hid (GwS W2 wc gm gl k (.slice (some ⟨g7, 0, none⟩) (ms ++ [Value.slice (some ⟨g5, 0, none⟩) p.length cap5]).length cap7) (.slice la ls.length lc) (ms ++ [Value.slice (some ⟨g5, 0, none⟩) p.length cap5]) ls (ss.take j ++ [p]) ((ss.take j).map (laterP B))))
          case first =>
            go_region_law
              (first
                | (refine step_append_lies rfl (.tmp 42) (.tmp 46) 26 rfl 0 34 i1 (.slice none 0 0) 1 24 Try.underlying26 hi1 hy0 hy1 hy2 rfl (by decide) (.slice va ms.length vc) ms.length ms rfl own6 ⟨w5.heap.size, 0, none⟩ 1 1 [.slice (some ⟨g5, 0, none⟩) p.length cap5] rfl rfl (one_new w5 _ _) (by intro u hu; simp at hu; subst hu; rfl) (by omega) (by unfold maxLen; omega) (by omega) (Nat.zero_le _) ?_; intro g7 cap7 w7 hown7 hg7 hat7; obtain ⟨G7, c7, f7⟩ := (unhide G).more k5 hr5 hrb5 hown7 hg7 hat7; have HG7 := hide G7; clear G7 hown7 hg7 hat7)
                | (refine step_app_any rfl (.tmp 43) (.tmp 44) 34 rfl 3 i0 (.int .i64 0) 1 8 Try.underlying34 hi0 hz0 hz1 hz2 rfl (by decide) rfl oE _ _ _ (iC p) rfl (iC_len p) (fun h => by cases h) (fun a ha => by injection ha with ha; subst ha; rfl) (unhide SRC _ kE) (iC_one p) (by unfold maxLen; omega) (by omega) p.length (Nat.zero_add _) ?_; intro g5 cap5 w5 own5 gr5 at5; have k5 : Kp [] wr w5 := kp_gr kE gr5 (Nat.le_refl _); have hg5 : wr.heap.size ≤ g5 := (by rcases at5 with rfl | rfl <;> (try simp) <;> omega); have hr5 : IRo w5 (.slice (some ⟨g5, 0, none⟩) p.length cap5) p := own5; have hrb5 : ∀ b, (Value.slice (some ⟨g5, 0, none⟩) p.length cap5).ownBlock = some b → wr.heap.size ≤ b := (fun b hb => by simp [Value.ownBlock] at hb; subst hb; exact hg5); have c5 := (unhide RD w5 k5).1; obtain ⟨c6, _, own6, _⟩ := unhide RD (w5.alloc (.cells #[.slice (some ⟨g5, 0, none⟩) p.length cap5] 34)) (k5.trans (Kp.alloc _ _) (by simp)); clear own5 gr5 at5))
            all_goals
              go_wp2
              go_meet
              exact ⟨g7, cap7, g5, cap5, HG7⟩
          case rest =>
            obtain ⟨g7, cap7, g5, cap5, HG7⟩ := hcut
            generalize wc = W6 at *
            have HT : Hid (∀ t (ht : t < p.length), laterP B (p.take (t + 1)) = laterP B (p.take t) ++ [p[t] + (B : Int)]) := hide (fun t ht => by unfold laterP; rw [List.take_succ_eq_append_getElem ht, List.map_append]; rfl)
            clear RD SRC oE x0 x1 kE hcell
            go_wp2
            go_loopw [9, 51] (fun x i wr' => ∃ (t : Nat) (xa : Option Addr) (xc : Nat), t ≤ p.length ∧ i = .int .i64 (t : Int) ∧ x = .slice xa t xc ∧ Hid (wr'.ownsRow 0 3 1 (.slice xa t xc) t (iC (laterP B (p.take t)))) ∧ Hid (∀ b, (Value.slice xa t xc).ownBlock = some b → W6.heap.size ≤ b) ∧ Kp [] W6 wr') (fun _ i _ => p.length - (intOf i).toNat)
            case atStart => exact ⟨0, none, 0, Nat.zero_le _, rfl, rfl, hide (IRo.nil _), hide (fun b hb => by cases hb), Kp.refl _ _⟩
            case round =>
              obtain ⟨t, xa, xc, ht, rfl, rfl, RX, RB, kp⟩ := hrel
              by_cases htl : t < p.length
              · have d0 := ((unhide HG7).tw.kp.trans kp (by simp)).cell (unhide HPC t htl) (by simp)
                obtain ⟨y1, y2⟩ := unhide HNP p[t] (List.getElem_mem _)
                have NT := hide (unhide HT t htl)
                have hti : (t : Int) < (p.length : Int) := by omega
                have hrow : wr.ownsRow 0 3 1 (.slice xa t xc) t (iC (laterP B (p.take t))) := unhide RX
                clear HT HNP HPC
                generalize p[t] = y at *
                go_wp2_with (at_builtin; refine wpList_append_lies _ rfl _ _ 34 rfl 0 3 i0 (.int .i64 0) 1 8 Try.underlying34 hi0 hz0 hz1 hz2 rfl (by decide) (.slice xa t xc) t (iC (laterP B (p.take t))) rfl (hrow.alloc _) ⟨wr.heap.size, 0, none⟩ 1 1 [.int .i64 (y + (B : Int))] rfl rfl (one_new wr _ _) (by intro u hu; simp at hu; subst hu; rfl) (by omega) (by unfold maxLen; omega) (by omega) (by simp) _ rfl ?_; intro g3 cap3 w3 hown' hgrow hat3 hlt3; have HAT := hide hat3; clear hat3)
                have hle := kp.size
                have hgb : W6.heap.size ≤ g3 := by
                  rcases unhide HAT with e | e
                  · exact unhide RB g3 e
                  · rw [e]; simp; omega
                have kp3 : Kp [] W6 w3 := (kp.trans (Kp.alloc wr _) (by simp)).trans (Kp.of hgrow) (by
                  intro z hz
                  right
                  exact unhide RB z (by simpa using hz))
                have RX3 : Hid (w3.ownsRow 0 3 1 (.slice (some ⟨g3, 0, none⟩) (t + 1) cap3) (t + 1) (iC (laterP B (p.take (t + 1))))) := hide (by
                  rw [unhide NT]
                  unfold iC at hown' ⊢
                  rw [List.map_append]
                  exact hown')
                have RB3 : Hid (∀ b, (Value.slice (some ⟨g3, 0, none⟩) (t + 1) cap3).ownBlock = some b → W6.heap.size ≤ b) := hide (fun b hb => by simp [Value.ownBlock] at hb; subst hb; exact hgb)
                clear hown' hgrow HAT hrow RX RB kp d0 hlt3
                go_wp2
                go_roundw
                case rel => exact ⟨t + 1, _, cap3, by omega, by go_num, rfl, RX3, RB3, kp3⟩
                case measure => simp [intOf]; omega
              · obtain rfl : t = p.length := by omega
                have hx : IRo wr (.slice xa p.length xc) (laterP B p) := by
                  have := unhide RX
                  rw [List.take_of_length_le (Nat.le_refl _)] at this
                  unfold IRo
                  have e : (laterP B p).length = p.length := by unfold laterP; exact List.length_map ..
                  rw [e]
                  exact this
                obtain ⟨_, c8, _, own8⟩ := (unhide HG7).reads wr kp
                have LT := hide (fun (wz : World) (gz cz : Nat) a1 a2 a3 => (unhide HG7).later (w7 := wz) (g7 := gz) (cap7 := cz) kp hx (unhide RB) a1 a2 a3)
                clear hx RX RB HT HNP HPC
                go_wp2_with (at_builtin; refine wpList_append_lies _ rfl _ _ 26 rfl 0 34 i1 (.slice none 0 0) 1 24 Try.underlying26 hi1 hy0 hy1 hy2 rfl (by decide) (.slice la ls.length lc) ls.length ls rfl (own8.alloc _) ⟨wr.heap.size, 0, none⟩ 1 1 [.slice xa p.length xc] rfl rfl (one_new wr _ _) (by intro u hu; simp at hu; subst hu; rfl) (by omega) (by unfold maxLen; omega) (by omega) (by simp) _ rfl ?_; intro g9 cap9 w9 hown9 hg9 hat9 hlt9; obtain ⟨G9, c9, f9⟩ := unhide LT _ _ _ hown9 hg9 hat9; have HG9 := hide G9; clear G9 hown9 hg9 hat9 hlt9)
                clear own8 LT kp c8
                generalize hW9 : w9.setCell ⟨gl, 1, none⟩ (.slice (some ⟨g9, 0, none⟩) (ls.length + 1) cap9) = W9 at *
                clear hW9
                go_wp2
                go_roundw
                case rel =>
                  refine ⟨j + 1, some ⟨g7, 0, none⟩, some ⟨g9, 0, none⟩, cap7, cap9, ms ++ [.slice (some ⟨g5, 0, none⟩) p.length cap5], ls ++ [.slice xa p.length xc], by omega, by go_num, ?_⟩
                  rw [unhide NX1, List.map_append]
                  exact HG9
                case measure => simp [intOf]; omega
        · obtain rfl : j = ss.length := by omega
          have G0 : GwS W2 wr gm gl k (.slice va ms.length vc) (.slice la ls.length lc) ms ls ss (laterL B ss) := by
            have := unhide G
            rw [List.take_of_length_le (Nat.le_refl _)] at this
            exact this
          obtain ⟨gv, gr, cr, A, SS, p, rfl, rfl, hss, hp0, hAl, RL⟩ := G0.last hs0 (mayM_ne (unhide HM)).2.2
          obtain ⟨y1, y2⟩ : 0 ≤ lastI p ∧ lastI p ≤ 1073741824 := by
            have hb := (mayM_bnd (unhide HM) p (by rw [hss]; simp)).2
            rw [lastI_get hp0]
            exact hb _ (List.getElem_mem _)
          have hpl := (mayM_bnd (unhide HM) p (by rw [hss]; simp)).1
          have GD : Hid (∀ W4, Kp [] wr W4 → ∀ (x : Int) (w7 : World) (g7 cap7 : Nat), w7.ownsRow 0 3 1 (.slice (some ⟨g7, 0, none⟩) (p.length + 1) cap7) (p.length + 1) (iC p ++ [.int .i64 x]) → (W4.alloc (.cells #[.int .i64 x] 3)).drew.grownBy w7 (some gr) → _) := hide (fun W4 hk x w7 g7 cap7 h1 h2 => GwS.grow (by rw [hss] at G0; exact G0.on hk) hAl h1 h2)
          have HFIN : Hid (∀ (W5 : World) (ns : List Value), TwS W2 W5 gm gl k (.slice (some ⟨gv, 0, none⟩) (A ++ [Value.slice (some ⟨gr, 0, none⟩) p.length cr]).length vc) (.slice la ls.length lc) ns ls (SS ++ [p ++ [lastI p + (B : Int)]]) (laterL B (SS ++ [p])) →
              Kp [] W2 W5 ∧ (W5.cell? ⟨gm, 0, none⟩ = some (.string k) ∧ W5.cell? ⟨gm, 1, none⟩ = some (.slice (some ⟨gv, 0, none⟩) (A.length + 1) vc) ∧ W5.cell? ⟨gl, 0, none⟩ = some (.string k) ∧ W5.cell? ⟨gl, 1, none⟩ = some (.slice la ls.length lc)) ∧
              (∃ e : Int, (∀ W', Kp [] W5 W' → Calls Try.prog 10 #[.agg #[.string k, .slice (some ⟨gv, 0, none⟩) (A.length + 1) vc]] W' fun r w' => r = .returned (.int .i64 e) ∧ Kp [] W' w') ∧ (e = 0 → ∀ W', Kp [] W5 W' → Calls Try.prog 12 #[.agg #[.string k, .slice ad ss.length cap], .agg #[.string k, .slice (some ⟨gv, 0, none⟩) (A.length + 1) vc]] W' fun r w' => r = .returned (.tuple #[.int .i64 (-1), .int .i64 0]) ∧ Kp [] W' w')) ∧
              (∃ e : Int, (∀ W', Kp [] W5 W' → Calls Try.prog 10 #[.agg #[.string k, .slice la ls.length lc]] W' fun r w' => r = .returned (.int .i64 e) ∧ Kp [] W' w') ∧ (e = 0 → ∀ W', Kp [] W5 W' → Calls Try.prog 12 #[.agg #[.string k, .slice ad ss.length cap], .agg #[.string k, .slice la ls.length lc]] W' fun r w' => r = .returned (.tuple #[.int .i64 (-1), .int .i64 0]) ∧ Kp [] W' w'))) := hide (fun W5 ns t => by
            have em : SS ++ [p ++ [lastI p + (B : Int)]] = moreL B ss := by rw [hss, moreL_snoc]
            rw [em, ← hss] at t
            have hAn : (A ++ [Value.slice (some ⟨gr, 0, none⟩) p.length cr]).length = A.length + 1 := by simp
            have hns : A.length + 1 = ss.length := by rw [hss]; simp; omega
            have hls : ls.length = (laterL B ss).length := t.sl.inn.1
            have h1 := t.sm
            rw [hAn] at h1
            have hm := unhide HM
            have l1 := lastM_more B ss hs0
            have l2 := lastM_later B ss hs0 (mayM_ne hm).2.2
            exact ⟨t.kp, ⟨h1.box.cell rfl, h1.box.cell rfl, t.sl.box.cell rfl, t.sl.box.cell rfl⟩, h1.later (by rw [moreL_len]; exact hns) (unhide HS2) t.kp (unhide HOK) (mtOk_more (unhide HOK) hm B) hm (by rw [l1]; omega), t.sl.later hls (unhide HS2) t.kp (unhide HOK) (mtOk_later (unhide HOK) hm B) hm (by rw [l2]; omega)⟩)
          obtain ⟨q, hq⟩ : ∃ q, p.length - 1 = q := ⟨_, rfl⟩
          rw [hq] at RL
          have hq1 : (p.length : Int) - 1 = (q : Int) := by omega
          have hq2 : (q : Int) < (p.length : Int) := by omega
          have hq3 : IntKind.i64.wrap (q : Int) = (q : Int) := by rw [IntKind.wrap_i64]; omega
          have hq4 : q < p.length := by omega
          have hA8 : A.length ≤ 8 := by rw [hAl]; have := congrArg List.length hss; simp at this; omega
          have HRL := hide RL
          obtain ⟨r0, r1, r2, _⟩ := RL wr (Kp.refl _ _)
          clear RL hss hAl hq G0 G
          generalize lastI p = L at *
          obtain ⟨i0, hi0, hz0, hz1, hz2⟩ := info_parts info_intT
          have hx1 : ((A.length : Nat) : Int) < ((A.length + 1 : Nat) : Int) := by omega
          go_wp2
          go_quiet (fail)
          have KQ : Kp [] wr (wr.drewN nq) := Kp.drewQ _ _
          clear r0 r1 r2
          generalize wr.drewN nq = W4 at *
          obtain ⟨s0, s1, _, _⟩ := unhide HRL W4 KQ
          have z0 : W4.drew.cell? ⟨gm, 1, none⟩ = some (.slice (some ⟨gv, 0, none⟩) (A.length + 1) vc) := s0
          have z1 : W4.drew.cell? ⟨gv, A.length, none⟩ = some (.slice (some ⟨gr, 0, none⟩) p.length cr) := s1
          have kX : Kp [] W4 (W4.alloc (.cells #[.int .i64 (L + (B : Int))] 3)).drew := (Kp.alloc _ _).trans (Kp.drew _) (by simp)
          obtain ⟨z2, z3, _, oX⟩ := unhide HRL (W4.alloc (.cells #[.int .i64 (L + (B : Int))] 3)).drew (KQ.trans kX (by simp))
          have GX := hide (unhide GD W4 KQ (L + (B : Int)))
          have hLB : IntKind.i64.wrap (L + (B : Int)) = L + (B : Int) := by rw [IntKind.wrap_i64]; omega
          have hx2 : (A.length : Int) < (A.length : Int) + 1 := by omega
          clear s0 s1 HRL GD
          go_upto_region 21 with fail
          go_cut [] (fun wc => ∃ ns : List Value, Hid (TwS W2 wc gm gl k (.slice (some ⟨gv, 0, none⟩) (A ++ [Value.slice (some ⟨gr, 0, none⟩) p.length cr]).length vc) (.slice la ls.length lc) ns ls (SS ++ [p ++ [L + (B : Int)]]) (laterL B (SS ++ [p]))))
          case first =>
            go_region_law
              (first
                | (refine step_app_any rfl (.tmp 94) (.tmp 98) 34 rfl 3 i0 (.int .i64 0) 1 8 Try.underlying34 hi0 hz0 hz1 hz2 rfl (by decide) rfl oX _ _ _ [.int .i64 (L + (B : Int))] rfl rfl (fun h => by cases h) (fun a ha => by injection ha with ha; subst ha; rfl) (fun a ha => by injection ha with ha; subst ha; exact one_new W4 _ _) (by intro u hu; simp at hu; subst hu; rfl) (by unfold maxLen; omega) (by omega) (p.length + 1) rfl ?_; intro g7 cap7 w7 own7 gr7 at7; obtain ⟨v0, v1, v2, TW⟩ := unhide GX w7 g7 cap7 own7 gr7; have HTW := hide TW; clear own7 gr7 at7 TW))
            all_goals
              go_wp2
              go_meet
              exact ⟨_, HTW⟩
          case rest =>
            obtain ⟨ns, HTW⟩ := hcut
            generalize wc = W5 at *
            obtain ⟨K5, c5, ⟨e1, X1, Y1⟩, ⟨e2, X2, Y2⟩⟩ := unhide HFIN _ _ (unhide HTW)
            clear HTW HFIN GX oX z0 z1 z2 z3 kX KQ
            have BX5 := (unhide BX2).kp K5 (by simp)
            have hN := CBox.new W5 #[.string k, .slice (some ⟨gv, 0, none⟩) (A.length + 1) vc, .string k, .slice la ls.length lc] 28
            have kN := Kp.alloc W5 (.cells #[.string k, .slice (some ⟨gv, 0, none⟩) (A.length + 1) vc, .string k, .slice la ls.length lc] 28)
            have HN := hide hN
            have HX1 := hide X1
            have HY1 := hide Y1
            have HX2 := hide X2
            have HY2 := hide Y2
            have HB5 := hide BX5
            have KN := hide kN
            have HK5 := hide ((unhide K2).trans K5 (by simp))
            clear hN X1 Y1 X2 Y2 BX5 kN K5 hs0 hs8 hpl hp0 hq1 hq2 hq3 hq4 y1 y2
            generalize A.length + 1 = n1 at *
            go_wp2
            generalize W5.alloc (.cells #[.string k, .slice (some ⟨gv, 0, none⟩) n1 vc, .string k, .slice la ls.length lc] 28) = W6 at *
            go_loopw [105] (fun i wr' => ∃ t : Nat, t ≤ 2 ∧ i = .int .i64 (t : Int) ∧ Kp [] W6 wr') (fun i _ => 2 - (intOf i).toNat)
            case atStart => exact ⟨0, by omega, rfl, Kp.refl _ _⟩
            case round =>
              obtain ⟨t, ht, rfl, kp⟩ := hrel
              have hN := (unhide HN).kp kp (by simp)
              have bm := (unhide HB5).kp ((unhide KN).trans kp (by simp)) (by simp)
              have kw := (unhide KN).trans kp (by simp)
              have n0 : wr.cell? ⟨W5.heap.size, 0, none⟩ = some (.string k) ∧ wr.cell? ⟨W5.heap.size, 1, none⟩ = some (.slice (some ⟨gv, 0, none⟩) n1 vc) ∧ wr.cell? ⟨W5.heap.size, 2, none⟩ = some (.string k) ∧ wr.cell? ⟨W5.heap.size, 3, none⟩ = some (.slice la ls.length lc) := ⟨hN.cell rfl, hN.cell rfl, hN.cell rfl, hN.cell rfl⟩
              have BM := hide bm
              have KW := hide kw
              have KP := hide kp
              clear hN bm kw kp
              match t, ht with
              | 2, _ =>
                clear n0
                go_wp2
                go_ret
                exact ⟨rfl, ((unhide HK5).trans (unhide KW) (by simp)).below (Nat.le_refl _) (by simp)⟩
              | 0, _ =>
                have kb := Kp.alloc wr (.cells #[.string k, .slice (some ⟨gv, 0, none⟩) n1 vc] 28)
                have bn := CBox.new wr #[.string k, .slice (some ⟨gv, 0, none⟩) n1 vc] 28
                have xb : (wr.alloc (.cells #[.string k, .slice (some ⟨gv, 0, none⟩) n1 vc] 28)).cell? ⟨wr.heap.size, 0, none⟩ = some (.string k) ∧ (wr.alloc (.cells #[.string k, .slice (some ⟨gv, 0, none⟩) n1 vc] 28)).cell? ⟨wr.heap.size, 1, none⟩ = some (.slice (some ⟨gv, 0, none⟩) n1 vc) := ⟨bn.cell rfl, bn.cell rfl⟩
                have KB := hide kb
                have BN := hide bn
                have C := hide (unhide HX1 (wr.alloc (.cells #[.string k, .slice (some ⟨gv, 0, none⟩) n1 vc] 28)) ((unhide KW).trans kb (by simp)))
                clear kb bn
                go_wp2_with fail
                refine (unhide C).mono ?_
                rintro r w8 ⟨rfl, k8⟩
                have K8 := hide ((unhide KB).trans k8 (by simp))
                have b8 := (unhide BN).kp k8 (by simp)
                have m8 := (unhide BM).kp (unhide K8) (by simp)
                have y8 : w8.cell? ⟨wr.heap.size, 0, none⟩ = some (.string k) ∧ w8.cell? ⟨wr.heap.size, 1, none⟩ = some (.slice (some ⟨gv, 0, none⟩) n1 vc) ∧ w8.cell? ⟨w.heap.size, 0, none⟩ = some (.string k) ∧ w8.cell? ⟨w.heap.size, 1, none⟩ = some (.slice ad ss.length cap) := ⟨b8.cell rfl, b8.cell rfl, m8.cell rfl, m8.cell rfl⟩
                clear n0 xb k8 b8 m8 C
                by_cases he : e1 = 0
                · have D := hide (unhide HY1 he w8 ((unhide KW).trans (unhide K8) (by simp)))
                  subst he
                  go_wp2_with fail
                  refine (unhide D).mono ?_
                  rintro r w9 ⟨rfl, k9⟩
                  go_wp2
                  go_roundw
                  case rel => exact ⟨0 + 1, by omega, by go_num, ((unhide KP).trans (unhide K8) (by simp)).trans k9 (by simp)⟩
                  case measure => simp [intOf]
                · have he2 : (e1 != 0) = true := by rw [bne_iff_ne]; exact he
                  go_wp2
                  go_roundw
                  case rel => exact ⟨0 + 1, by omega, by go_num, (unhide KP).trans (unhide K8) (by simp)⟩
                  case measure => simp [intOf]
              | 1, _ =>
                have kb := Kp.alloc wr (.cells #[.string k, .slice la ls.length lc] 28)
                have bn := CBox.new wr #[.string k, .slice la ls.length lc] 28
                have xb : (wr.alloc (.cells #[.string k, .slice la ls.length lc] 28)).cell? ⟨wr.heap.size, 0, none⟩ = some (.string k) ∧ (wr.alloc (.cells #[.string k, .slice la ls.length lc] 28)).cell? ⟨wr.heap.size, 1, none⟩ = some (.slice la ls.length lc) := ⟨bn.cell rfl, bn.cell rfl⟩
                have KB := hide kb
                have BN := hide bn
                have C := hide (unhide HX2 (wr.alloc (.cells #[.string k, .slice la ls.length lc] 28)) ((unhide KW).trans kb (by simp)))
                clear kb bn
                go_wp2_with fail
                refine (unhide C).mono ?_
                rintro r w8 ⟨rfl, k8⟩
                have K8 := hide ((unhide KB).trans k8 (by simp))
                have b8 := (unhide BN).kp k8 (by simp)
                have m8 := (unhide BM).kp (unhide K8) (by simp)
                have y8 : w8.cell? ⟨wr.heap.size, 0, none⟩ = some (.string k) ∧ w8.cell? ⟨wr.heap.size, 1, none⟩ = some (.slice la ls.length lc) ∧ w8.cell? ⟨w.heap.size, 0, none⟩ = some (.string k) ∧ w8.cell? ⟨w.heap.size, 1, none⟩ = some (.slice ad ss.length cap) := ⟨b8.cell rfl, b8.cell rfl, m8.cell rfl, m8.cell rfl⟩
                clear n0 xb k8 b8 m8 C
                by_cases he : e2 = 0
                · have D := hide (unhide HY2 he w8 ((unhide KW).trans (unhide K8) (by simp)))
                  subst he
                  go_wp2_with fail
                  refine (unhide D).mono ?_
                  rintro r w9 ⟨rfl, k9⟩
                  go_wp2
                  go_roundw
                  case rel => exact ⟨1 + 1, by omega, by go_num, ((unhide KP).trans (unhide K8) (by simp)).trans k9 (by simp)⟩
                  case measure => simp [intOf]
                · have he2 : (e2 != 0) = true := by rw [bne_iff_ne]; exact he
                  go_wp2
                  go_roundw
                  case rel => exact ⟨1 + 1, by omega, by go_num, (unhide KP).trans (unhide K8) (by simp)⟩
                  case measure => simp [intOf]
  · have e0 : chkM k ss = 20 := if_neg hm
    rw [e0] at C1
    clear hm e0
    go_wp2_with fail
    refine (unhide C1).mono ?_
    rintro r w2 ⟨rfl, rfl⟩
    go_wp2
    go_ret
    exact ⟨rfl, ((unhide K1).trans (Kp.alloc _ _) (by simp)).below (Nat.le_refl _) (by simp)⟩
end Go.Proofs.Ytnikkjbjidhhlaa
