/-
  GateAligned: its walk.
-/
import Derived.Test.YtcgmoadahdkbbaaGa12
import Derived.Test.YtcgmoadahdkbbaaGa13
import Derived.Test.YtcgmoadahdkbbaaGa14
import Derived.Test.YtcgmoadahdkbbaaGa02
namespace Go.Proofs.Ytcgmoadahdkbbaa
open Go.RowKit Gt Cr

set_option maxHeartbeats 16000000 in
set_option maxRecDepth 100000 in
theorem galigned_walk (x : Int) (ad : Option Addr) (cap : Nat) (l : List M21) (w : World) (_hl : l.length ≤ 9223372036854775807) (hA : M21At w ad l) (_hok : ∀ y ∈ l, y.ok) :
    Calls Try.prog 4 #[.int .i64 x, .slice ad l.length cap] w fun e w' => e = .returned (.bool true) ∧ Below w.heap.size w w' := by
  have HL := hide hA
  have WK := hide (gWorks_any (w.alloc (.cells #[.int .i64 x] 3)))
  have KA := hide (Kp.alloc w (.cells #[.int .i64 x] 3))
  have NB := hide (CBox.new w #[.int .i64 x] 3)
  obtain ⟨q, hq⟩ : ∃ q : Nat, x % 6 = (q : Int) := ⟨(x % 6).toNat, by omega⟩
  have hq6 : q < 6 := by omega
  have A1 := hide (fun W => gAmong_any x 6 W (by decide) (by decide))
  rw [hq] at A1
  have hw1 : IntKind.i64.wrap (1 + (q : Int)) = ((q + 1 : Nat) : Int) := by simp [IntKind.wrap, IntKind.signed, go_sem]; omega
  obtain ⟨n, hn⟩ : ∃ n, n = q + 1 := ⟨_, rfl⟩
  rw [← hn] at hw1
  have hn0 : 0 < n := by omega
  have hn6 : n ≤ 6 := by omega
  clear hq hn hA
  have A3 := hide (fun y W => gAmong_any y 3 W (by decide) (by decide))
  have A2 := hide (fun y W => gAmong_any y (n : Int) W (by omega) (by omega))
  have NG := hide (fun W => newGate_ok n 256 1 W (by omega) (by omega) (by decide) (by decide) (by decide) (by decide))
  have m1 := mk_iss n (by omega)
  have m2 := mk_is n (by omega)
  go_enter Try.func4, Try.ntmps4
  go_upto_region 1 with fail
  generalize hgq : w.heap.size = q2 at *
  have HGQ := hide hgq
  clear hgq
  generalize w.alloc (.cells #[.int .i64 x] 3) = W1 at *
  go_wp2_with fail
  refine (unhide WK).mono ?_
  rintro _ w2 ⟨rfl, k2⟩
  have nb2 := (unhide NB).kp k2 (by simp)
  have K2 := hide ((unhide KA).trans k2 (by simp))
  have x2 := nb2.cell (i := 0) (v := .int .i64 x) rfl
  have z2 := nb2.froz 0
  have NB3 := hide (nb2.set 0 (.int .i64 (n : Int)))
  have KS := hide (Kp.set w2 q2 0 (.int .i64 (n : Int)))
  clear k2 nb2 WK NB KA
  go_wp2_with fail
  refine (unhide A1 _).mono ?_
  rintro _ w3 ⟨rfl, rfl⟩
  clear A1
  go_upto_region 4 with fail
  have K4 : Hid (Kp [] w (w3.setCell ⟨q2, 0, none⟩ (.int .i64 (n : Int)))) := hide ((unhide K2).trans (unhide KS) (fun y hy => Or.inr (by simp at hy; subst hy; rw [unhide HGQ]; exact Nat.le_refl _)))
  have NB4 : Hid (CBox q2 #[.int .i64 (n : Int)] 3 (w3.setCell ⟨q2, 0, none⟩ (.int .i64 (n : Int)))) := NB3
  clear x2 z2 NB3 KS K2 hw1
  generalize w3.setCell ⟨q2, 0, none⟩ (.int .i64 (n : Int)) = w4 at *
  have x2 := (unhide NB4).cell (i := 0) (v := .int .i64 (n : Int)) rfl
  go_wp2_with fail
  refine (unhide NG _).mono ?_
  rintro _ w5 ⟨b, rfl, h5, k5⟩
  have x5 := k5.cell x2 (by simp)
  have HS := hide (ga_start (h5.mono (unhide K4).size) ((unhide K4).trans k5 (by simp)) ((unhide NB4).kp k5 (by simp)) (by rw [unhide HGQ]; exact Nat.le_refl _))
  have KX : Hid (∀ W, Kp [] w5 W → W.cell? ⟨q2, 0, none⟩ = some (.int .i64 (n : Int))) := hide (fun W k => k.cell x5 (by simp))
  clear h5 k5 NG x2 NB4 K4
  generalize w4.heap.size = L at *
  go_upto_region 5 with fail
  obtain ⟨V1, e1⟩ : ∃ V1, V1 = w5.alloc (.cells #[.pointer (some ⟨b, 0, none⟩)] 25) := ⟨_, rfl⟩
  have k1 : Kp [] w5 V1 := by rw [e1]; exact Kp.alloc _ _
  have s1 : V1.heap.size = w5.heap.size + 1 := by rw [e1, World.size_alloc]
  have p1 : V1.cell? ⟨w5.heap.size, 0, none⟩ = some (.pointer (some ⟨b, 0, none⟩)) := by rw [e1]; exact (CBox.new w5 _ _).cell rfl
  rw [← e1]
  have E1 := hide e1
  have K1 := hide k1
  clear x5 e1 k1
  have x5 := unhide KX V1 (unhide K1)
  go_upto_region 8 with fail
  obtain ⟨V3, e3⟩ : ∃ V3, V3 = (V1.alloc (.cells (Array.replicate n (Value.slice none 0 0)) 42)).alloc (.cells #[.slice (some ⟨w5.heap.size + 1, 0, none⟩) n n] 41) := ⟨_, rfl⟩
  have k3 : Kp [] w5 V3 := by rw [e3]; exact ((unhide K1).trans (Kp.alloc _ _) (by simp)).trans (Kp.alloc _ _) (by simp)
  have s3 : V3.heap.size = w5.heap.size + 3 := by rw [e3, World.size_alloc, World.size_alloc, s1]
  rw [← e3]
  have E3 := hide e3
  have K3 := hide k3
  have S1 := hide s1
  clear x5 p1 e3 k3 K1 s1
  have x5 := unhide KX V3 (unhide K3)
  go_upto_region 9 with fail
  obtain ⟨V5, e5⟩ : ∃ V5, V5 = (V3.alloc (.cells (Array.replicate n (Value.int .i64 0)) 3)).alloc (.cells #[.slice (some ⟨w5.heap.size + 3, 0, none⟩) n n] 42) := ⟨_, rfl⟩
  have k5 : Kp [] w5 V5 := by rw [e5]; exact ((unhide K3).trans (Kp.alloc _ _) (by simp)).trans (Kp.alloc _ _) (by simp)
  have s5 : V5.heap.size = w5.heap.size + 5 := by rw [e5, World.size_alloc, World.size_alloc, s3]
  rw [← e5]
  have E5 := hide e5
  have K5 := hide k5
  clear x5 e5 k5 K3 s3
  have x5 := unhide KX V5 (unhide K5)
  go_upto_region 12 with fail
  obtain ⟨V7, e7⟩ : ∃ V7, V7 = (V5.alloc (.cells (Array.replicate n (Value.int .i64 0)) 3)).alloc (.cells #[.int .i64 0] 3) := ⟨_, rfl⟩
  rw [← e7]
  have HS1 : Hid (Md w V7 (gaK w5 q2) b L n (gt0 n 256 1) (fun _ => []) (fun _ => 0) (fun _ => 0) 0 (fun _ => .slice none 0 0) (w5.heap.size + 7) ∧ V7.heap.size = w5.heap.size + 7) := hide (by
    have e : gaW w5 b n = V7 := by rw [e7, unhide E5, unhide E3, unhide E1]; rfl
    rw [← e]
    exact unhide HS)
  clear x5 e7 E5 E3 E1 K5 s5 HS KX S1
  obtain ⟨K, hK⟩ : ∃ K, K = gaK w5 q2 := ⟨_, rfl⟩
  have a7 : w5.heap.size + 1 + 1 = K.q7 := by rw [hK]; rfl
  have a8 : w5.heap.size + 3 + 1 = K.q8 := by rw [hK]; rfl
  have a11 : w5.heap.size + 5 + 1 = K.q11 := by rw [hK]; rfl
  have ab : w5.heap.size + 5 = K.gb := by rw [hK]; rfl
  have a5 : w5.heap.size = K.q5 := by rw [hK]; rfl
  have a2 : q2 = K.q2 := by rw [hK]; rfl
  rw [← hK] at HS1
  have HG0 : Hid (∃ Bq, Bq = K.q11 + 1 ∧ Gs w V7 K b L n Bq 0 0) := hide ⟨w5.heap.size + 7, by rw [← a11], gt0 n 256 1, _, _, _, _, _, (unhide HS1).1, al_zero n hn0, by
    rw [tot_zero]; exact Nat.le_refl _, fun c _ => ⟨Nat.le_refl _, rfl, fun m hm => (by cases hm)⟩, by rw [(unhide HS1).2]; exact Nat.le_refl _⟩
  rw [a7, a8, a11, ab, a5]
  clear HS1 a7 a8 a11 ab a5 hK HGQ m1 m2
  obtain ⟨Bq, hBq, hG0⟩ := unhide HG0
  have HG := hide hG0
  clear hG0 HG0
  subst a2
  go_wp2
  go_loopw [10, 13] (fun nv iv wr => ∃ i nx : Nat, i ≤ l.length ∧ i ≤ 300 ∧ nx ≤ i ∧ iv = .int .i64 (i : Int) ∧ nv = .int .i64 (nx : Int) ∧ Hid (Gs w wr K b L n Bq i nx)) (fun _ iv _ => l.length - (intOf iv).toNat)
  case atStart => exact ⟨0, 0, Nat.zero_le _, by decide, Nat.le_refl _, rfl, rfl, HG⟩
  case round =>
    obtain ⟨i, nx, hil, hi3, hnx, rfl, rfl, HR⟩ := hrel
    clear HG
    by_cases hcnd : i < l.length ∧ i < 300
    · obtain ⟨h1, h2⟩ := hcnd
      have h1i : (i : Int) < (l.length : Int) := by omega
      have h2i : (i : Int) < 300 := by omega
      obtain ⟨G, I, O, Z, told, vs, hM, hAl, htt, hI, hB⟩ := unhide HR
      obtain ⟨lb, lo, rfl, hbl, x0, x1⟩ := ((unhide HL).kp hM.kp).at i h1
      generalize l[i] = y at *
      have e2 := hM.c2
      obtain ⟨c, hcc⟩ : ∃ c : Nat, y.c % (n : Int) = (c : Int) := ⟨(y.c % (n : Int)).toNat, by have := Int.emod_nonneg y.c (show (n : Int) ≠ 0 by omega); omega⟩
      have hcn : c < n := by have := Int.emod_lt_of_pos y.c (show (0 : Int) < n by omega); omega
      have AC := hide (fun W => gAmong_any y.c (n : Int) W (by omega) (by omega))
      rw [hcc] at AC
      have AQ := hide (fun m => (unhide AC (wr.drewN m)).mono fun (_ : Ending) w' (hq : _ ∧ w' = wr.drewN m) => (show _ ∧ ∃ m', w' = (wr.drewN m).drewN m' from ⟨hq.1, 0, hq.2⟩))
      obtain ⟨kd, hkd⟩ : ∃ kd : Nat, y.k % 3 = (kd : Int) := ⟨(y.k % 3).toNat, by omega⟩
      have hk3 : kd < 3 := by omega
      have AK := hide (fun W => unhide A3 y.k W)
      rw [hkd] at AK
      have HX : Hid (∀ W', Kp [] wr W' → W'.cell? ⟨lb, lo + i * 2, none⟩ = some (.int .i64 y.k)) := hide (fun W' k => k.cell x0 (by simp))
      clear hcc hkd A3 A2 AC HL hbl
      have HM := hide hM
      clear hM HR
      go_wp2
      go_quiet (first | (go_at_call 13; exact Calls.quiet_of (unhide AQ _)))
      go_upto_region 16 with fail
      generalize hW : wr.drewN _ = W2
      have kq : Kp [] wr W2 := hW ▸ Kp.drewQ _ _
      have hsz2 := kq.size
      have HM2 := hide ((unhide HM).quiet kq)
      have y0 := unhide HX W2 kq
      have hB2 : Bq ≤ W2.heap.size := by omega
      clear hW kq HM x0 x1 e2 HX AQ hsz2 hB
      go_wp2_with fail
      refine (unhide AK _).mono ?_
      rintro _ w6 ⟨rfl, rfl⟩
      clear AK y0
      have p5 := (unhide HM2).c5
      rcases (by omega : kd = 0 ∨ kd = 1 ∨ kd = 2) with rfl | rfl | rfl
      · have hd := al_give hAl hcn
        have GV := hide (gGive_any w.heap.size b L G (c : Int) 1 w6 (unhide HM2).gt)
        rw [hd.1] at GV
        rcases hd.2 with ⟨d1, d2⟩ | ⟨d1, d2, d3⟩
        · rw [d1, d2] at GV
          have HN := hide (fun W' a (k : Ko gtO w.heap.size w6 W') => (show Gs w W' K b L n Bq (i + 1) nx from gs_up ⟨G, I, O, Z, told, vs, (unhide HM2).gate a k, hAl, htt, hI, by have := k.size; omega⟩ (by omega) (Nat.le_refl _)))
          go_wp2_with fail
          refine (unhide GV).mono ?_
          rintro _ w7 ⟨rfl, h7, h8⟩
          have HN2 := hide (unhide HN _ h7 h8)
          clear h7 h8 HN GV HM2 p5
          go_wp2
          go_roundw
          case rel => exact ⟨i + 1, nx, by omega, by omega, by omega, by go_num, rfl, HN2⟩
          case measure => simp [intOf]; omega
        · rw [d1, d3] at GV
          have HM3 : Hid (∀ W' : World, GtAt w.heap.size W' b L (G.upd c ⟨256, 1, (G.ch c).q, zs (I c) + 1⟩) → Ko gtO w.heap.size w6 W' → Md w W' K b L n (G.upd c ⟨256, 1, (G.ch c).q, zs (I c) + 1⟩) I O Z told vs Bq ∧ Bq ≤ W'.heap.size) := hide (fun W' a k => ⟨(unhide HM2).gate a k, by have := k.size; omega⟩)
          obtain ⟨t1, t2⟩ := al_text hAl (c := c) (m := nx + 1) hcn (by omega)
          have TX := hide (fun W' (a : GtAt w.heap.size W' b L (G.upd c ⟨256, 1, (G.ch c).q, zs (I c) + 1⟩)) => gText_any w.heap.size b L _ (c : Int) (txN (nx + 1)) W' a (by show 2 ≤ _; decide))
          rw [t1] at TX
          have HPL := hide (gs_put (O := O) (Z' := Z) (m := nx + 1) (nx' := nx + 1) hI htt hcn (hAl.o c hcn) (Nat.le_refl _) (by omega) (zs_up (fun d hd => (hI d hd).2.1) (by omega)))
          have HAL2 := hide t2
          clear hAl hI htt t1 t2 d1 d2 d3 hd
          generalize ((G.upd c ⟨256, 1, (G.ch c).q, zs (I c) + 1⟩).txS (c : Int) (txN (nx + 1))) = G3 at *
          generalize (G.upd c ⟨256, 1, (G.ch c).q, zs (I c) + 1⟩) = G2 at *
          go_wp2_with fail
          refine (unhide GV).mono ?_
          rintro _ w7 ⟨rfl, h7, h8⟩
          obtain ⟨m7, b7⟩ := unhide HM3 _ h7 h8
          have M7 := hide m7
          clear h7 h8 HM3 GV HM2 p5
          have p5 := m7.c5
          clear m7
          have hwn : IntKind.i64.wrap ((nx : Int) + 1) = ((nx + 1 : Nat) : Int) := by simp [IntKind.wrap, IntKind.signed, go_sem]; omega
          have hu1 : IntKind.u8.wrap (((nx + 1 : Nat) : Int)) = (((nx + 1) % 256 : Nat) : Int) := by simp [IntKind.wrap, IntKind.signed, go_sem]
          have hu2 : IntKind.u8.wrap ((((nx + 1 : Nat) : Int)) / 256) = (((nx + 1) / 256 % 256 : Nat) : Int) := by simp [IntKind.wrap, IntKind.signed, go_sem]
          have CV := tx_string (nx + 1) w7
          have M8 := hide ((unhide M7).quiet (Kp.alloc w7 (.cells #[.int .u8 (((nx + 1) % 256 : Nat) : Int), .int .u8 (((nx + 1) / 256 % 256 : Nat) : Int)] 5)))
          have b8 : Bq ≤ (w7.alloc (.cells #[.int .u8 (((nx + 1) % 256 : Nat) : Int), .int .u8 (((nx + 1) / 256 % 256 : Nat) : Int)] 5)).heap.size := by rw [World.size_alloc]; omega
          generalize txN (nx + 1) = tx at *
          generalize (nx + 1) / 256 % 256 = u2 at *
          generalize (nx + 1) % 256 = u1 at *
          have hn1x : nx + 1 ≤ i + 1 := by omega
          generalize hnn : nx + 1 = nn at *
          have HNN := hide hnn
          clear hnn
          have TX2 := hide (unhide TX _ (unhide M8).gt)
          clear TX
          go_wp2_with fail
          refine (unhide TX2).mono ?_
          rintro _ w9 ⟨rfl, h7, h8⟩
          have M9 := hide ((unhide M8).gate h7 h8)
          have b9 : Bq ≤ w9.heap.size := by have := h8.size; omega
          clear h7 h8 TX2 M8 M7 b8 b7 CV hu1 hu2 hwn p5
          have HC0 := (unhide M9).c7
          obtain ⟨ad', cap', hvs⟩ := ((unhide M9).ir c hcn).slice
          have HS2 : Hid (∀ W', Kp [] w9 W' → W'.cell? ⟨K.q7, 0, none⟩ = some (.slice (some ⟨K.gi, 0, none⟩) n n) ∧ W'.cell? ⟨K.gi, c, none⟩ = some (.slice ad' (I c).length cap')) := hide (fun W' kq => ⟨((unhide M9).quiet kq).c7, by rw [← hvs]; exact ((unhide M9).quiet kq).ci hcn⟩)
          have HOW : Hid (∀ W', Kp [] w9 W' → W'.ownsRow Bq 3 1 (.slice ad' (I c).length cap') (I c).length (inC (I c))) := hide (fun W' kq => by
            have := ((unhide M9).quiet kq).ir c hcn
            rw [hvs] at this
            exact this)
          have HFI := hide (fun (V3 w8 : World) g9 cap9 (k3 : Kp [] w9 V3) a1 a2 a3 => gs_push (V3 := V3) (w9 := w8) (g9 := g9) (cap9 := cap9) (unhide M9) (unhide HAL2) b9 (unhide HPL) hcn k3 a1 a2 a3)
          rw [hvs] at HFI
          have hil2 : (I c).length ≤ 300 := by
            have h1 := (unhide HPL).2 c hcn
            have h2 := h1.1
            unfold upI at h2
            rw [if_pos rfl, List.length_append] at h2
            omega
          obtain ⟨i0, hi0, hz0, hz1, hz2⟩ := info_parts info_it8
          clear HC0 hvs M9 HAL2 HPL
          generalize inC (I c) = xs at *
          generalize (I c).length = il at *
          go_upto_region 25 with fail
          obtain ⟨V, hV⟩ : ∃ V, V = w9.drew := ⟨_, rfl⟩
          have KV : Hid (Kp [] w9 V) := hide (by rw [hV]; exact Kp.drew _)
          have bV : Bq ≤ V.heap.size := by have := (unhide KV).size; omega
          have a0 := unhide HS2 V (unhide KV)
          refine wp_region_late (fun W => W.cell? ⟨K.q7, 0, none⟩ = some (.slice (some ⟨K.gi, 0, none⟩) n n) ∧ W.cell? ⟨K.gi, c, none⟩ = some (.slice ad' il cap')) 10 (by kernel_rfl) ?_
          rw [← hV]
          clear hV
          show wpAnyL _ _ _ _ _ _ 11 (Array.replicate 11 false) _ _
          refine wpAnyL_take3 (i := 0) (oi := { dst := some 93, op := Op.load 41 (Operand.tmp 7), type := 41, pos := "theorems.go:88", after := #[], guard := none }) (v := ?_) rfl (by kernel_rfl) (by kernel_rfl) (by kernel_rfl) (by kernel_rfl) (fun _ _ _ h => h) (Or.inl ⟨by rfl, ?_⟩) a0 ?_
          rotate_left 1
          · intro w0 hSw
            (try dsimp only at hSw)
            go_simp
            (try with_reducible rfl)
          try simp only [Act.put, List.setIfInBounds_toArray, List.set_cons_zero, List.set_cons_succ]
          refine wpAnyL_take3 (i := 1) (oi := { dst := some 94, op := Op.move (Operand.tmp 14), type := 3, pos := "theorems.go:88", after := #[], guard := none }) (v := ?_) rfl (by kernel_rfl) (by kernel_rfl) (by kernel_rfl) (by kernel_rfl) (fun _ _ _ h => h) (Or.inl ⟨by rfl, ?_⟩) a0 ?_
          rotate_left 1
          · intro w0 hSw
            (try dsimp only at hSw)
            go_simp
            (try with_reducible rfl)
          try simp only [Act.put, List.setIfInBounds_toArray, List.set_cons_zero, List.set_cons_succ]
          refine wpAnyL_take3 (i := 2) (oi := { dst := some 95, op := Op.load 41 (Operand.tmp 7), type := 41, pos := "theorems.go:88", after := #[], guard := none }) (v := ?_) rfl (by kernel_rfl) (by kernel_rfl) (by kernel_rfl) (by kernel_rfl) (fun _ _ _ h => h) (Or.inl ⟨by rfl, ?_⟩) a0 ?_
          rotate_left 1
          · intro w0 hSw
            (try dsimp only at hSw)
            go_simp
            (try with_reducible rfl)
          try simp only [Act.put, List.setIfInBounds_toArray, List.set_cons_zero, List.set_cons_succ]
          refine wpAnyL_take3 (i := 3) (oi := { dst := some 96, op := Op.move (Operand.tmp 14), type := 3, pos := "theorems.go:88", after := #[], guard := none }) (v := ?_) rfl (by kernel_rfl) (by kernel_rfl) (by kernel_rfl) (by kernel_rfl) (fun _ _ _ h => h) (Or.inl ⟨by rfl, ?_⟩) a0 ?_
          rotate_left 1
          · intro w0 hSw
            (try dsimp only at hSw)
            go_simp
            (try with_reducible rfl)
          try simp only [Act.put, List.setIfInBounds_toArray, List.set_cons_zero, List.set_cons_succ]
          refine wpAnyL_take3 (i := 4) (oi := { dst := some 97, op := Op.indexAddr 41 (Operand.tmp 95) (Operand.tmp 96), type := 0, pos := "theorems.go:88", after := #[{ on := 2, ground := Ground.data }, { on := 3, ground := Ground.data }], guard := none }) (v := ?_) rfl (by kernel_rfl) (by kernel_rfl) (by kernel_rfl) (by kernel_rfl) (fun _ _ _ h => h) (Or.inl ⟨by rfl, ?_⟩) a0 ?_
          rotate_left 1
          · intro w0 hSw
            (try dsimp only at hSw)
            go_simp
            (try with_reducible rfl)
          try simp only [Act.put, List.setIfInBounds_toArray, List.set_cons_zero, List.set_cons_succ]
          refine wpAnyL_take3 (i := 5) (oi := { dst := some 98, op := Op.load 42 (Operand.tmp 97), type := 42, pos := "theorems.go:88", after := #[{ on := 4, ground := Ground.data }], guard := none }) (v := ?_) rfl (by kernel_rfl) (by kernel_rfl) (by kernel_rfl) (by kernel_rfl) (fun _ _ _ h => h) (Or.inl ⟨by rfl, ?_⟩) a0 ?_
          rotate_left 1
          · intro w0 hSw
            (try dsimp only at hSw)
            go_simp
            (try with_reducible rfl)
          try simp only [Act.put, List.setIfInBounds_toArray, List.set_cons_zero, List.set_cons_succ]
          refine wpAnyL_take3 (i := 6) (oi := { dst := some 99, op := Op.move (Operand.tmp 10), type := 3, pos := "theorems.go:88", after := #[], guard := none }) (v := ?_) rfl (by kernel_rfl) (by kernel_rfl) (by kernel_rfl) (by kernel_rfl) (fun _ _ _ h => h) (Or.inl ⟨by rfl, ?_⟩) a0 ?_
          rotate_left 1
          · intro w0 hSw
            (try dsimp only at hSw)
            go_simp
            (try with_reducible rfl)
          try simp only [Act.put, List.setIfInBounds_toArray, List.set_cons_zero, List.set_cons_succ]
          refine wpAnyL_one (i := 7) (o := { dst := some 100, op := Op.buildSlice 42 1 #[(0, Operand.tmp 99)], type := 42, pos := "theorems.go:88", after := #[{ on := 6, ground := Ground.data }], guard := none }) rfl (by kernel_rfl) (fun K' hK => ?_)
          go_simp
          have KV3 : Hid (Kp [] w9 (V.alloc (.cells #[.int .i64 (nn : Int)] 3))) := hide ((unhide KV).trans (Kp.alloc _ _) (by simp))
          have NB3 := hide (CBox.new V #[.int .i64 (nn : Int)] 3)
          have a1 := unhide HS2 _ (unhide KV3)
          have b3 : Bq ≤ (V.alloc (.cells #[.int .i64 (nn : Int)] 3)).heap.size := by rw [World.size_alloc]; omega
          refine hK _ _ (Or.inr a1) ?_
          clear hK K'
          try simp only [Act.put, List.setIfInBounds_toArray, List.set_cons_zero, List.set_cons_succ]
          generalize V.alloc (.cells #[.int .i64 (nn : Int)] 3) = V3 at *
          generalize V.heap.size = g3 at *
          refine wpAnyL_one (i := 8) (o := { dst := some 101, op := Op.call { callee := Callee.builtin Builtin.append, args := #[Operand.tmp 98, Operand.tmp 100], argTypes := #[42, 42] }, type := 42, pos := "theorems.go:88", after := #[{ on := 5, ground := Ground.data }, { on := 7, ground := Ground.data }], guard := none }) rfl (by kernel_rfl) (fun K' hK => ?_)
          refine step_append_lies rfl (.tmp 98) (.tmp 100) 42 rfl Bq 3 i0 _ 1 8 Try.underlying42 hi0 hz0 hz1 hz2 rfl (by decide) _ il xs rfl (unhide HOW _ (unhide KV3)) ⟨g3, 0, none⟩ 1 1 [.int .i64 (nn : Int)] rfl rfl (fun j u hj => by
            rw [Go.WideShapes.add_plain, Nat.zero_add]
            exact (unhide NB3).cell (by simpa using hj)) (fun u hu => by simp at hu; subst hu; rfl) (by decide) (by unfold maxLen; omega) (by omega) b3 ?_
          intro g9 cap9 w8 own9 gr9 at9
          obtain ⟨f1, f2, f3, f4⟩ := unhide HFI V3 w8 g9 cap9 (unhide KV3) own9 gr9 at9
          have FN := hide f4
          refine hK _ _ (Or.inr ⟨f2, f1⟩) ?_
          clear hK K'
          try simp only [Act.put, List.setIfInBounds_toArray, List.set_cons_zero, List.set_cons_succ]
          refine wpAnyL_one (i := 9) (o := { dst := some 102, op := Op.indexAddr 41 (Operand.tmp 93) (Operand.tmp 94), type := 0, pos := "theorems.go:88", after := #[{ on := 0, ground := Ground.data }, { on := 1, ground := Ground.data }, { on := 0, ground := Ground.phase }, { on := 1, ground := Ground.phase }, { on := 2, ground := Ground.phase }, { on := 3, ground := Ground.phase }, { on := 4, ground := Ground.phase }, { on := 5, ground := Ground.phase }, { on := 6, ground := Ground.phase }, { on := 7, ground := Ground.phase }, { on := 8, ground := Ground.phase }], guard := none }) rfl (by kernel_rfl) (fun K' hK => ?_)
          go_simp
          refine hK _ _ (Or.inr ⟨f2, f1⟩) ?_
          clear hK K'
          try simp only [Act.put, List.setIfInBounds_toArray, List.set_cons_zero, List.set_cons_succ]
          refine wpAnyL_one (i := 10) (o := { dst := none, op := Op.store 42 (Operand.tmp 102) (Operand.tmp 101), type := 0, pos := "theorems.go:88", after := #[{ on := 9, ground := Ground.data }, { on := 8, ground := Ground.data }, { on := 8, ground := Ground.chain }, { on := 0, ground := Ground.phase }, { on := 1, ground := Ground.phase }, { on := 2, ground := Ground.phase }, { on := 3, ground := Ground.phase }, { on := 4, ground := Ground.phase }, { on := 5, ground := Ground.phase }, { on := 6, ground := Ground.phase }, { on := 7, ground := Ground.phase }, { on := 8, ground := Ground.phase }], guard := none }) rfl (by kernel_rfl) (fun K' hK => ?_)
          go_simp
          refine hK _ _ (Or.inl rfl) ?_
          clear hK K'
          try simp only [Act.put, List.setIfInBounds_toArray, List.set_cons_zero, List.set_cons_succ]
          refine wpAnyL_done (by kernel_rfl) ?_ _
          go_wp2
          go_roundw
          case rel => exact ⟨i + 1, nn, by omega, by omega, by omega, by go_num, rfl, FN⟩
          case measure => simp [intOf]; omega
      · have hd := al_give hAl hcn
        have GV := hide (gGive_any w.heap.size b L G (c : Int) 1 w6 (unhide HM2).gt)
        rw [hd.1] at GV
        rcases hd.2 with ⟨d1, d2⟩ | ⟨d1, d2, d3⟩
        · rw [d1, d2] at GV
          have HN := hide (fun W' a (k : Ko gtO w.heap.size w6 W') => (show Gs w W' K b L n Bq (i + 1) nx from gs_up ⟨G, I, O, Z, told, vs, (unhide HM2).gate a k, hAl, htt, hI, by have := k.size; omega⟩ (by omega) (Nat.le_refl _)))
          go_wp2_with fail
          refine (unhide GV).mono ?_
          rintro _ w7 ⟨rfl, h7, h8⟩
          have HN2 := hide (unhide HN _ h7 h8)
          clear h7 h8 HN GV HM2 p5
          go_wp2
          go_roundw
          case rel => exact ⟨i + 1, nx, by omega, by omega, by omega, by go_num, rfl, HN2⟩
          case measure => simp [intOf]; omega
        · rw [d1, d3] at GV
          have HM3 : Hid (∀ W' : World, GtAt w.heap.size W' b L (G.upd c ⟨256, 1, (G.ch c).q, zs (I c) + 1⟩) → Ko gtO w.heap.size w6 W' → Md w W' K b L n (G.upd c ⟨256, 1, (G.ch c).q, zs (I c) + 1⟩) I O Z told vs Bq ∧ Bq ≤ W'.heap.size) := hide (fun W' a k => ⟨(unhide HM2).gate a k, by have := k.size; omega⟩)
          obtain ⟨t1, t2⟩ := al_bar hAl (c := c) hcn
          have hzc : Z c = zs (I c) := (hI c hcn).2.1
          have hzl : zs (I c) ≤ 300 := by have h1 := (hI c hcn).1; have h2 : zs (I c) ≤ (I c).length := List.countP_le_length; omega
          have TX := hide (fun W' (a : GtAt w.heap.size W' b L (G.upd c ⟨256, 1, (G.ch c).q, zs (I c) + 1⟩)) => gBarrier_any w.heap.size b L _ (c : Int) (((zs (I c) + 1 : Nat)) : Int) W' a (fun k hk => by
            by_cases e : k = c
            · subst e; rw [Gt.upd_same]; show zs (I k) + 1 ≤ _; omega
            · rw [Gt.upd_ne G _ e]
              have hk' : k < n := by rw [← hAl.nn]; exact hk
              have h1 := (hI k hk').1
              have h2 : zs (I k) ≤ (I k).length := List.countP_le_length
              rw [(hAl.cap k hk').2.2]
              omega))
          rw [t1] at TX
          have HPL := hide (gs_put (O := O) (Z' := upO Z c) (m := 0) (nx' := nx) hI htt hcn (hAl.o c hcn) (Nat.zero_le _) (Nat.le_refl _) (zs_up0 (fun d hd => (hI d hd).2.1)))
          have HAL2 := hide t2
          clear hAl hI htt t1 t2 d1 d2 d3 hd
          generalize ((G.upd c ⟨256, 1, (G.ch c).q, zs (I c) + 1⟩).baS (c : Int) (((zs (I c) + 1 : Nat)) : Int)) = G3 at *
          generalize (G.upd c ⟨256, 1, (G.ch c).q, zs (I c) + 1⟩) = G2 at *
          rw [← hzc] at TX hzl
          clear hzc
          go_wp2_with fail
          refine (unhide GV).mono ?_
          rintro _ w7 ⟨rfl, h7, h8⟩
          obtain ⟨m7, b7⟩ := unhide HM3 _ h7 h8
          have M7 := hide m7
          clear h7 h8 HM3 GV HM2 p5
          have cb7 := m7.cb hcn
          have fb7 := m7.bb.froz c
          have M8 := hide (m7.bar' (Z' := upO Z c) (c := c) (fun j _ hj => if_neg hj) (if_pos rfl))
          have b8 : Bq ≤ (w7.setCell ⟨K.gb, c, none⟩ (.int .i64 ((Z c : Int) + 1))).heap.size := by have := (Kp.set w7 K.gb c (.int .i64 ((Z c : Int) + 1))).size; omega
          clear m7
          have hwz : IntKind.i64.wrap ((Z c : Int) + 1) = (Z c : Int) + 1 := by simp [IntKind.wrap, IntKind.signed, go_sem]; omega
          have hZ1 : upO Z c c = Z c + 1 := if_pos rfl
          go_upto_region 30 with fail
          generalize w7.setCell ⟨K.gb, c, none⟩ (.int .i64 ((Z c : Int) + 1)) = w8 at *
          clear cb7 fb7 M7 b7 hwz
          have HC8 : Hid (∀ W', Kp [] w8 W' → W'.cell? ⟨K.q5, 0, none⟩ = some (.pointer (some ⟨b, 0, none⟩)) ∧ W'.cell? ⟨K.gb, c, none⟩ = some (.int .i64 ((Z c : Int) + 1))) := hide (fun W' kq => ⟨((unhide M8).quiet kq).c5, by
            have := ((unhide M8).quiet kq).cb hcn
            rw [hZ1] at this
            exact this⟩)
          have y0 := unhide HC8 _ (Kp.drew w8)
          have yy := unhide HC8 _ (Kp.refl _ w8)
          have M8d := hide ((unhide M8).quiet (Kp.drew w8))
          have TX2 : Hid (∀ W', GtAt w.heap.size W' b L G2 → Calls Try.prog 18 #[.pointer (some ⟨b, 0, none⟩), .int .i64 (c : Int), .int .i64 ((Z c : Int) + 1)] W' fun e w' => e = .returned (.int .i64 0) ∧ GtAt w.heap.size w' b L G3 ∧ Ko gtO w.heap.size W' w') := TX
          clear TX HC8 M8
          go_region_held3 (fun W => W.cell? ⟨K.q5, 0, none⟩ = some (.pointer (some ⟨b, 0, none⟩)) ∧ W.cell? ⟨K.gb, c, none⟩ = some (.int .i64 ((Z c : Int) + 1))) (first | with_reducible exact y0 | with_reducible exact y1 | exact yy)
            (first
              | (go_at_call 18; refine (unhide TX2 _ (unhide M8d).gt).mono ?_; rintro _ w9 ⟨rfl, h7, h8⟩; have M9 := hide ((unhide M8d).gate h7 h8); have b9 : Bq ≤ w9.heap.size := by { have h9 := h8.size; have h10 := (Kp.drew w8).size; omega }; have y1 : w9.cell? ⟨K.q5, 0, none⟩ = some (.pointer (some ⟨b, 0, none⟩)) ∧ w9.cell? ⟨K.gb, c, none⟩ = some (.int .i64 ((Z c : Int) + 1)) := ⟨(unhide M9).c5, (show _ from by { have h11 := (unhide M9).cb hcn; rw [hZ1] at h11; exact h11 })⟩; clear h7 h8))
          clear y0 yy TX2 M8d b8 hZ1
          have HC0 := (unhide M9).c7
          obtain ⟨ad', cap', hvs⟩ := ((unhide M9).ir c hcn).slice
          have HS2 : Hid (∀ W', Kp [] w9 W' → W'.cell? ⟨K.q7, 0, none⟩ = some (.slice (some ⟨K.gi, 0, none⟩) n n) ∧ W'.cell? ⟨K.gi, c, none⟩ = some (.slice ad' (I c).length cap')) := hide (fun W' kq => ⟨((unhide M9).quiet kq).c7, by rw [← hvs]; exact ((unhide M9).quiet kq).ci hcn⟩)
          have HOW : Hid (∀ W', Kp [] w9 W' → W'.ownsRow Bq 3 1 (.slice ad' (I c).length cap') (I c).length (inC (I c))) := hide (fun W' kq => by
            have := ((unhide M9).quiet kq).ir c hcn
            rw [hvs] at this
            exact this)
          have HFI := hide (fun (V3 w8 : World) g9 cap9 (k3 : Kp [] w9 V3) a1 a2 a3 => gs_push (V3 := V3) (w9 := w8) (g9 := g9) (cap9 := cap9) (unhide M9) (unhide HAL2) b9 (unhide HPL) hcn k3 a1 a2 a3)
          rw [hvs] at HFI
          have hil2 : (I c).length ≤ 300 := by
            have h1 := (unhide HPL).2 c hcn
            have h2 := h1.1
            unfold upI at h2
            rw [if_pos rfl, List.length_append] at h2
            omega
          obtain ⟨i0, hi0, hz0, hz1, hz2⟩ := info_parts info_it8
          clear HC0 hvs M9 HAL2 HPL
          generalize inC (I c) = xs at *
          generalize (I c).length = il at *
          go_upto_region 32 with fail
          obtain ⟨V, hV⟩ : ∃ V, V = w9.drew := ⟨_, rfl⟩
          have KV : Hid (Kp [] w9 V) := hide (by rw [hV]; exact Kp.drew _)
          have bV : Bq ≤ V.heap.size := by have := (unhide KV).size; omega
          have a0 := unhide HS2 V (unhide KV)
          refine wp_region_late (fun W => W.cell? ⟨K.q7, 0, none⟩ = some (.slice (some ⟨K.gi, 0, none⟩) n n) ∧ W.cell? ⟨K.gi, c, none⟩ = some (.slice ad' il cap')) 9 (by kernel_rfl) ?_
          rw [← hV]
          clear hV
          show wpAnyL _ _ _ _ _ _ 10 (Array.replicate 10 false) _ _
          refine wpAnyL_take3 (i := 0) (oi := { dst := some 127, op := Op.load 41 (Operand.tmp 7), type := 41, pos := "theorems.go:96", after := #[], guard := none }) (v := ?_) rfl (by kernel_rfl) (by kernel_rfl) (by kernel_rfl) (by kernel_rfl) (fun _ _ _ h => h) (Or.inl ⟨by rfl, ?_⟩) a0 ?_
          rotate_left 1
          · intro w0 hSw
            (try dsimp only at hSw)
            go_simp
            (try with_reducible rfl)
          try simp only [Act.put, List.setIfInBounds_toArray, List.set_cons_zero, List.set_cons_succ]
          refine wpAnyL_take3 (i := 1) (oi := { dst := some 128, op := Op.move (Operand.tmp 14), type := 3, pos := "theorems.go:96", after := #[], guard := none }) (v := ?_) rfl (by kernel_rfl) (by kernel_rfl) (by kernel_rfl) (by kernel_rfl) (fun _ _ _ h => h) (Or.inl ⟨by rfl, ?_⟩) a0 ?_
          rotate_left 1
          · intro w0 hSw
            (try dsimp only at hSw)
            go_simp
            (try with_reducible rfl)
          try simp only [Act.put, List.setIfInBounds_toArray, List.set_cons_zero, List.set_cons_succ]
          refine wpAnyL_take3 (i := 2) (oi := { dst := some 129, op := Op.load 41 (Operand.tmp 7), type := 41, pos := "theorems.go:96", after := #[], guard := none }) (v := ?_) rfl (by kernel_rfl) (by kernel_rfl) (by kernel_rfl) (by kernel_rfl) (fun _ _ _ h => h) (Or.inl ⟨by rfl, ?_⟩) a0 ?_
          rotate_left 1
          · intro w0 hSw
            (try dsimp only at hSw)
            go_simp
            (try with_reducible rfl)
          try simp only [Act.put, List.setIfInBounds_toArray, List.set_cons_zero, List.set_cons_succ]
          refine wpAnyL_take3 (i := 3) (oi := { dst := some 130, op := Op.move (Operand.tmp 14), type := 3, pos := "theorems.go:96", after := #[], guard := none }) (v := ?_) rfl (by kernel_rfl) (by kernel_rfl) (by kernel_rfl) (by kernel_rfl) (fun _ _ _ h => h) (Or.inl ⟨by rfl, ?_⟩) a0 ?_
          rotate_left 1
          · intro w0 hSw
            (try dsimp only at hSw)
            go_simp
            (try with_reducible rfl)
          try simp only [Act.put, List.setIfInBounds_toArray, List.set_cons_zero, List.set_cons_succ]
          refine wpAnyL_take3 (i := 4) (oi := { dst := some 131, op := Op.indexAddr 41 (Operand.tmp 129) (Operand.tmp 130), type := 0, pos := "theorems.go:96", after := #[{ on := 2, ground := Ground.data }, { on := 3, ground := Ground.data }], guard := none }) (v := ?_) rfl (by kernel_rfl) (by kernel_rfl) (by kernel_rfl) (by kernel_rfl) (fun _ _ _ h => h) (Or.inl ⟨by rfl, ?_⟩) a0 ?_
          rotate_left 1
          · intro w0 hSw
            (try dsimp only at hSw)
            go_simp
            (try with_reducible rfl)
          try simp only [Act.put, List.setIfInBounds_toArray, List.set_cons_zero, List.set_cons_succ]
          refine wpAnyL_take3 (i := 5) (oi := { dst := some 132, op := Op.load 42 (Operand.tmp 131), type := 42, pos := "theorems.go:96", after := #[{ on := 4, ground := Ground.data }], guard := none }) (v := ?_) rfl (by kernel_rfl) (by kernel_rfl) (by kernel_rfl) (by kernel_rfl) (fun _ _ _ h => h) (Or.inl ⟨by rfl, ?_⟩) a0 ?_
          rotate_left 1
          · intro w0 hSw
            (try dsimp only at hSw)
            go_simp
            (try with_reducible rfl)
          try simp only [Act.put, List.setIfInBounds_toArray, List.set_cons_zero, List.set_cons_succ]
          refine wpAnyL_one (i := 6) (o := { dst := some 133, op := Op.buildSlice 42 1 #[(0, Operand.const (Value.int IntKind.i64 0))], type := 42, pos := "theorems.go:96", after := #[], guard := none }) rfl (by kernel_rfl) (fun K' hK => ?_)
          go_simp
          have KV3 : Hid (Kp [] w9 (V.alloc (.cells #[.int .i64 0] 3))) := hide ((unhide KV).trans (Kp.alloc _ _) (by simp))
          have NB3 := hide (CBox.new V #[.int .i64 0] 3)
          have a1 := unhide HS2 _ (unhide KV3)
          have b3 : Bq ≤ (V.alloc (.cells #[.int .i64 0] 3)).heap.size := by rw [World.size_alloc]; omega
          refine hK _ _ (Or.inr a1) ?_
          clear hK K'
          try simp only [Act.put, List.setIfInBounds_toArray, List.set_cons_zero, List.set_cons_succ]
          generalize V.alloc (.cells #[.int .i64 0] 3) = V3 at *
          generalize V.heap.size = g3 at *
          refine wpAnyL_one (i := 7) (o := { dst := some 134, op := Op.call { callee := Callee.builtin Builtin.append, args := #[Operand.tmp 132, Operand.tmp 133], argTypes := #[42, 42] }, type := 42, pos := "theorems.go:96", after := #[{ on := 5, ground := Ground.data }, { on := 6, ground := Ground.data }], guard := none }) rfl (by kernel_rfl) (fun K' hK => ?_)
          refine step_append_lies rfl (.tmp 132) (.tmp 133) 42 rfl Bq 3 i0 _ 1 8 Try.underlying42 hi0 hz0 hz1 hz2 rfl (by decide) _ il xs rfl (unhide HOW _ (unhide KV3)) ⟨g3, 0, none⟩ 1 1 [.int .i64 0] rfl rfl (fun j u hj => by
            rw [Go.WideShapes.add_plain, Nat.zero_add]
            exact (unhide NB3).cell (by simpa using hj)) (fun u hu => by simp at hu; subst hu; rfl) (by decide) (by unfold maxLen; omega) (by omega) b3 ?_
          intro g9 cap9 w8 own9 gr9 at9
          obtain ⟨f1, f2, f3, f4⟩ := unhide HFI V3 w8 g9 cap9 (unhide KV3) own9 gr9 at9
          have FN := hide f4
          refine hK _ _ (Or.inr ⟨f2, f1⟩) ?_
          clear hK K'
          try simp only [Act.put, List.setIfInBounds_toArray, List.set_cons_zero, List.set_cons_succ]
          refine wpAnyL_one (i := 8) (o := { dst := some 135, op := Op.indexAddr 41 (Operand.tmp 127) (Operand.tmp 128), type := 0, pos := "theorems.go:96", after := #[{ on := 0, ground := Ground.data }, { on := 1, ground := Ground.data }, { on := 0, ground := Ground.phase }, { on := 1, ground := Ground.phase }, { on := 2, ground := Ground.phase }, { on := 3, ground := Ground.phase }, { on := 4, ground := Ground.phase }, { on := 5, ground := Ground.phase }, { on := 6, ground := Ground.phase }, { on := 7, ground := Ground.phase }], guard := none }) rfl (by kernel_rfl) (fun K' hK => ?_)
          go_simp
          refine hK _ _ (Or.inr ⟨f2, f1⟩) ?_
          clear hK K'
          try simp only [Act.put, List.setIfInBounds_toArray, List.set_cons_zero, List.set_cons_succ]
          refine wpAnyL_one (i := 9) (o := { dst := none, op := Op.store 42 (Operand.tmp 135) (Operand.tmp 134), type := 0, pos := "theorems.go:96", after := #[{ on := 8, ground := Ground.data }, { on := 7, ground := Ground.data }, { on := 7, ground := Ground.chain }, { on := 0, ground := Ground.phase }, { on := 1, ground := Ground.phase }, { on := 2, ground := Ground.phase }, { on := 3, ground := Ground.phase }, { on := 4, ground := Ground.phase }, { on := 5, ground := Ground.phase }, { on := 6, ground := Ground.phase }, { on := 7, ground := Ground.phase }], guard := none }) rfl (by kernel_rfl) (fun K' hK => ?_)
          go_simp
          refine hK _ _ (Or.inl rfl) ?_
          clear hK K'
          try simp only [Act.put, List.setIfInBounds_toArray, List.set_cons_zero, List.set_cons_succ]
          refine wpAnyL_done (by kernel_rfl) ?_ _
          go_wp2
          go_roundw
          case rel => exact ⟨i + 1, nx, by omega, by omega, by omega, by go_num, rfl, FN⟩
          case measure => simp [intOf]; omega
      · have PU := hide (gaPull_any w w6 K b L n G I O Z told vs Bq (unhide HM2) hAl hn0 hn6 (fun c hc => by have := (hI c hc).1; omega) (fun c hc m hm => by have := (hI c hc).2.2 m hm; omega))
        have HN : Hid (∀ W', Pst w W' K b L n G I O Z told vs Bq → Gs w W' K b L n Bq (i + 1) nx) := hide (fun W' hP => by
          rcases hP with ⟨_, hm⟩ | ⟨O', told', h1, h2, h3⟩
          · exact ⟨G, I, O, Z, told, vs, hm, hAl, by omega, fun c hc => ⟨by have := (hI c hc).1; omega, (hI c hc).2⟩, by have := (Array.getElem?_eq_some_iff.1 hm.b11).1; omega⟩
          · exact ⟨G.plS, I, O', Z, told', vs, h2, h3, by omega, fun c hc => ⟨by have := (hI c hc).1; omega, (hI c hc).2⟩, by have := (Array.getElem?_eq_some_iff.1 h2.b11).1; omega⟩)
        clear HM2 p5
        go_wp2_with fail
        refine (unhide PU).mono ?_
        rintro _ w7 ⟨rfl, h7⟩
        have HN2 := hide (unhide HN _ h7)
        clear h7 HN PU
        go_wp2
        go_roundw
        case rel => exact ⟨i + 1, nx, by omega, by omega, by omega, by go_num, rfl, HN2⟩
        case measure => simp [intOf]; omega
    · have HR0 : Hid (∃ G I O Z told vs, Md w wr K b L n G I O Z told vs Bq ∧ Al n G I O told ∧ (Stk G ∨ tot n I O + 0 ≤ 300) ∧ ∀ c, c < n → (I c).length ≤ 300 ∧ ∀ m ∈ I c, m ≤ 300) := hide (by
        obtain ⟨G, I, O, Z, told, vs, h1, h2, h3, h4, _⟩ := unhide HR
        exact ⟨G, I, O, Z, told, vs, h1, h2, Or.inr (by omega), fun c hc => ⟨by have := (h4 c hc).1; omega, fun m hm => by have := (h4 c hc).2.2 m hm; omega⟩⟩)
      clear HR HL A2 A3
      have hex : (i < l.length ∧ ¬ (i : Int) < 300) ∨ ¬ (i : Int) < (l.length : Int) := by omega
      rcases hex with ⟨h1, h2i⟩ | h1i
      · have h1i : (i : Int) < (l.length : Int) := by omega
        clear hcnd
        go_wp2
        go_loopw [136] (fun iv wr => ∃ j : Nat, j ≤ 700 ∧ iv = .int .i64 (j : Int) ∧ Hid (∃ G I O Z told vs, Md w wr K b L n G I O Z told vs Bq ∧ Al n G I O told ∧ (Stk G ∨ tot n I O + j ≤ 300) ∧ ∀ c, c < n → (I c).length ≤ 300 ∧ ∀ m ∈ I c, m ≤ 300)) (fun iv _ => 700 - (intOf iv).toNat)
        case atStart => exact ⟨0, by decide, rfl, HR0⟩
        case round =>
          obtain ⟨j, hj, rfl, HQ⟩ := hrel
          clear HR0
          obtain ⟨G, I, O, Z, told, vs, hM, hAl, htt, hI⟩ := unhide HQ
          by_cases hlt : j < 700
          · have hji : (j : Int) < 700 := by omega
            have PU := hide (gaPull_any w wr K b L n G I O Z told vs Bq hM hAl hn0 hn6 (fun c hc => (hI c hc).1) (fun c hc => (hI c hc).2))
            have HN : Hid (∀ W', Pst w W' K b L n G I O Z told vs Bq → ∃ G I O Z told vs, Md w W' K b L n G I O Z told vs Bq ∧ Al n G I O told ∧ (Stk G ∨ tot n I O + (j + 1) ≤ 300) ∧ ∀ c, c < n → (I c).length ≤ 300 ∧ ∀ m ∈ I c, m ≤ 300) := hide (fun W' hP => by
              rcases hP with ⟨hs, hm⟩ | ⟨O', told', h1, h2, h3⟩
              · exact ⟨G, I, O, Z, told, vs, hm, hAl, Or.inl hs, hI⟩
              · refine ⟨G.plS, I, O', Z, told', vs, h2, h3, ?_, hI⟩
                rcases htt with h4 | h4
                · refine Or.inl ?_
                  rw [(al_none h4).2.2.2.2]
                  exact h4
                · exact Or.inr (by omega))
            clear HQ hM hAl htt hI
            go_wp2_with fail
            refine (unhide PU).mono ?_
            rintro _ w7 ⟨rfl, h7⟩
            have HN2 := hide (unhide HN _ h7)
            clear h7 HN PU
            go_wp2
            go_roundw
            case rel => exact ⟨j + 1, by omega, by go_num, HN2⟩
            case measure => simp [intOf]; omega
          · obtain rfl : j = 700 := by omega
            have hst : Stk G := by
              rcases htt with h4 | h4
              · exact h4
              · omega
            have p5 := hM.c5
            have BL := hide (gBlocked_any w.heap.size b L G wr hM.gt)
            have HST : Hid (∀ c, c < n → O c < (I c).length → (G.ch c).blk = true) := hide (fun c hc ho => al_stuck hAl hst hc ho)
            have HO : Hid (∀ c, c < n → O c ≤ (I c).length) := hide hAl.o
            have hGn : G.n = n := hAl.nn
            have HM := hide hM
            have hI3 : Hid (∀ c, c < n → (I c).length ≤ 300) := hide (fun c hc => (hI c hc).1)
            clear HQ hM hAl htt hI hst
            go_wp2_with fail
            refine (unhide BL).mono ?_
            rintro _ w8 ⟨v8, rfl, ⟨g8, rfl, _, cb8⟩, k8⟩
            rw [hGn] at cb8
            have HC : Hid (∀ W, Kp [] w8 W → (∀ c, c < n → W.cell? ⟨g8, c, none⟩ = some (.bool (G.ch c).blk)) ∧ Md w W K b L n G I O Z told vs Bq) := hide (fun W kq => ⟨fun c hc => kq.cell (cb8.cell (by rw [List.getElem?_toArray]; exact blC_at (fun k => (G.ch k).blk) hc hc)) (by simp), (unhide HM).quiet (k8.trans kq (by simp))⟩)
            clear BL HM cb8 k8 p5
            have e2 := ((unhide HC) w8 (Kp.refl _ _)).2.c2
            rw [hGn]
            go_wp2
            go_loopw [145] (fun iv wq => ∃ c : Nat, c ≤ n ∧ iv = .int .i64 (c : Int) ∧ Hid (Kp [] w8 wq)) (fun iv _ => n - (intOf iv).toNat)
            case atStart => exact ⟨0, Nat.zero_le _, rfl, hide (Kp.refl _ _)⟩
            case round =>
              obtain ⟨c, hc, rfl, HK⟩ := hrel
              clear e2
              by_cases hlt : c < n
              · have hci : (c : Int) < (n : Int) := by omega
                obtain ⟨z1, z2⟩ := unhide HC _ (unhide HK)
                have y8 := z2.c8
                have y7 := z2.c7
                have yo := z2.co hlt
                have yb := z1 c hlt
                obtain ⟨ad', cap', hvs⟩ := (z2.ir c hlt).slice
                have yi := z2.ci hlt
                rw [hvs] at yi
                have hst := unhide HST c hlt
                have hol := unhide HO c hlt
                have HD : Hid (∀ m, Kp [] w8 (wr.drewN m)) := hide (fun m => (unhide HK).trans (Kp.drewQ _ _) (by simp))
                clear z1 z2 hvs HK
                generalize (I c).length = il at *
                generalize O c = oc at *
                generalize (G.ch c).blk = bc at *
                by_cases hoi : oc < il
                · have hbc := hst hoi
                  subst hbc
                  have q1 : decide ((oc : Int) < (il : Int)) = true := decide_eq_true (by omega)
                  have q2' : (oc : Int) < (il : Int) := by omega
                  clear hst
                  go_wp2
                  go_quiet (fail)
                  go_wp2
                  go_roundw
                  case rel => exact ⟨c + 1, by omega, by go_num, hide (unhide HD _)⟩
                  case measure => simp [intOf]; omega
                · have q1 : decide ((oc : Int) < (il : Int)) = false := decide_eq_false (by omega)
                  have q2' : ¬ (oc : Int) < (il : Int) := by omega
                  clear hst
                  go_wp2
                  go_quiet (fail)
                  go_wp2
                  go_roundw
                  case rel => exact ⟨c + 1, by omega, by go_num, hide (unhide HD _)⟩
                  case measure => simp [intOf]; omega
              · have HB := hide (kp_below ((unhide HC) _ (unhide HK)).2.kp)
                have hci : ¬ (c : Int) < (n : Int) := by omega
                go_wp2
                go_ret
                exact ⟨rfl, unhide HB⟩
      · clear hcnd
        go_wp2
        go_loopw [136] (fun iv wr => ∃ j : Nat, j ≤ 700 ∧ iv = .int .i64 (j : Int) ∧ Hid (∃ G I O Z told vs, Md w wr K b L n G I O Z told vs Bq ∧ Al n G I O told ∧ (Stk G ∨ tot n I O + j ≤ 300) ∧ ∀ c, c < n → (I c).length ≤ 300 ∧ ∀ m ∈ I c, m ≤ 300)) (fun iv _ => 700 - (intOf iv).toNat)
        case atStart => exact ⟨0, by decide, rfl, HR0⟩
        case round =>
          obtain ⟨j, hj, rfl, HQ⟩ := hrel
          clear HR0
          obtain ⟨G, I, O, Z, told, vs, hM, hAl, htt, hI⟩ := unhide HQ
          by_cases hlt : j < 700
          · have hji : (j : Int) < 700 := by omega
            have PU := hide (gaPull_any w wr K b L n G I O Z told vs Bq hM hAl hn0 hn6 (fun c hc => (hI c hc).1) (fun c hc => (hI c hc).2))
            have HN : Hid (∀ W', Pst w W' K b L n G I O Z told vs Bq → ∃ G I O Z told vs, Md w W' K b L n G I O Z told vs Bq ∧ Al n G I O told ∧ (Stk G ∨ tot n I O + (j + 1) ≤ 300) ∧ ∀ c, c < n → (I c).length ≤ 300 ∧ ∀ m ∈ I c, m ≤ 300) := hide (fun W' hP => by
              rcases hP with ⟨hs, hm⟩ | ⟨O', told', h1, h2, h3⟩
              · exact ⟨G, I, O, Z, told, vs, hm, hAl, Or.inl hs, hI⟩
              · refine ⟨G.plS, I, O', Z, told', vs, h2, h3, ?_, hI⟩
                rcases htt with h4 | h4
                · refine Or.inl ?_
                  rw [(al_none h4).2.2.2.2]
                  exact h4
                · exact Or.inr (by omega))
            clear HQ hM hAl htt hI
            go_wp2_with fail
            refine (unhide PU).mono ?_
            rintro _ w7 ⟨rfl, h7⟩
            have HN2 := hide (unhide HN _ h7)
            clear h7 HN PU
            go_wp2
            go_roundw
            case rel => exact ⟨j + 1, by omega, by go_num, HN2⟩
            case measure => simp [intOf]; omega
          · obtain rfl : j = 700 := by omega
            have hst : Stk G := by
              rcases htt with h4 | h4
              · exact h4
              · omega
            have p5 := hM.c5
            have BL := hide (gBlocked_any w.heap.size b L G wr hM.gt)
            have HST : Hid (∀ c, c < n → O c < (I c).length → (G.ch c).blk = true) := hide (fun c hc ho => al_stuck hAl hst hc ho)
            have HO : Hid (∀ c, c < n → O c ≤ (I c).length) := hide hAl.o
            have hGn : G.n = n := hAl.nn
            have HM := hide hM
            have hI3 : Hid (∀ c, c < n → (I c).length ≤ 300) := hide (fun c hc => (hI c hc).1)
            clear HQ hM hAl htt hI hst
            go_wp2_with fail
            refine (unhide BL).mono ?_
            rintro _ w8 ⟨v8, rfl, ⟨g8, rfl, _, cb8⟩, k8⟩
            rw [hGn] at cb8
            have HC : Hid (∀ W, Kp [] w8 W → (∀ c, c < n → W.cell? ⟨g8, c, none⟩ = some (.bool (G.ch c).blk)) ∧ Md w W K b L n G I O Z told vs Bq) := hide (fun W kq => ⟨fun c hc => kq.cell (cb8.cell (by rw [List.getElem?_toArray]; exact blC_at (fun k => (G.ch k).blk) hc hc)) (by simp), (unhide HM).quiet (k8.trans kq (by simp))⟩)
            clear BL HM cb8 k8 p5
            have e2 := ((unhide HC) w8 (Kp.refl _ _)).2.c2
            rw [hGn]
            go_wp2
            go_loopw [145] (fun iv wq => ∃ c : Nat, c ≤ n ∧ iv = .int .i64 (c : Int) ∧ Hid (Kp [] w8 wq)) (fun iv _ => n - (intOf iv).toNat)
            case atStart => exact ⟨0, Nat.zero_le _, rfl, hide (Kp.refl _ _)⟩
            case round =>
              obtain ⟨c, hc, rfl, HK⟩ := hrel
              clear e2
              by_cases hlt : c < n
              · have hci : (c : Int) < (n : Int) := by omega
                obtain ⟨z1, z2⟩ := unhide HC _ (unhide HK)
                have y8 := z2.c8
                have y7 := z2.c7
                have yo := z2.co hlt
                have yb := z1 c hlt
                obtain ⟨ad', cap', hvs⟩ := (z2.ir c hlt).slice
                have yi := z2.ci hlt
                rw [hvs] at yi
                have hst := unhide HST c hlt
                have hol := unhide HO c hlt
                have HD : Hid (∀ m, Kp [] w8 (wr.drewN m)) := hide (fun m => (unhide HK).trans (Kp.drewQ _ _) (by simp))
                clear z1 z2 hvs HK
                generalize (I c).length = il at *
                generalize O c = oc at *
                generalize (G.ch c).blk = bc at *
                by_cases hoi : oc < il
                · have hbc := hst hoi
                  subst hbc
                  have q1 : decide ((oc : Int) < (il : Int)) = true := decide_eq_true (by omega)
                  have q2' : (oc : Int) < (il : Int) := by omega
                  clear hst
                  go_wp2
                  go_quiet (fail)
                  go_wp2
                  go_roundw
                  case rel => exact ⟨c + 1, by omega, by go_num, hide (unhide HD _)⟩
                  case measure => simp [intOf]; omega
                · have q1 : decide ((oc : Int) < (il : Int)) = false := decide_eq_false (by omega)
                  have q2' : ¬ (oc : Int) < (il : Int) := by omega
                  clear hst
                  go_wp2
                  go_quiet (fail)
                  go_wp2
                  go_roundw
                  case rel => exact ⟨c + 1, by omega, by go_num, hide (unhide HD _)⟩
                  case measure => simp [intOf]; omega
              · have HB := hide (kp_below ((unhide HC) _ (unhide HK)).2.kp)
                have hci : ¬ (c : Int) < (n : Int) := by omega
                go_wp2
                go_ret
                exact ⟨rfl, unhide HB⟩
end Go.Proofs.Ytcgmoadahdkbbaa
