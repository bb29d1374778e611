/-
  GateAligned: the closure that pulls.
-/
import Derived.Test.YtcgmoadahdkbbaaGa11
import Derived.Deep.DeepCutAuto
import Derived.Deep.RegionHeld3
namespace Go.Proofs.Ytcgmoadahdkbbaa
open Go.RowKit Gt Cr Go.HeldUp

section
variable {w0 W : World} {K : Bk} {b L n : Nat} {G : Gt} {I : Nat → List Nat} {O Z : Nat → Nat} {told : Nat} {vs : Nat → Value} {Bq : Nat}
theorem Md.c5 (h : Md w0 W K b L n G I O Z told vs Bq) : W.cell? ⟨K.q5, 0, none⟩ = some (.pointer (some ⟨b, 0, none⟩)) := h.b5.cell rfl
theorem Md.c11 (h : Md w0 W K b L n G I O Z told vs Bq) : W.cell? ⟨K.q11, 0, none⟩ = some (.int .i64 (told : Int)) := h.b11.cell rfl
theorem Md.c2 (h : Md w0 W K b L n G I O Z told vs Bq) : W.cell? ⟨K.q2, 0, none⟩ = some (.int .i64 (n : Int)) := h.b2.cell rfl
theorem Md.c8 (h : Md w0 W K b L n G I O Z told vs Bq) : W.cell? ⟨K.q8, 0, none⟩ = some (.slice (some ⟨K.go, 0, none⟩) n n) := h.b8.cell rfl
theorem Md.c7 (h : Md w0 W K b L n G I O Z told vs Bq) : W.cell? ⟨K.q7, 0, none⟩ = some (.slice (some ⟨K.gi, 0, none⟩) n n) := h.b7.cell rfl
theorem Md.co (h : Md w0 W K b L n G I O Z told vs Bq) {c : Nat} (hc : c < n) : W.cell? ⟨K.go, c, none⟩ = some (.int .i64 (O c : Int)) := h.bo.cell (rowN_at n O hc)
theorem Md.cb (h : Md w0 W K b L n G I O Z told vs Bq) {c : Nat} (hc : c < n) : W.cell? ⟨K.gb, c, none⟩ = some (.int .i64 (Z c : Int)) := h.bb.cell (rowN_at n Z hc)
theorem Md.ci (h : Md w0 W K b L n G I O Z told vs Bq) {c : Nat} (hc : c < n) : W.cell? ⟨K.gi, c, none⟩ = some (vs c) := h.bi.cell (rowV_at n vs hc)
/-- An element of a channel's row. -/
theorem Md.el (h : Md w0 W K b L n G I O Z told vs Bq) {c : Nat} (hc : c < n) {j : Nat} (hj : j < (I c).length) : ∃ g cap, W.cell? ⟨K.gi, c, none⟩ = some (.slice (some ⟨g, 0, none⟩) (I c).length cap) ∧ W.cell? ⟨g, j, none⟩ = some (.int .i64 ((I c)[j] : Int)) := by
  have := h.ci hc
  rcases (h.ir c hc).form with ⟨_, e⟩ | ⟨g, cap, e, _, h2⟩
  · rw [e] at hj; cases hj
  · rw [e] at this
    exact ⟨g, cap, this, h2 j hj⟩
end
/-- The first j channels' counts are one greater. -/
def oN (O : Nat → Nat) (j : Nat) : Nat → Nat := fun c => if c < j then O c + 1 else O c
theorem oN_at (O : Nat → Nat) (j : Nat) : oN O j j = O j := if_neg (Nat.lt_irrefl j)
theorem oN_zero (O : Nat → Nat) : oN O 0 = O := by funext c; exact if_neg (Nat.not_lt_zero c)
/-- A number's text, made of its two bytes. -/
theorem tx_conv (m : Nat) (V : World) {g : Nat} (h : CBox g #[.int .u8 ((m % 256 : Nat) : Int), .int .u8 ((m / 256 % 256 : Nat) : Int)] 5 V) : (convert 46 9 (.slice (some ⟨g, 0, none⟩) 2 2)).run Try.prog V = .ok (.string (txN m)) V := by
  have := run_convert_bytes_arg (P := Try.prog) V 46 5 Try.underlying46 Try.underlying5 g 0 2 2 [((m % 256 : Nat) : Int), ((m / 256 % 256 : Nat) : Int)] (by simp) (fun i hi => by
    match i, hi with
    | 0, _ => exact h.cell rfl
    | 1, _ => exact h.cell rfl) 9 Try.underlying9
  rw [this]
  congr 1
theorem tx_string (m : Nat) (W : World) : (convert 46 9 (.slice (some ⟨W.heap.size, 0, none⟩) 2 2)).run Try.prog (W.alloc (.cells #[.int .u8 ((m % 256 : Nat) : Int), .int .u8 ((m / 256 % 256 : Nat) : Int)] 5)) = .ok (.string (txN m)) (W.alloc (.cells #[.int .u8 ((m % 256 : Nat) : Int), .int .u8 ((m / 256 % 256 : Nat) : Int)] 5)) := tx_conv m _ (CBox.new W _ _)
theorem tx_string2 (m : Nat) (W : World) : (convert 46 9 (.slice (some ⟨W.heap.size, 0, none⟩) 2 2)).run Try.prog (W.alloc (.cells #[.int .u8 ((m % 256 : Nat) : Int), .int .u8 ((m / 256 % 256 : Nat) : Int)] 5)).drew = .ok (.string (txN m)) (W.alloc (.cells #[.int .u8 ((m % 256 : Nat) : Int), .int .u8 ((m / 256 % 256 : Nat) : Int)] 5)).drew := tx_conv m _ ((CBox.new W _ _).kp (Kp.drew _) (by simp))
/-- What a pull leaves. -/
def Pst (w0 W' : World) (K : Bk) (b L n : Nat) (G : Gt) (I : Nat → List Nat) (O Z : Nat → Nat) (told : Nat) (vs : Nat → Value) (Bq : Nat) : Prop :=
  (Stk G ∧ Md w0 W' K b L n G I O Z told vs Bq) ∨ ∃ O' told', tot n I O' < tot n I O ∧ Md w0 W' K b L n G.plS I O' Z told' vs Bq ∧ Al n G.plS I O' told'
set_option maxHeartbeats 16000000 in
set_option maxRecDepth 100000 in
theorem gaPull_any (w0 W : World) (K : Bk) (b L n : Nat) (G : Gt) (I : Nat → List Nat) (O Z : Nat → Nat) (told : Nat) (vs : Nat → Value) (Bq : Nat) (h : Md w0 W K b L n G I O Z told vs Bq) (ha : Al n G I O told) (hn0 : 0 < n) (hn6 : n ≤ 6) (hI : ∀ c, c < n → (I c).length ≤ 300) (hm : ∀ c, c < n → ∀ m ∈ I c, m ≤ 300) :
    Calls Try.prog 14 #[.pointer (some ⟨K.q5, 0, none⟩), .pointer (some ⟨K.q11, 0, none⟩), .pointer (some ⟨K.q2, 0, none⟩), .pointer (some ⟨K.q8, 0, none⟩), .pointer (some ⟨K.q7, 0, none⟩)] W fun e W' => e = .returned (.bool true) ∧ Pst w0 W' K b L n G I O Z told vs Bq := by
  have c5 := h.c5
  have PU := hide (gPull_any w0.heap.size b L G W h.gt)
  have hto : told ≤ 300 := by
    have := ha.z 0 hn0
    have h1 := hI 0 hn0
    have h2 : zs (I 0) ≤ (I 0).length := List.countP_le_length
    omega
  rcases al_pull ha hn0 with hs | ⟨p1, p2, p3, p4, p5, p6⟩ | ⟨k, hk, p1, p2, p3, ⟨hl, p4, p5⟩, p6⟩
  · obtain ⟨p1, p2, p3, p4, p5⟩ := al_none hs
    rw [p1, p2, p3, p4, p5] at PU
    have HF := hide (fun W' (a : GtAt w0.heap.size W' b L G) (k : Ko gtO w0.heap.size W W') => (show Pst w0 W' K b L n G I O Z told vs Bq from Or.inl ⟨hs, h.gate a k⟩))
    clear h ha hs hI hm p1 p2 p3 p4 p5
    go_enter Try.func14, Try.ntmps14
    go_wp2_with fail
    refine (unhide PU).mono ?_
    rintro _ w1 ⟨rfl, h1, h2⟩
    have H1 := hide (unhide HF _ h1 h2)
    clear h1 h2 PU HF c5
    go_wp2
    go_ret
    exact ⟨rfl, unhide H1⟩
  · rw [p1, p2, p3, p4] at PU
    have HLT := hide (tot_all hn0 p5)
    have HIN := hide p5
    have HI3 := hide hI
    have HAL := hide p6
    have H0 : Hid (∀ W', GtAt w0.heap.size W' b L G.plS → Ko gtO w0.heap.size W W' → Md w0 W' K b L n G.plS I O Z told vs Bq) := hide (fun W' a k => h.gate a k)
    clear h ha p1 p2 p3 p4 p5 p6 hI hm
    go_enter Try.func14, Try.ntmps14
    go_wp2_with fail
    refine (unhide PU).mono ?_
    rintro _ w1 ⟨rfl, h1, h2⟩
    have HM := hide (unhide H0 _ h1 h2)
    clear h1 h2 PU H0 c5
    have d11 := (unhide HM).c11
    have z11 := (unhide HM).b11.froz 0
    have HT := hide (unhide HM).told'
    have hwt : IntKind.i64.wrap ((told : Int) + 1) = (told : Int) + 1 := by simp [IntKind.wrap, IntKind.signed, go_sem]; omega
    go_upto_region 8 with fail
    generalize w1.setCell ⟨K.q11, 0, none⟩ (.int .i64 ((told : Int) + 1)) = w2 at *
    clear d11 z11 HM
    have d2 := (unhide HT).c2
    have HT0 : Hid (Md w0 w2 K b L n G.plS I (oN O 0) Z (told + 1) vs Bq) := hide (by
      rw [oN_zero]; exact unhide HT)
    clear HT
    go_wp2
    go_loopw [37] (fun i wr => ∃ j : Nat, j ≤ n ∧ i = .int .i64 (j : Int) ∧ Hid (Md w0 wr K b L n G.plS I (oN O j) Z (told + 1) vs Bq)) (fun i _ => n - (intOf i).toNat)
    case atStart => exact ⟨0, Nat.zero_le _, rfl, HT0⟩
    case round =>
      obtain ⟨j, hj, rfl, HR⟩ := hrel
      clear HT0
      by_cases hlt : j < n
      · have hli : (j : Int) < (n : Int) := by omega
        obtain ⟨hl, he⟩ := unhide HIN j hlt
        have e8 := (unhide HR).c8
        have e7 := (unhide HR).c7
        have eo := (unhide HR).co hlt
        have eoj := oN_at O j
        rw [eoj] at eo
        obtain ⟨g, cap, ei, em⟩ := (unhide HR).el hlt hl
        rw [he] at em
        have hoi : ((O j : Nat) : Int) < ((I j).length : Int) := by omega
        have HS : Hid (∀ W', Kp [] wr W' → W'.cell? ⟨K.q8, 0, none⟩ = some (.slice (some ⟨K.go, 0, none⟩) n n) ∧ W'.cell? ⟨K.go, j, none⟩ = some (.int .i64 (O j : Int)) ∧ W'.frozen? ⟨K.go, j, none⟩ = false ∧ Md w0 (W'.setCell ⟨K.go, j, none⟩ (.int .i64 ((O j : Int) + 1))) K b L n G.plS I (oN O (j + 1)) Z (told + 1) vs Bq) := hide (fun W' kq => by
          have hq := (unhide HR).quiet kq
          have h1 := hq.co hlt
          rw [eoj] at h1
          refine ⟨hq.c8, h1, hq.bo.froz _, ?_⟩
          have := hq.out' (O' := oN O (j + 1)) (c := j) (fun d _ hd => by
            unfold oN
            by_cases h3 : d < j
            · rw [if_pos h3, if_pos (by omega)]
            · rw [if_neg h3, if_neg (by omega)]) (by rw [eoj]; exact if_pos (Nat.lt_succ_self j))
          rw [eoj] at this
          exact this)
        have hwo : IntKind.i64.wrap ((O j : Int) + 1) = (O j : Int) + 1 := by
          have := unhide HI3 j hlt
          simp [IntKind.wrap, IntKind.signed, go_sem]
          omega
        clear HR he eoj
        generalize (I j).length = il at *
        generalize O j = oj at *
        go_wp2
        go_quiet (fail)
        go_upto_region 13 with fail
        generalize hW2 : wr.drewN _ = w3
        have kq : Kp [] wr w3 := hW2 ▸ Kp.drewQ _ _
        clear hW2 e8 e7 eo ei em
        obtain ⟨s1, s2, s3, s4⟩ := unhide HS w3 kq
        have HN := hide s4
        clear s4 HS kq
        go_wp2
        go_roundw
        case rel => exact ⟨j + 1, by omega, by go_num, HN⟩
        case measure => simp [intOf]; omega
      · obtain rfl : j = n := by omega
        have d11 := (unhide HR).c11
        have HF : Hid (Pst w0 wr K b L j G I O Z told vs Bq) := hide (Or.inr ⟨fun c => O c + 1, told + 1, unhide HLT, by
          have h1 := unhide HR
          have e : rowN j (oN O j) = rowN j (fun c => O c + 1) := by
            unfold rowN
            congr 1
            refine List.map_congr_left fun c hc => ?_
            unfold oN
            rw [if_pos (List.mem_range.1 hc)]
          exact { h1 with bo := e ▸ h1.bo }, unhide HAL⟩)
        clear HR HAL HLT HIN
        go_wp2
        go_ret
        exact ⟨rfl, unhide HF⟩
  · rw [p1, p2, p3, p5] at PU
    have HLT := hide (tot_one hk hl)
    have HAL := hide p6
    have H0 : Hid (∀ W', GtAt w0.heap.size W' b L G.plS → Ko gtO w0.heap.size W W' → Md w0 W' K b L n G.plS I O Z told vs Bq) := hide (fun W' a k => h.gate a k)
    have hkm : ((k : Int) == -1) = false := beq_eq_false_iff_ne.2 (by omega)
    have hm3 := hm k hk _ (List.getElem_mem hl)
    have hI3 := hI k hk
    clear h ha p1 p2 p3 p5 p6 hI hm
    go_enter Try.func14, Try.ntmps14
    go_wp2_with fail
    refine (unhide PU).mono ?_
    rintro _ w1 ⟨rfl, h1, h2⟩
    have HM := hide (unhide H0 _ h1 h2)
    clear h1 h2 PU H0 c5
    obtain ⟨g, cap, ei, em⟩ := (unhide HM).el hk hl
    have HS : Hid (∀ W', Kp [] w1 W' → W'.cell? ⟨K.q8, 0, none⟩ = some (.slice (some ⟨K.go, 0, none⟩) n n) ∧ W'.cell? ⟨K.q7, 0, none⟩ = some (.slice (some ⟨K.gi, 0, none⟩) n n) ∧ W'.cell? ⟨K.q2, 0, none⟩ = some (.int .i64 (n : Int)) ∧ W'.cell? ⟨K.go, k, none⟩ = some (.int .i64 (O k : Int)) ∧ W'.cell? ⟨K.gi, k, none⟩ = some (.slice (some ⟨g, 0, none⟩) (I k).length cap) ∧ W'.cell? ⟨g, O k, none⟩ = some (.int .i64 ((I k)[O k] : Int))) := hide (fun W' kq => ⟨((unhide HM).quiet kq).c8, ((unhide HM).quiet kq).c7, ((unhide HM).quiet kq).c2, ((unhide HM).quiet kq).co hk, kq.cell ei (by simp), kq.cell em (by simp)⟩)
    have CV := tx_string2 (I k)[O k]
    have hki : (k : Int) < (n : Int) := by omega
    have hk0 : decide ((k : Int) < 0) = false := decide_eq_false (by omega)
    have hkn : decide ((n : Int) ≤ (k : Int)) = false := decide_eq_false (by omega)
    have hkn1 : ¬ (n : Int) ≤ (k : Int) := by omega
    have hkn2 : decide (n ≤ k) = false := decide_eq_false (by omega)
    have hkn3 : ¬ n ≤ k := by omega
    have hol : decide (((I k).length : Int) ≤ ((O k : Nat) : Int)) = false := decide_eq_false (by omega)
    have hol2 : ((O k : Nat) : Int) < ((I k).length : Int) := by omega
    have hol3 : ¬ ((I k).length : Int) ≤ ((O k : Nat) : Int) := by omega
    have hol4 : decide ((I k).length ≤ O k) = false := decide_eq_false (by omega)
    have hol5 : ¬ (I k).length ≤ O k := by omega
    have hmz2 : (m0 : Nat) → True := fun _ => trivial
    have hmz3 : ((I k)[O k] == 0) = false := beq_eq_false_iff_ne.2 p4
    have hmz4 : ¬ (I k)[O k] = 0 := p4
    have hmz5 : ¬ (((I k)[O k] : Nat) : Int) = 0 := by omega
    clear hmz2
    have hmzb : ((((I k)[O k] : Nat) : Int) == 0) = false := beq_eq_false_iff_ne.2 (by omega)
    have HK3 : Hid (∀ W', Kp [] w1 W' → W'.cell? ⟨K.q8, 0, none⟩ = some (.slice (some ⟨K.go, 0, none⟩) n n) ∧ W'.cell? ⟨K.go, k, none⟩ = some (.int .i64 (O k : Int)) ∧ W'.frozen? ⟨K.go, k, none⟩ = false ∧ Md w0 (W'.setCell ⟨K.go, k, none⟩ (.int .i64 ((O k : Int) + 1))) K b L n G.plS I (upO O k) Z told vs Bq) := hide (fun W' kq => ⟨((unhide HM).quiet kq).c8, ((unhide HM).quiet kq).co hk, ((unhide HM).quiet kq).bo.froz _, ((unhide HM).quiet kq).out' (fun j _ hj => if_neg hj) (if_pos rfl)⟩)
    have hwo : IntKind.i64.wrap ((O k : Int) + 1) = (O k : Int) + 1 := by
      have := hl
      simp [IntKind.wrap, IntKind.signed, go_sem]
      omega
    clear HM ei em p4
    have hu1 : IntKind.u8.wrap (((I k)[O k] : Nat) : Int) = (((I k)[O k] % 256 : Nat) : Int) := by simp [IntKind.wrap, IntKind.signed, go_sem]
    have hu2 : IntKind.u8.wrap ((((I k)[O k] : Nat) : Int) / 256) = (((I k)[O k] / 256 % 256 : Nat) : Int) := by simp [IntKind.wrap, IntKind.signed, go_sem]
    generalize txN (I k)[O k] = tx at *
    generalize (I k)[O k] / 256 % 256 = u2 at *
    generalize (I k)[O k] % 256 = u1 at *
    generalize (I k)[O k] = m at *
    generalize (I k).length = il at *
    generalize hok : O k = ok at *
    have HOK := hide hok
    clear hok
    go_upto_region 16 with fail
    dsimp only [List.append]
    refine wp_region_held_drew (S := fun W => W.cell? ⟨K.q8, 0, none⟩ = some (.slice (some ⟨K.go, 0, none⟩) n n) ∧ W.cell? ⟨K.q7, 0, none⟩ = some (.slice (some ⟨K.gi, 0, none⟩) n n) ∧ W.cell? ⟨K.q2, 0, none⟩ = some (.int .i64 (n : Int)) ∧ W.cell? ⟨K.go, k, none⟩ = some (.int .i64 (ok : Int)) ∧ W.cell? ⟨K.gi, k, none⟩ = some (.slice (some ⟨g, 0, none⟩) il cap) ∧ W.cell? ⟨g, ok, none⟩ = some (.int .i64 (m : Int))) (by kernel_rfl) (unhide HS _ (Kp.drew _)) (fun hHeld => ?_)
    show wpAnyH _ _ _ _ _ 65 (Array.replicate 65 false) _ _
    refine wpAnyH_take (i := 0) (oi := { dst := some 77, op := Op.move (Operand.tmp 6), type := 3, pos := "theorems.go:73", after := #[], guard := none }) (v := ?_) rfl (by kernel_rfl) (by kernel_rfl) (by kernel_rfl) (fun _ _ _ h => h) (Or.inl ⟨by rfl, ?_⟩) (by assumption) ?_
    rotate_left 1
    · intro w0 hSw
      (try dsimp only at hSw)
      go_simp
      (try with_reducible rfl)
    try simp only [Act.put, List.setIfInBounds_toArray, List.set_cons_zero, List.set_cons_succ]
    refine wpAnyH_take (i := 1) (oi := { dst := some 78, op := Op.binOp BinOp.lss 3 (Operand.tmp 77) (Operand.const (Value.int IntKind.i64 0)) 3, type := 4, pos := "theorems.go:73", after := #[{ on := 0, ground := Ground.data }], guard := none }) (v := ?_) rfl (by kernel_rfl) (by kernel_rfl) (by kernel_rfl) (fun _ _ _ h => h) (Or.inl ⟨by rfl, ?_⟩) (by assumption) ?_
    rotate_left 1
    · intro w0 hSw
      (try dsimp only at hSw)
      go_simp
      (try with_reducible rfl)
    try simp only [Act.put, List.setIfInBounds_toArray, List.set_cons_zero, List.set_cons_succ]
    refine wpAnyH_take (i := 2) (oi := { dst := some 79, op := Op.move (Operand.tmp 78), type := 4, pos := "theorems.go:73", after := #[{ on := 1, ground := Ground.data }], guard := none }) (v := ?_) rfl (by kernel_rfl) (by kernel_rfl) (by kernel_rfl) (fun _ _ _ h => h) (Or.inl ⟨by rfl, ?_⟩) (by assumption) ?_
    rotate_left 1
    · intro w0 hSw
      (try dsimp only at hSw)
      go_simp
      (try with_reducible rfl)
    try simp only [Act.put, List.setIfInBounds_toArray, List.set_cons_zero, List.set_cons_succ]
    refine wpAnyH_take (i := 3) (oi := { dst := some 80, op := Op.move (Operand.tmp 6), type := 3, pos := "theorems.go:73", after := #[{ on := 2, ground := Ground.guard }], guard := some (2, false) }) (v := ?_) rfl (by kernel_rfl) (by kernel_rfl) (by kernel_rfl) (fun _ _ _ h => h) (Or.inl ⟨by rfl, ?_⟩) (by assumption) ?_
    rotate_left 1
    · intro w0 hSw
      (try dsimp only at hSw)
      go_simp
      (try with_reducible rfl)
    try simp only [Act.put, List.setIfInBounds_toArray, List.set_cons_zero, List.set_cons_succ]
    refine wpAnyH_take (i := 4) (oi := { dst := some 81, op := Op.load 3 (Operand.tmp 2), type := 3, pos := "theorems.go:73", after := #[{ on := 2, ground := Ground.guard }], guard := some (2, false) }) (v := ?_) rfl (by kernel_rfl) (by kernel_rfl) (by kernel_rfl) (fun _ _ _ h => h) (Or.inl ⟨by rfl, ?_⟩) (by assumption) ?_
    rotate_left 1
    · intro w0 hSw
      (try dsimp only at hSw)
      go_simp
      (try with_reducible rfl)
    try simp only [Act.put, List.setIfInBounds_toArray, List.set_cons_zero, List.set_cons_succ]
    refine wpAnyH_take (i := 5) (oi := { dst := some 82, op := Op.binOp BinOp.geq 3 (Operand.tmp 80) (Operand.tmp 81) 3, type := 4, pos := "theorems.go:73", after := #[{ on := 3, ground := Ground.data }, { on := 4, ground := Ground.data }, { on := 2, ground := Ground.guard }], guard := some (2, false) }) (v := ?_) rfl (by kernel_rfl) (by kernel_rfl) (by kernel_rfl) (fun _ _ _ h => h) (Or.inl ⟨by rfl, ?_⟩) (by assumption) ?_
    rotate_left 1
    · intro w0 hSw
      (try dsimp only at hSw)
      go_simp
      (try with_reducible rfl)
    try simp only [Act.put, List.setIfInBounds_toArray, List.set_cons_zero, List.set_cons_succ]
    refine wpAnyH_take (i := 6) (oi := { dst := some 83, op := Op.pick (Operand.tmp 79) (Operand.const (Value.bool true)) (Operand.tmp 82), type := 4, pos := "theorems.go:73", after := #[{ on := 2, ground := Ground.data }, { on := 5, ground := Ground.data }], guard := none }) (v := ?_) rfl (by kernel_rfl) (by kernel_rfl) (by kernel_rfl) (fun _ _ _ h => h) (Or.inl ⟨by rfl, ?_⟩) (by assumption) ?_
    rotate_left 1
    · intro w0 hSw
      (try dsimp only at hSw)
      go_simp
      (try with_reducible rfl)
    try simp only [Act.put, List.setIfInBounds_toArray, List.set_cons_zero, List.set_cons_succ]
    refine wpAnyH_take (i := 7) (oi := { dst := some 84, op := Op.move (Operand.tmp 83), type := 4, pos := "theorems.go:73", after := #[{ on := 6, ground := Ground.data }, { on := 2, ground := Ground.chain }], guard := none }) (v := ?_) rfl (by kernel_rfl) (by kernel_rfl) (by kernel_rfl) (fun _ _ _ h => h) (Or.inl ⟨by rfl, ?_⟩) (by assumption) ?_
    rotate_left 1
    · intro w0 hSw
      (try dsimp only at hSw)
      go_simp
      (try with_reducible rfl)
    try simp only [Act.put, List.setIfInBounds_toArray, List.set_cons_zero, List.set_cons_succ]
    refine wpAnyH_take (i := 8) (oi := { dst := some 85, op := Op.load 42 (Operand.tmp 3), type := 42, pos := "theorems.go:73", after := #[{ on := 7, ground := Ground.guard }], guard := some (7, false) }) (v := ?_) rfl (by kernel_rfl) (by kernel_rfl) (by kernel_rfl) (fun _ _ _ h => h) (Or.inl ⟨by rfl, ?_⟩) (by assumption) ?_
    rotate_left 1
    · intro w0 hSw
      (try dsimp only at hSw)
      go_simp
      (try with_reducible rfl)
    try simp only [Act.put, List.setIfInBounds_toArray, List.set_cons_zero, List.set_cons_succ]
    refine wpAnyH_take (i := 9) (oi := { dst := some 86, op := Op.move (Operand.tmp 6), type := 3, pos := "theorems.go:73", after := #[{ on := 7, ground := Ground.guard }], guard := some (7, false) }) (v := ?_) rfl (by kernel_rfl) (by kernel_rfl) (by kernel_rfl) (fun _ _ _ h => h) (Or.inl ⟨by rfl, ?_⟩) (by assumption) ?_
    rotate_left 1
    · intro w0 hSw
      (try dsimp only at hSw)
      go_simp
      (try with_reducible rfl)
    try simp only [Act.put, List.setIfInBounds_toArray, List.set_cons_zero, List.set_cons_succ]
    refine wpAnyH_take (i := 10) (oi := { dst := some 87, op := Op.indexAddr 42 (Operand.tmp 85) (Operand.tmp 86), type := 0, pos := "theorems.go:73", after := #[{ on := 8, ground := Ground.data }, { on := 9, ground := Ground.data }, { on := 7, ground := Ground.guard }], guard := some (7, false) }) (v := ?_) rfl (by kernel_rfl) (by kernel_rfl) (by kernel_rfl) (fun _ _ _ h => h) (Or.inl ⟨by rfl, ?_⟩) (by assumption) ?_
    rotate_left 1
    · intro w0 hSw
      (try dsimp only at hSw)
      go_simp
      (try with_reducible rfl)
    try simp only [Act.put, List.setIfInBounds_toArray, List.set_cons_zero, List.set_cons_succ]
    refine wpAnyH_take (i := 11) (oi := { dst := some 88, op := Op.load 3 (Operand.tmp 87), type := 3, pos := "theorems.go:73", after := #[{ on := 10, ground := Ground.data }, { on := 7, ground := Ground.guard }], guard := some (7, false) }) (v := ?_) rfl (by kernel_rfl) (by kernel_rfl) (by kernel_rfl) (fun _ _ _ h => h) (Or.inl ⟨by rfl, ?_⟩) (by assumption) ?_
    rotate_left 1
    · intro w0 hSw
      (try dsimp only at hSw)
      go_simp
      (try with_reducible rfl)
    try simp only [Act.put, List.setIfInBounds_toArray, List.set_cons_zero, List.set_cons_succ]
    refine wpAnyH_take (i := 12) (oi := { dst := some 89, op := Op.load 41 (Operand.tmp 4), type := 41, pos := "theorems.go:73", after := #[{ on := 7, ground := Ground.guard }], guard := some (7, false) }) (v := ?_) rfl (by kernel_rfl) (by kernel_rfl) (by kernel_rfl) (fun _ _ _ h => h) (Or.inl ⟨by rfl, ?_⟩) (by assumption) ?_
    rotate_left 1
    · intro w0 hSw
      (try dsimp only at hSw)
      go_simp
      (try with_reducible rfl)
    try simp only [Act.put, List.setIfInBounds_toArray, List.set_cons_zero, List.set_cons_succ]
    refine wpAnyH_take (i := 13) (oi := { dst := some 90, op := Op.move (Operand.tmp 6), type := 3, pos := "theorems.go:73", after := #[{ on := 7, ground := Ground.guard }], guard := some (7, false) }) (v := ?_) rfl (by kernel_rfl) (by kernel_rfl) (by kernel_rfl) (fun _ _ _ h => h) (Or.inl ⟨by rfl, ?_⟩) (by assumption) ?_
    rotate_left 1
    · intro w0 hSw
      (try dsimp only at hSw)
      go_simp
      (try with_reducible rfl)
    try simp only [Act.put, List.setIfInBounds_toArray, List.set_cons_zero, List.set_cons_succ]
    refine wpAnyH_take (i := 14) (oi := { dst := some 91, op := Op.indexAddr 41 (Operand.tmp 89) (Operand.tmp 90), type := 0, pos := "theorems.go:73", after := #[{ on := 12, ground := Ground.data }, { on := 13, ground := Ground.data }, { on := 7, ground := Ground.guard }], guard := some (7, false) }) (v := ?_) rfl (by kernel_rfl) (by kernel_rfl) (by kernel_rfl) (fun _ _ _ h => h) (Or.inl ⟨by rfl, ?_⟩) (by assumption) ?_
    rotate_left 1
    · intro w0 hSw
      (try dsimp only at hSw)
      go_simp
      (try with_reducible rfl)
    try simp only [Act.put, List.setIfInBounds_toArray, List.set_cons_zero, List.set_cons_succ]
    refine wpAnyH_take (i := 15) (oi := { dst := some 92, op := Op.load 42 (Operand.tmp 91), type := 42, pos := "theorems.go:73", after := #[{ on := 14, ground := Ground.data }, { on := 7, ground := Ground.guard }], guard := some (7, false) }) (v := ?_) rfl (by kernel_rfl) (by kernel_rfl) (by kernel_rfl) (fun _ _ _ h => h) (Or.inl ⟨by rfl, ?_⟩) (by assumption) ?_
    rotate_left 1
    · intro w0 hSw
      (try dsimp only at hSw)
      go_simp
      (try with_reducible rfl)
    try simp only [Act.put, List.setIfInBounds_toArray, List.set_cons_zero, List.set_cons_succ]
    refine wpAnyH_take (i := 16) (oi := { dst := some 93, op := Op.call { callee := Callee.builtin Builtin.len, args := #[Operand.tmp 92], argTypes := #[42] }, type := 3, pos := "theorems.go:73", after := #[{ on := 15, ground := Ground.data }, { on := 7, ground := Ground.guard }], guard := some (7, false) }) (v := ?_) rfl (by kernel_rfl) (by kernel_rfl) (by kernel_rfl) (fun _ _ _ h => h) (Or.inl ⟨by rfl, ?_⟩) (by assumption) ?_
    rotate_left 1
    · intro w0 hSw
      (try dsimp only at hSw)
      go_simp
      (try with_reducible rfl)
    try simp only [Act.put, List.setIfInBounds_toArray, List.set_cons_zero, List.set_cons_succ]
    refine wpAnyH_take (i := 17) (oi := { dst := some 94, op := Op.binOp BinOp.geq 3 (Operand.tmp 88) (Operand.tmp 93) 3, type := 4, pos := "theorems.go:73", after := #[{ on := 11, ground := Ground.data }, { on := 16, ground := Ground.data }, { on := 7, ground := Ground.guard }], guard := some (7, false) }) (v := ?_) rfl (by kernel_rfl) (by kernel_rfl) (by kernel_rfl) (fun _ _ _ h => h) (Or.inl ⟨by rfl, ?_⟩) (by assumption) ?_
    rotate_left 1
    · intro w0 hSw
      (try dsimp only at hSw)
      go_simp
      (try with_reducible rfl)
    try simp only [Act.put, List.setIfInBounds_toArray, List.set_cons_zero, List.set_cons_succ]
    refine wpAnyH_take (i := 18) (oi := { dst := some 95, op := Op.pick (Operand.tmp 84) (Operand.const (Value.bool true)) (Operand.tmp 94), type := 4, pos := "theorems.go:73", after := #[{ on := 7, ground := Ground.data }, { on := 17, ground := Ground.data }], guard := none }) (v := ?_) rfl (by kernel_rfl) (by kernel_rfl) (by kernel_rfl) (fun _ _ _ h => h) (Or.inl ⟨by rfl, ?_⟩) (by assumption) ?_
    rotate_left 1
    · intro w0 hSw
      (try dsimp only at hSw)
      go_simp
      (try with_reducible rfl)
    try simp only [Act.put, List.setIfInBounds_toArray, List.set_cons_zero, List.set_cons_succ]
    refine wpAnyH_take (i := 19) (oi := { dst := some 96, op := Op.move (Operand.tmp 95), type := 4, pos := "theorems.go:73", after := #[{ on := 18, ground := Ground.data }, { on := 7, ground := Ground.chain }], guard := none }) (v := ?_) rfl (by kernel_rfl) (by kernel_rfl) (by kernel_rfl) (fun _ _ _ h => h) (Or.inl ⟨by rfl, ?_⟩) (by assumption) ?_
    rotate_left 1
    · intro w0 hSw
      (try dsimp only at hSw)
      go_simp
      (try with_reducible rfl)
    try simp only [Act.put, List.setIfInBounds_toArray, List.set_cons_zero, List.set_cons_succ]
    refine wpAnyH_take (i := 20) (oi := { dst := some 97, op := Op.load 41 (Operand.tmp 4), type := 41, pos := "theorems.go:73", after := #[{ on := 19, ground := Ground.guard }], guard := some (19, false) }) (v := ?_) rfl (by kernel_rfl) (by kernel_rfl) (by kernel_rfl) (fun _ _ _ h => h) (Or.inl ⟨by rfl, ?_⟩) (by assumption) ?_
    rotate_left 1
    · intro w0 hSw
      (try dsimp only at hSw)
      go_simp
      (try with_reducible rfl)
    try simp only [Act.put, List.setIfInBounds_toArray, List.set_cons_zero, List.set_cons_succ]
    refine wpAnyH_take (i := 21) (oi := { dst := some 98, op := Op.move (Operand.tmp 6), type := 3, pos := "theorems.go:73", after := #[{ on := 19, ground := Ground.guard }], guard := some (19, false) }) (v := ?_) rfl (by kernel_rfl) (by kernel_rfl) (by kernel_rfl) (fun _ _ _ h => h) (Or.inl ⟨by rfl, ?_⟩) (by assumption) ?_
    rotate_left 1
    · intro w0 hSw
      (try dsimp only at hSw)
      go_simp
      (try with_reducible rfl)
    try simp only [Act.put, List.setIfInBounds_toArray, List.set_cons_zero, List.set_cons_succ]
    refine wpAnyH_take (i := 22) (oi := { dst := some 99, op := Op.indexAddr 41 (Operand.tmp 97) (Operand.tmp 98), type := 0, pos := "theorems.go:73", after := #[{ on := 20, ground := Ground.data }, { on := 21, ground := Ground.data }, { on := 19, ground := Ground.guard }], guard := some (19, false) }) (v := ?_) rfl (by kernel_rfl) (by kernel_rfl) (by kernel_rfl) (fun _ _ _ h => h) (Or.inl ⟨by rfl, ?_⟩) (by assumption) ?_
    rotate_left 1
    · intro w0 hSw
      (try dsimp only at hSw)
      go_simp
      (try with_reducible rfl)
    try simp only [Act.put, List.setIfInBounds_toArray, List.set_cons_zero, List.set_cons_succ]
    refine wpAnyH_take (i := 23) (oi := { dst := some 100, op := Op.load 42 (Operand.tmp 99), type := 42, pos := "theorems.go:73", after := #[{ on := 22, ground := Ground.data }, { on := 19, ground := Ground.guard }], guard := some (19, false) }) (v := ?_) rfl (by kernel_rfl) (by kernel_rfl) (by kernel_rfl) (fun _ _ _ h => h) (Or.inl ⟨by rfl, ?_⟩) (by assumption) ?_
    rotate_left 1
    · intro w0 hSw
      (try dsimp only at hSw)
      go_simp
      (try with_reducible rfl)
    try simp only [Act.put, List.setIfInBounds_toArray, List.set_cons_zero, List.set_cons_succ]
    refine wpAnyH_take (i := 24) (oi := { dst := some 101, op := Op.load 42 (Operand.tmp 3), type := 42, pos := "theorems.go:73", after := #[{ on := 19, ground := Ground.guard }], guard := some (19, false) }) (v := ?_) rfl (by kernel_rfl) (by kernel_rfl) (by kernel_rfl) (fun _ _ _ h => h) (Or.inl ⟨by rfl, ?_⟩) (by assumption) ?_
    rotate_left 1
    · intro w0 hSw
      (try dsimp only at hSw)
      go_simp
      (try with_reducible rfl)
    try simp only [Act.put, List.setIfInBounds_toArray, List.set_cons_zero, List.set_cons_succ]
    refine wpAnyH_take (i := 25) (oi := { dst := some 102, op := Op.move (Operand.tmp 6), type := 3, pos := "theorems.go:73", after := #[{ on := 19, ground := Ground.guard }], guard := some (19, false) }) (v := ?_) rfl (by kernel_rfl) (by kernel_rfl) (by kernel_rfl) (fun _ _ _ h => h) (Or.inl ⟨by rfl, ?_⟩) (by assumption) ?_
    rotate_left 1
    · intro w0 hSw
      (try dsimp only at hSw)
      go_simp
      (try with_reducible rfl)
    try simp only [Act.put, List.setIfInBounds_toArray, List.set_cons_zero, List.set_cons_succ]
    refine wpAnyH_take (i := 26) (oi := { dst := some 103, op := Op.indexAddr 42 (Operand.tmp 101) (Operand.tmp 102), type := 0, pos := "theorems.go:73", after := #[{ on := 24, ground := Ground.data }, { on := 25, ground := Ground.data }, { on := 19, ground := Ground.guard }], guard := some (19, false) }) (v := ?_) rfl (by kernel_rfl) (by kernel_rfl) (by kernel_rfl) (fun _ _ _ h => h) (Or.inl ⟨by rfl, ?_⟩) (by assumption) ?_
    rotate_left 1
    · intro w0 hSw
      (try dsimp only at hSw)
      go_simp
      (try with_reducible rfl)
    try simp only [Act.put, List.setIfInBounds_toArray, List.set_cons_zero, List.set_cons_succ]
    refine wpAnyH_take (i := 27) (oi := { dst := some 104, op := Op.load 3 (Operand.tmp 103), type := 3, pos := "theorems.go:73", after := #[{ on := 26, ground := Ground.data }, { on := 19, ground := Ground.guard }], guard := some (19, false) }) (v := ?_) rfl (by kernel_rfl) (by kernel_rfl) (by kernel_rfl) (fun _ _ _ h => h) (Or.inl ⟨by rfl, ?_⟩) (by assumption) ?_
    rotate_left 1
    · intro w0 hSw
      (try dsimp only at hSw)
      go_simp
      (try with_reducible rfl)
    try simp only [Act.put, List.setIfInBounds_toArray, List.set_cons_zero, List.set_cons_succ]
    refine wpAnyH_take (i := 28) (oi := { dst := some 105, op := Op.indexAddr 42 (Operand.tmp 100) (Operand.tmp 104), type := 0, pos := "theorems.go:73", after := #[{ on := 23, ground := Ground.data }, { on := 27, ground := Ground.data }, { on := 19, ground := Ground.guard }], guard := some (19, false) }) (v := ?_) rfl (by kernel_rfl) (by kernel_rfl) (by kernel_rfl) (fun _ _ _ h => h) (Or.inl ⟨by rfl, ?_⟩) (by assumption) ?_
    rotate_left 1
    · intro w0 hSw
      (try dsimp only at hSw)
      go_simp
      (try with_reducible rfl)
    try simp only [Act.put, List.setIfInBounds_toArray, List.set_cons_zero, List.set_cons_succ]
    refine wpAnyH_take (i := 29) (oi := { dst := some 106, op := Op.load 3 (Operand.tmp 105), type := 3, pos := "theorems.go:73", after := #[{ on := 28, ground := Ground.data }, { on := 19, ground := Ground.guard }], guard := some (19, false) }) (v := ?_) rfl (by kernel_rfl) (by kernel_rfl) (by kernel_rfl) (fun _ _ _ h => h) (Or.inl ⟨by rfl, ?_⟩) (by assumption) ?_
    rotate_left 1
    · intro w0 hSw
      (try dsimp only at hSw)
      go_simp
      (try with_reducible rfl)
    try simp only [Act.put, List.setIfInBounds_toArray, List.set_cons_zero, List.set_cons_succ]
    refine wpAnyH_take (i := 30) (oi := { dst := some 107, op := Op.binOp BinOp.eql 3 (Operand.tmp 106) (Operand.const (Value.int IntKind.i64 0)) 3, type := 4, pos := "theorems.go:73", after := #[{ on := 29, ground := Ground.data }, { on := 19, ground := Ground.guard }], guard := some (19, false) }) (v := ?_) rfl (by kernel_rfl) (by kernel_rfl) (by kernel_rfl) (fun _ _ _ h => h) (Or.inl ⟨by rfl, ?_⟩) (by assumption) ?_
    rotate_left 1
    · intro w0 hSw
      (try dsimp only at hSw)
      go_simp
      (try with_reducible rfl)
    try simp only [Act.put, List.setIfInBounds_toArray, List.set_cons_zero, List.set_cons_succ]
    refine wpAnyH_take (i := 31) (oi := { dst := some 108, op := Op.pick (Operand.tmp 96) (Operand.const (Value.bool true)) (Operand.tmp 107), type := 4, pos := "theorems.go:73", after := #[{ on := 19, ground := Ground.data }, { on := 30, ground := Ground.data }], guard := none }) (v := ?_) rfl (by kernel_rfl) (by kernel_rfl) (by kernel_rfl) (fun _ _ _ h => h) (Or.inl ⟨by rfl, ?_⟩) (by assumption) ?_
    rotate_left 1
    · intro w0 hSw
      (try dsimp only at hSw)
      go_simp
      (try with_reducible rfl)
    try simp only [Act.put, List.setIfInBounds_toArray, List.set_cons_zero, List.set_cons_succ]
    refine wpAnyH_take (i := 32) (oi := { dst := some 109, op := Op.move (Operand.tmp 108), type := 4, pos := "theorems.go:73", after := #[{ on := 31, ground := Ground.data }, { on := 19, ground := Ground.chain }], guard := none }) (v := ?_) rfl (by kernel_rfl) (by kernel_rfl) (by kernel_rfl) (fun _ _ _ h => h) (Or.inl ⟨by rfl, ?_⟩) (by assumption) ?_
    rotate_left 1
    · intro w0 hSw
      (try dsimp only at hSw)
      go_simp
      (try with_reducible rfl)
    try simp only [Act.put, List.setIfInBounds_toArray, List.set_cons_zero, List.set_cons_succ]
    refine wpAnyH_take (i := 33) (oi := { dst := some 110, op := Op.move (Operand.tmp 8), type := 3, pos := "theorems.go:73", after := #[{ on := 32, ground := Ground.guard }], guard := some (32, false) }) (v := ?_) rfl (by kernel_rfl) (by kernel_rfl) (by kernel_rfl) (fun _ _ _ h => h) (Or.inl ⟨by rfl, ?_⟩) (by assumption) ?_
    rotate_left 1
    · intro w0 hSw
      (try dsimp only at hSw)
      go_simp
      (try with_reducible rfl)
    try simp only [Act.put, List.setIfInBounds_toArray, List.set_cons_zero, List.set_cons_succ]
    refine wpAnyH_take (i := 34) (oi := { dst := some 111, op := Op.binOp BinOp.neq 3 (Operand.tmp 110) (Operand.const (Value.int IntKind.i64 0)) 3, type := 4, pos := "theorems.go:73", after := #[{ on := 33, ground := Ground.data }, { on := 32, ground := Ground.guard }], guard := some (32, false) }) (v := ?_) rfl (by kernel_rfl) (by kernel_rfl) (by kernel_rfl) (fun _ _ _ h => h) (Or.inl ⟨by rfl, ?_⟩) (by assumption) ?_
    rotate_left 1
    · intro w0 hSw
      (try dsimp only at hSw)
      go_simp
      (try with_reducible rfl)
    try simp only [Act.put, List.setIfInBounds_toArray, List.set_cons_zero, List.set_cons_succ]
    refine wpAnyH_take (i := 35) (oi := { dst := some 112, op := Op.pick (Operand.tmp 109) (Operand.const (Value.bool true)) (Operand.tmp 111), type := 4, pos := "theorems.go:73", after := #[{ on := 32, ground := Ground.data }, { on := 34, ground := Ground.data }], guard := none }) (v := ?_) rfl (by kernel_rfl) (by kernel_rfl) (by kernel_rfl) (fun _ _ _ h => h) (Or.inl ⟨by rfl, ?_⟩) (by assumption) ?_
    rotate_left 1
    · intro w0 hSw
      (try dsimp only at hSw)
      go_simp
      (try with_reducible rfl)
    try simp only [Act.put, List.setIfInBounds_toArray, List.set_cons_zero, List.set_cons_succ]
    refine wpAnyH_take (i := 36) (oi := { dst := some 113, op := Op.move (Operand.tmp 112), type := 4, pos := "theorems.go:73", after := #[{ on := 35, ground := Ground.data }, { on := 32, ground := Ground.chain }], guard := none }) (v := ?_) rfl (by kernel_rfl) (by kernel_rfl) (by kernel_rfl) (fun _ _ _ h => h) (Or.inl ⟨by rfl, ?_⟩) (by assumption) ?_
    rotate_left 1
    · intro w0 hSw
      (try dsimp only at hSw)
      go_simp
      (try with_reducible rfl)
    try simp only [Act.put, List.setIfInBounds_toArray, List.set_cons_zero, List.set_cons_succ]
    refine wpAnyH_take (i := 37) (oi := { dst := some 114, op := Op.move (Operand.tmp 7), type := 9, pos := "theorems.go:73", after := #[{ on := 36, ground := Ground.guard }], guard := some (36, false) }) (v := ?_) rfl (by kernel_rfl) (by kernel_rfl) (by kernel_rfl) (fun _ _ _ h => h) (Or.inl ⟨by rfl, ?_⟩) (by assumption) ?_
    rotate_left 1
    · intro w0 hSw
      (try dsimp only at hSw)
      go_simp
      (try with_reducible rfl)
    try simp only [Act.put, List.setIfInBounds_toArray, List.set_cons_zero, List.set_cons_succ]
    refine wpAnyH_take (i := 38) (oi := { dst := some 115, op := Op.load 41 (Operand.tmp 4), type := 41, pos := "theorems.go:73", after := #[{ on := 36, ground := Ground.guard }], guard := some (36, false) }) (v := ?_) rfl (by kernel_rfl) (by kernel_rfl) (by kernel_rfl) (fun _ _ _ h => h) (Or.inl ⟨by rfl, ?_⟩) (by assumption) ?_
    rotate_left 1
    · intro w0 hSw
      (try dsimp only at hSw)
      go_simp
      (try with_reducible rfl)
    try simp only [Act.put, List.setIfInBounds_toArray, List.set_cons_zero, List.set_cons_succ]
    refine wpAnyH_take (i := 39) (oi := { dst := some 116, op := Op.move (Operand.tmp 6), type := 3, pos := "theorems.go:73", after := #[{ on := 36, ground := Ground.guard }], guard := some (36, false) }) (v := ?_) rfl (by kernel_rfl) (by kernel_rfl) (by kernel_rfl) (fun _ _ _ h => h) (Or.inl ⟨by rfl, ?_⟩) (by assumption) ?_
    rotate_left 1
    · intro w0 hSw
      (try dsimp only at hSw)
      go_simp
      (try with_reducible rfl)
    try simp only [Act.put, List.setIfInBounds_toArray, List.set_cons_zero, List.set_cons_succ]
    refine wpAnyH_take (i := 40) (oi := { dst := some 117, op := Op.indexAddr 41 (Operand.tmp 115) (Operand.tmp 116), type := 0, pos := "theorems.go:73", after := #[{ on := 38, ground := Ground.data }, { on := 39, ground := Ground.data }, { on := 36, ground := Ground.guard }], guard := some (36, false) }) (v := ?_) rfl (by kernel_rfl) (by kernel_rfl) (by kernel_rfl) (fun _ _ _ h => h) (Or.inl ⟨by rfl, ?_⟩) (by assumption) ?_
    rotate_left 1
    · intro w0 hSw
      (try dsimp only at hSw)
      go_simp
      (try with_reducible rfl)
    try simp only [Act.put, List.setIfInBounds_toArray, List.set_cons_zero, List.set_cons_succ]
    refine wpAnyH_take (i := 41) (oi := { dst := some 118, op := Op.load 42 (Operand.tmp 117), type := 42, pos := "theorems.go:73", after := #[{ on := 40, ground := Ground.data }, { on := 36, ground := Ground.guard }], guard := some (36, false) }) (v := ?_) rfl (by kernel_rfl) (by kernel_rfl) (by kernel_rfl) (fun _ _ _ h => h) (Or.inl ⟨by rfl, ?_⟩) (by assumption) ?_
    rotate_left 1
    · intro w0 hSw
      (try dsimp only at hSw)
      go_simp
      (try with_reducible rfl)
    try simp only [Act.put, List.setIfInBounds_toArray, List.set_cons_zero, List.set_cons_succ]
    refine wpAnyH_take (i := 42) (oi := { dst := some 119, op := Op.load 42 (Operand.tmp 3), type := 42, pos := "theorems.go:73", after := #[{ on := 36, ground := Ground.guard }], guard := some (36, false) }) (v := ?_) rfl (by kernel_rfl) (by kernel_rfl) (by kernel_rfl) (fun _ _ _ h => h) (Or.inl ⟨by rfl, ?_⟩) (by assumption) ?_
    rotate_left 1
    · intro w0 hSw
      (try dsimp only at hSw)
      go_simp
      (try with_reducible rfl)
    try simp only [Act.put, List.setIfInBounds_toArray, List.set_cons_zero, List.set_cons_succ]
    refine wpAnyH_take (i := 43) (oi := { dst := some 120, op := Op.move (Operand.tmp 6), type := 3, pos := "theorems.go:73", after := #[{ on := 36, ground := Ground.guard }], guard := some (36, false) }) (v := ?_) rfl (by kernel_rfl) (by kernel_rfl) (by kernel_rfl) (fun _ _ _ h => h) (Or.inl ⟨by rfl, ?_⟩) (by assumption) ?_
    rotate_left 1
    · intro w0 hSw
      (try dsimp only at hSw)
      go_simp
      (try with_reducible rfl)
    try simp only [Act.put, List.setIfInBounds_toArray, List.set_cons_zero, List.set_cons_succ]
    refine wpAnyH_take (i := 44) (oi := { dst := some 121, op := Op.indexAddr 42 (Operand.tmp 119) (Operand.tmp 120), type := 0, pos := "theorems.go:73", after := #[{ on := 42, ground := Ground.data }, { on := 43, ground := Ground.data }, { on := 36, ground := Ground.guard }], guard := some (36, false) }) (v := ?_) rfl (by kernel_rfl) (by kernel_rfl) (by kernel_rfl) (fun _ _ _ h => h) (Or.inl ⟨by rfl, ?_⟩) (by assumption) ?_
    rotate_left 1
    · intro w0 hSw
      (try dsimp only at hSw)
      go_simp
      (try with_reducible rfl)
    try simp only [Act.put, List.setIfInBounds_toArray, List.set_cons_zero, List.set_cons_succ]
    refine wpAnyH_take (i := 45) (oi := { dst := some 122, op := Op.load 3 (Operand.tmp 121), type := 3, pos := "theorems.go:73", after := #[{ on := 44, ground := Ground.data }, { on := 36, ground := Ground.guard }], guard := some (36, false) }) (v := ?_) rfl (by kernel_rfl) (by kernel_rfl) (by kernel_rfl) (fun _ _ _ h => h) (Or.inl ⟨by rfl, ?_⟩) (by assumption) ?_
    rotate_left 1
    · intro w0 hSw
      (try dsimp only at hSw)
      go_simp
      (try with_reducible rfl)
    try simp only [Act.put, List.setIfInBounds_toArray, List.set_cons_zero, List.set_cons_succ]
    refine wpAnyH_take (i := 46) (oi := { dst := some 123, op := Op.indexAddr 42 (Operand.tmp 118) (Operand.tmp 122), type := 0, pos := "theorems.go:73", after := #[{ on := 41, ground := Ground.data }, { on := 45, ground := Ground.data }, { on := 36, ground := Ground.guard }], guard := some (36, false) }) (v := ?_) rfl (by kernel_rfl) (by kernel_rfl) (by kernel_rfl) (fun _ _ _ h => h) (Or.inl ⟨by rfl, ?_⟩) (by assumption) ?_
    rotate_left 1
    · intro w0 hSw
      (try dsimp only at hSw)
      go_simp
      (try with_reducible rfl)
    try simp only [Act.put, List.setIfInBounds_toArray, List.set_cons_zero, List.set_cons_succ]
    refine wpAnyH_take (i := 47) (oi := { dst := some 124, op := Op.load 3 (Operand.tmp 123), type := 3, pos := "theorems.go:73", after := #[{ on := 46, ground := Ground.data }, { on := 36, ground := Ground.guard }], guard := some (36, false) }) (v := ?_) rfl (by kernel_rfl) (by kernel_rfl) (by kernel_rfl) (fun _ _ _ h => h) (Or.inl ⟨by rfl, ?_⟩) (by assumption) ?_
    rotate_left 1
    · intro w0 hSw
      (try dsimp only at hSw)
      go_simp
      (try with_reducible rfl)
    try simp only [Act.put, List.setIfInBounds_toArray, List.set_cons_zero, List.set_cons_succ]
    refine wpAnyH_take (i := 48) (oi := { dst := some 125, op := Op.convert 3 5 (Operand.tmp 124), type := 5, pos := "theorems.go:73", after := #[{ on := 47, ground := Ground.data }, { on := 36, ground := Ground.guard }], guard := some (36, false) }) (v := ?_) rfl (by kernel_rfl) (by kernel_rfl) (by kernel_rfl) (fun _ _ _ h => h) (Or.inl ⟨by rfl, ?_⟩) (by assumption) ?_
    rotate_left 1
    · intro w0 hSw
      (try dsimp only at hSw)
      go_simp
      (try with_reducible rfl)
    try simp only [Act.put, List.setIfInBounds_toArray, List.set_cons_zero, List.set_cons_succ]
    refine wpAnyH_take (i := 49) (oi := { dst := some 126, op := Op.load 41 (Operand.tmp 4), type := 41, pos := "theorems.go:73", after := #[{ on := 36, ground := Ground.guard }], guard := some (36, false) }) (v := ?_) rfl (by kernel_rfl) (by kernel_rfl) (by kernel_rfl) (fun _ _ _ h => h) (Or.inl ⟨by rfl, ?_⟩) (by assumption) ?_
    rotate_left 1
    · intro w0 hSw
      (try dsimp only at hSw)
      go_simp
      (try with_reducible rfl)
    try simp only [Act.put, List.setIfInBounds_toArray, List.set_cons_zero, List.set_cons_succ]
    refine wpAnyH_take (i := 50) (oi := { dst := some 127, op := Op.move (Operand.tmp 6), type := 3, pos := "theorems.go:73", after := #[{ on := 36, ground := Ground.guard }], guard := some (36, false) }) (v := ?_) rfl (by kernel_rfl) (by kernel_rfl) (by kernel_rfl) (fun _ _ _ h => h) (Or.inl ⟨by rfl, ?_⟩) (by assumption) ?_
    rotate_left 1
    · intro w0 hSw
      (try dsimp only at hSw)
      go_simp
      (try with_reducible rfl)
    try simp only [Act.put, List.setIfInBounds_toArray, List.set_cons_zero, List.set_cons_succ]
    refine wpAnyH_take (i := 51) (oi := { dst := some 128, op := Op.indexAddr 41 (Operand.tmp 126) (Operand.tmp 127), type := 0, pos := "theorems.go:73", after := #[{ on := 49, ground := Ground.data }, { on := 50, ground := Ground.data }, { on := 36, ground := Ground.guard }], guard := some (36, false) }) (v := ?_) rfl (by kernel_rfl) (by kernel_rfl) (by kernel_rfl) (fun _ _ _ h => h) (Or.inl ⟨by rfl, ?_⟩) (by assumption) ?_
    rotate_left 1
    · intro w0 hSw
      (try dsimp only at hSw)
      go_simp
      (try with_reducible rfl)
    try simp only [Act.put, List.setIfInBounds_toArray, List.set_cons_zero, List.set_cons_succ]
    refine wpAnyH_take (i := 52) (oi := { dst := some 129, op := Op.load 42 (Operand.tmp 128), type := 42, pos := "theorems.go:73", after := #[{ on := 51, ground := Ground.data }, { on := 36, ground := Ground.guard }], guard := some (36, false) }) (v := ?_) rfl (by kernel_rfl) (by kernel_rfl) (by kernel_rfl) (fun _ _ _ h => h) (Or.inl ⟨by rfl, ?_⟩) (by assumption) ?_
    rotate_left 1
    · intro w0 hSw
      (try dsimp only at hSw)
      go_simp
      (try with_reducible rfl)
    try simp only [Act.put, List.setIfInBounds_toArray, List.set_cons_zero, List.set_cons_succ]
    refine wpAnyH_take (i := 53) (oi := { dst := some 130, op := Op.load 42 (Operand.tmp 3), type := 42, pos := "theorems.go:73", after := #[{ on := 36, ground := Ground.guard }], guard := some (36, false) }) (v := ?_) rfl (by kernel_rfl) (by kernel_rfl) (by kernel_rfl) (fun _ _ _ h => h) (Or.inl ⟨by rfl, ?_⟩) (by assumption) ?_
    rotate_left 1
    · intro w0 hSw
      (try dsimp only at hSw)
      go_simp
      (try with_reducible rfl)
    try simp only [Act.put, List.setIfInBounds_toArray, List.set_cons_zero, List.set_cons_succ]
    refine wpAnyH_take (i := 54) (oi := { dst := some 131, op := Op.move (Operand.tmp 6), type := 3, pos := "theorems.go:73", after := #[{ on := 36, ground := Ground.guard }], guard := some (36, false) }) (v := ?_) rfl (by kernel_rfl) (by kernel_rfl) (by kernel_rfl) (fun _ _ _ h => h) (Or.inl ⟨by rfl, ?_⟩) (by assumption) ?_
    rotate_left 1
    · intro w0 hSw
      (try dsimp only at hSw)
      go_simp
      (try with_reducible rfl)
    try simp only [Act.put, List.setIfInBounds_toArray, List.set_cons_zero, List.set_cons_succ]
    refine wpAnyH_take (i := 55) (oi := { dst := some 132, op := Op.indexAddr 42 (Operand.tmp 130) (Operand.tmp 131), type := 0, pos := "theorems.go:73", after := #[{ on := 53, ground := Ground.data }, { on := 54, ground := Ground.data }, { on := 36, ground := Ground.guard }], guard := some (36, false) }) (v := ?_) rfl (by kernel_rfl) (by kernel_rfl) (by kernel_rfl) (fun _ _ _ h => h) (Or.inl ⟨by rfl, ?_⟩) (by assumption) ?_
    rotate_left 1
    · intro w0 hSw
      (try dsimp only at hSw)
      go_simp
      (try with_reducible rfl)
    try simp only [Act.put, List.setIfInBounds_toArray, List.set_cons_zero, List.set_cons_succ]
    refine wpAnyH_take (i := 56) (oi := { dst := some 133, op := Op.load 3 (Operand.tmp 132), type := 3, pos := "theorems.go:73", after := #[{ on := 55, ground := Ground.data }, { on := 36, ground := Ground.guard }], guard := some (36, false) }) (v := ?_) rfl (by kernel_rfl) (by kernel_rfl) (by kernel_rfl) (fun _ _ _ h => h) (Or.inl ⟨by rfl, ?_⟩) (by assumption) ?_
    rotate_left 1
    · intro w0 hSw
      (try dsimp only at hSw)
      go_simp
      (try with_reducible rfl)
    try simp only [Act.put, List.setIfInBounds_toArray, List.set_cons_zero, List.set_cons_succ]
    refine wpAnyH_take (i := 57) (oi := { dst := some 134, op := Op.indexAddr 42 (Operand.tmp 129) (Operand.tmp 133), type := 0, pos := "theorems.go:73", after := #[{ on := 52, ground := Ground.data }, { on := 56, ground := Ground.data }, { on := 36, ground := Ground.guard }], guard := some (36, false) }) (v := ?_) rfl (by kernel_rfl) (by kernel_rfl) (by kernel_rfl) (fun _ _ _ h => h) (Or.inl ⟨by rfl, ?_⟩) (by assumption) ?_
    rotate_left 1
    · intro w0 hSw
      (try dsimp only at hSw)
      go_simp
      (try with_reducible rfl)
    try simp only [Act.put, List.setIfInBounds_toArray, List.set_cons_zero, List.set_cons_succ]
    refine wpAnyH_take (i := 58) (oi := { dst := some 135, op := Op.load 3 (Operand.tmp 134), type := 3, pos := "theorems.go:73", after := #[{ on := 57, ground := Ground.data }, { on := 36, ground := Ground.guard }], guard := some (36, false) }) (v := ?_) rfl (by kernel_rfl) (by kernel_rfl) (by kernel_rfl) (fun _ _ _ h => h) (Or.inl ⟨by rfl, ?_⟩) (by assumption) ?_
    rotate_left 1
    · intro w0 hSw
      (try dsimp only at hSw)
      go_simp
      (try with_reducible rfl)
    try simp only [Act.put, List.setIfInBounds_toArray, List.set_cons_zero, List.set_cons_succ]
    refine wpAnyH_take (i := 59) (oi := { dst := some 136, op := Op.binOp BinOp.shr 3 (Operand.tmp 135) (Operand.const (Value.int IntKind.u64 8)) 45, type := 3, pos := "theorems.go:73", after := #[{ on := 58, ground := Ground.data }, { on := 36, ground := Ground.guard }], guard := some (36, false) }) (v := ?_) rfl (by kernel_rfl) (by kernel_rfl) (by kernel_rfl) (fun _ _ _ h => h) (Or.inl ⟨by rfl, ?_⟩) (by assumption) ?_
    rotate_left 1
    · intro w0 hSw
      (try dsimp only at hSw)
      go_simp
      (try with_reducible rfl)
    try simp only [Act.put, List.setIfInBounds_toArray, List.set_cons_zero, List.set_cons_succ]
    refine wpAnyH_take (i := 60) (oi := { dst := some 137, op := Op.convert 3 5 (Operand.tmp 136), type := 5, pos := "theorems.go:73", after := #[{ on := 59, ground := Ground.data }, { on := 36, ground := Ground.guard }], guard := some (36, false) }) (v := ?_) rfl (by kernel_rfl) (by kernel_rfl) (by kernel_rfl) (fun _ _ _ h => h) (Or.inl ⟨by rfl, ?_⟩) (by assumption) ?_
    rotate_left 1
    · intro w0 hSw
      (try dsimp only at hSw)
      go_simp
      (try with_reducible rfl)
    try simp only [Act.put, List.setIfInBounds_toArray, List.set_cons_zero, List.set_cons_succ]
    refine wpAnyH_ready (rs := [61]) (by kernel_rfl) (by simp) ?_
    refine AllReadyH.cons (o := { dst := some 138, op := Op.buildSlice 46 2 #[(0, Operand.tmp 125), (1, Operand.tmp 137)], type := 46, pos := "theorems.go:73", after := #[{ on := 48, ground := Ground.data }, { on := 60, ground := Ground.data }, { on := 36, ground := Ground.guard }], guard := some (36, false) }) rfl (fun K hK => ?_) (AllReadyH.nil)
    go_simp
    refine hK.out _ _ (by first | exact unhide HS _ ((Kp.drew _).trans (Kp.alloc _ _) (by simp)) | exact unhide HS _ ((Kp.alloc _ _).trans (Kp.drew _) (by simp))) (fun hHeld2 => ?_)
    clear hK K
    try simp only [Act.put, List.setIfInBounds_toArray, List.set_cons_zero, List.set_cons_succ]
    have hUp : (fun W : World => (W.cell? ⟨K.q8, 0, none⟩ = some (.slice (some ⟨K.go, 0, none⟩) n n) ∧ W.cell? ⟨K.q7, 0, none⟩ = some (.slice (some ⟨K.gi, 0, none⟩) n n) ∧ W.cell? ⟨K.q2, 0, none⟩ = some (.int .i64 (n : Int)) ∧ W.cell? ⟨K.go, k, none⟩ = some (.int .i64 (ok : Int)) ∧ W.cell? ⟨K.gi, k, none⟩ = some (.slice (some ⟨g, 0, none⟩) il cap) ∧ W.cell? ⟨g, ok, none⟩ = some (.int .i64 (m : Int))) ∧ (convert 46 9 (.slice (some ⟨w1.heap.size, 0, none⟩) 2 2)).run Try.prog W = .ok (.string tx) W) (w1.alloc (.cells #[.int .u8 (u1 : Int), .int .u8 (u2 : Int)] 5)).drew := ⟨hHeld2, CV w1⟩
    refine wpAnyH_up (S' := fun W => (W.cell? ⟨K.q8, 0, none⟩ = some (.slice (some ⟨K.go, 0, none⟩) n n) ∧ W.cell? ⟨K.q7, 0, none⟩ = some (.slice (some ⟨K.gi, 0, none⟩) n n) ∧ W.cell? ⟨K.q2, 0, none⟩ = some (.int .i64 (n : Int)) ∧ W.cell? ⟨K.go, k, none⟩ = some (.int .i64 (ok : Int)) ∧ W.cell? ⟨K.gi, k, none⟩ = some (.slice (some ⟨g, 0, none⟩) il cap) ∧ W.cell? ⟨g, ok, none⟩ = some (.int .i64 (m : Int))) ∧ (convert 46 9 (.slice (some ⟨w1.heap.size, 0, none⟩) 2 2)).run Try.prog W = .ok (.string tx) W) (fun _ h => h.1) _ _ _ _ ?_
    refine wpAnyH_take (i := 62) (oi := { dst := some 139, op := Op.convert 46 9 (Operand.tmp 138), type := 9, pos := "theorems.go:73", after := #[{ on := 61, ground := Ground.data }, { on := 36, ground := Ground.guard }], guard := some (36, false) }) (v := ?_) rfl (by kernel_rfl) (by kernel_rfl) (by kernel_rfl) (fun _ _ _ h => h) (Or.inl ⟨by rfl, ?_⟩) (by assumption) ?_
    rotate_left 1
    · intro w0 hSw
      (try dsimp only at hSw)
      go_simp
      (try with_reducible rfl)
    try simp only [Act.put, List.setIfInBounds_toArray, List.set_cons_zero, List.set_cons_succ]
    refine wpAnyH_take (i := 63) (oi := { dst := some 140, op := Op.binOp BinOp.neq 9 (Operand.tmp 114) (Operand.tmp 139) 9, type := 4, pos := "theorems.go:73", after := #[{ on := 37, ground := Ground.data }, { on := 62, ground := Ground.data }, { on := 36, ground := Ground.guard }], guard := some (36, false) }) (v := ?_) rfl (by kernel_rfl) (by kernel_rfl) (by kernel_rfl) (fun _ _ _ h => h) (Or.inl ⟨by rfl, ?_⟩) (by assumption) ?_
    rotate_left 1
    · intro w0 hSw
      (try dsimp only at hSw)
      go_simp
      (try with_reducible rfl)
    try simp only [Act.put, List.setIfInBounds_toArray, List.set_cons_zero, List.set_cons_succ]
    refine wpAnyH_take (i := 64) (oi := { dst := some 141, op := Op.pick (Operand.tmp 113) (Operand.const (Value.bool true)) (Operand.tmp 140), type := 4, pos := "theorems.go:73", after := #[{ on := 36, ground := Ground.data }, { on := 63, ground := Ground.data }], guard := none }) (v := ?_) rfl (by kernel_rfl) (by kernel_rfl) (by kernel_rfl) (fun _ _ _ h => h) (Or.inl ⟨by rfl, ?_⟩) (by assumption) ?_
    rotate_left 1
    · intro w0 hSw
      (try dsimp only at hSw)
      go_simp
      (try with_reducible rfl)
    try simp only [Act.put, List.setIfInBounds_toArray, List.set_cons_zero, List.set_cons_succ]
    refine wpAnyH_done (by kernel_rfl) ?_ _
    go_upto_region 18 with fail
    generalize hWW : (w1.alloc _).drew = w3
    have kq : Kp [] w1 w3 := hWW ▸ (Kp.alloc _ _).trans (Kp.drew _) (by simp)
    obtain ⟨s1, s2, s3, s4⟩ := unhide HK3 w3 kq
    have HN : Hid (Pst w0 (w3.setCell ⟨K.go, k, none⟩ (.int .i64 ((ok : Int) + 1))) K b L n G I O Z told vs Bq) := hide (by
      rw [← unhide HOK] at s4 ⊢
      exact Or.inr ⟨upO O k, told, unhide HLT, s4, unhide HAL⟩)
    clear hWW kq s4 HK3
    go_wp2
    go_ret
    exact ⟨rfl, unhide HN⟩
end Go.Proofs.Ytcgmoadahdkbbaa
