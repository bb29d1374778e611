/-
  A slice of structs that comes in as an argument: they lie where it says.
  Two nets beside one another: an act of both.
-/
import Derived.Test.YtledoopfffhigaaT01
import Derived.Test.YtledoopfffhigaaProg
import Derived.ProofKit
import Derived.OpenShut
import Derived.Deep.Slices
import Derived.Test.YtledoopfffhigaaT14
namespace Go.Proofs.Ytledoopfffhigaa
open Go.RowKit Go.Deep

/-- One of them. -/
structure A18 where
  k : Int
  f : Int
  t : Int
  i : Int
  b : ByteArray
def A18.ok (a : A18) : Prop := (-9223372036854775808 ≤ a.k ∧ a.k ≤ 9223372036854775807) ∧ (-9223372036854775808 ≤ a.f ∧ a.f ≤ 9223372036854775807) ∧ (-9223372036854775808 ≤ a.t ∧ a.t ≤ 9223372036854775807) ∧ (-9223372036854775808 ≤ a.i ∧ a.i ≤ 9223372036854775807) ∧ a.b.size ≤ 9223372036854775807
def A18At (w : World) (ad : Option Addr) (l : List A18) : Prop :=
  l ≠ [] → ∃ b off, ad = some ⟨b, off, none⟩ ∧ b < w.heap.size ∧ ∀ i (h : i < l.length), w.cell? ⟨b, off + i * 5, none⟩ = some (.int .i64 l[i].k) ∧ w.cell? ⟨b, off + i * 5 + 1, none⟩ = some (.int .i64 l[i].f) ∧ w.cell? ⟨b, off + i * 5 + 2, none⟩ = some (.int .i64 l[i].t) ∧ w.cell? ⟨b, off + i * 5 + 3, none⟩ = some (.int .i64 l[i].i) ∧ w.cell? ⟨b, off + i * 5 + 4, none⟩ = some (.string l[i].b)
theorem A18At.kp {w w' : World} {ad : Option Addr} {l : List A18} (h : A18At w ad l) (hk : Kp [] w w') : A18At w' ad l := fun hl => by
  obtain ⟨b, off, e, hlt, hc⟩ := h hl
  refine ⟨b, off, e, Nat.lt_of_lt_of_le hlt hk.size, fun i hi => ?_⟩
  obtain ⟨c0, c1, c2, c3, c4⟩ := hc i hi
  exact ⟨hk.cell c0 (by simp), hk.cell c1 (by simp), hk.cell c2 (by simp), hk.cell c3 (by simp), hk.cell c4 (by simp)⟩
theorem A18At.at {w : World} {ad : Option Addr} {l : List A18} (h : A18At w ad l) (i : Nat) (hi : i < l.length) : ∃ b off, ad = some ⟨b, off, none⟩ ∧ b < w.heap.size ∧ w.cell? ⟨b, off + i * 5, none⟩ = some (.int .i64 l[i].k) ∧ w.cell? ⟨b, off + i * 5 + 1, none⟩ = some (.int .i64 l[i].f) ∧ w.cell? ⟨b, off + i * 5 + 2, none⟩ = some (.int .i64 l[i].t) ∧ w.cell? ⟨b, off + i * 5 + 3, none⟩ = some (.int .i64 l[i].i) ∧ w.cell? ⟨b, off + i * 5 + 4, none⟩ = some (.string l[i].b) := by
  obtain ⟨b, off, e, hlt, hc⟩ := h (by intro e; subst e; simp at hi)
  exact ⟨b, off, e, hlt, hc i hi⟩
theorem open_acts18_cells : Try.prog.cellsOf 32 = 5 := by kernel_rfl
theorem open_acts18_cells_int : Try.prog.cellsOf 3 = 1 := by kernel_rfl
theorem open_acts18_cells_string : Try.prog.cellsOf 9 = 1 := by kernel_rfl
theorem open_acts18_fields : ∃ f0 f1 f2 f3 f4 : Field, Try.prog.underlying 32 = some (.struct #[f0, f1, f2, f3, f4]) ∧ f0.type = 3 ∧ f1.type = 3 ∧ f2.type = 3 ∧ f3.type = 3 ∧ f4.type = 9 ∧ f0.offset = 0 ∧ f1.offset = 1 ∧ f2.offset = 2 ∧ f3.offset = 3 ∧ f4.offset = 4 :=
  ⟨_, _, _, _, _, Try.underlying32, rfl, rfl, rfl, rfl, rfl, rfl, rfl, rfl, rfl, rfl⟩
theorem open_acts18_list {α : Type} : ∀ (l : List α), l.length = 5 → ∃ x0 x1 x2 x3 x4, l = [x0, x1, x2, x3, x4]
  | [x0, x1, x2, x3, x4], _ => ⟨x0, x1, x2, x3, x4, rfl⟩
set_option maxRecDepth 100000 in
theorem open_acts18 {H : Type} {enc : TypeId × Value → H} {W : World} {spare : Nat → Bool} {held : Bool} {fuel : Nat} {v : Value} {x : DataW H × List MemPlace}
    (h : DataW.trod enc Try.prog W 0 spare held fuel 22 [v] = some x) :
    ∃ (ad : Option Addr) (cap : Nat) (l : List A18), v = .slice ad l.length cap ∧ l.length ≤ 9223372036854775807 ∧ A18At W ad l ∧ ∀ y ∈ l, y.ok := by
  obtain ⟨f0, f1, f2, f3, f4, hu, t0, t1, t2, t3, t4, o0, o1, o2, o3, o4⟩ := open_acts18_fields
  rcases open_slice Try.underlying22 h with ⟨hcs, _⟩ | ⟨a, len, cap, m, n, D, Pl, hcs, hb, hl, hm, hmm, _, hx⟩
  · simp only [List.cons.injEq, and_true] at hcs
    subst hcs
    exact ⟨none, 0, [], rfl, by simp, fun hne => absurd rfl hne, by simp⟩
  · simp only [List.cons.injEq, and_true] at hcs
    subst hcs
    have hlm : len ≤ m := by rw [hmm]; split <;> omega
    have each : ∀ i, i < len → ∃ y : A18, W.cell? (a.add (i * 5)) = some (.int .i64 y.k) ∧ W.cell? (a.add (i * 5 + 1)) = some (.int .i64 y.f) ∧ W.cell? (a.add (i * 5 + 2)) = some (.int .i64 y.t) ∧ W.cell? (a.add (i * 5 + 3)) = some (.int .i64 y.i) ∧ W.cell? (a.add (i * 5 + 4)) = some (.string y.b) ∧ y.ok := by
      intro i hi
      obtain ⟨cs', h1, h2⟩ := hx i (by omega)
      rw [open_acts18_cells] at h1
      obtain ⟨_, hlen, hcell⟩ := World.cells?_some h1
      obtain ⟨xs, k, hk, hxy, _, hxl, hf⟩ := DataW.trod_struct hu h2
      obtain ⟨y0, y1, y2, y3, y4, rfl⟩ := open_acts18_list xs hxl
      obtain ⟨v0, v1, v2, v3, v4, rfl⟩ := open_acts18_list cs' hlen
      have g0 := hf 0 f0 rfl
      have g1 := hf 1 f1 rfl
      have g2 := hf 2 f2 rfl
      have g3 := hf 3 f3 rfl
      have g4 := hf 4 f4 rfl
      simp [o0, o1, o2, o3, o4, t0, t1, t2, t3, t4, open_acts18_cells_int, open_acts18_cells_string] at g0 g1 g2 g3 g4
      have e0 := hcell 0 (by omega)
      have e1 := hcell 1 (by omega)
      have e2 := hcell 2 (by omega)
      have e3 := hcell 3 (by omega)
      have e4 := hcell 4 (by omega)
      rw [Go.Deep.add_add] at e0 e1 e2 e3 e4
      obtain ⟨k0, q0, _, wf0⟩ := DataW.trod_int Try.underlying3 g0
      obtain ⟨k1, q1, _, wf1⟩ := DataW.trod_int Try.underlying3 g1
      obtain ⟨k2, q2, _, wf2⟩ := DataW.trod_int Try.underlying3 g2
      obtain ⟨k3, q3, _, wf3⟩ := DataW.trod_int Try.underlying3 g3
      obtain ⟨k4, q4, _, wf4⟩ := DataW.trod_string Try.underlying9 g4
      simp only [List.cons.injEq, and_true] at q0 q1 q2 q3 q4
      subst q0 q1 q2 q3 q4
      have b0 := bounds_i64 wf0
      have b1 := bounds_i64 wf1
      have b2 := bounds_i64 wf2
      have b3 := bounds_i64 wf3
      unfold maxLen at wf4
      exact ⟨⟨k0, k1, k2, k3, k4⟩, by simpa using e0, by simpa using e1, by simpa using e2, by simpa using e3, by simpa using e4, ⟨b0.1, by show k0 ≤ _; omega⟩, ⟨b1.1, by show k1 ≤ _; omega⟩, ⟨b2.1, by show k2 ≤ _; omega⟩, ⟨b3.1, by show k3 ≤ _; omega⟩, by show k4.size ≤ _; omega⟩
    have hinh : Inhabited A18 := ⟨⟨0, 0, 0, 0, ⟨#[]⟩⟩⟩
    obtain ⟨q, hq⟩ := choose_lt each
    refine ⟨some a, cap, (List.range len).map q, by simp, by simp; unfold maxLen at hm; omega, fun hne => ?_, fun y hy => ?_⟩
    · have h0 : 0 < len := by
        rcases Nat.eq_zero_or_pos len with e | e
        · subst e; simp at hne
        · exact e
      obtain ⟨b, off, spot⟩ := a
      have hc0 := (hq 0 h0).1
      have hspot : spot = none := by simpa [Addr.add] using World.cell?_spot hc0
      subst hspot
      refine ⟨b, off, rfl, ?_, fun i hi => ?_⟩
      · rcases Nat.lt_or_ge b W.heap.size with hlt | hge
        · exact hlt
        · exfalso
          rw [Go.WideShapes.add_plain] at hc0
          simp [World.cell?, Array.getElem?_eq_none hge] at hc0
      · have hi' : i < len := by simpa using hi
        obtain ⟨c0, c1, c2, c3, c4, _⟩ := hq i hi'
        rw [Go.WideShapes.add_plain] at c0 c1 c2 c3 c4
        simp only [List.getElem_map, List.getElem_range]
        exact ⟨c0, by rw [Nat.add_assoc]; exact c1, by rw [Nat.add_assoc]; exact c2, by rw [Nat.add_assoc]; exact c3, by rw [Nat.add_assoc]; exact c4⟩
    · obtain ⟨i, hi, rfl⟩ := List.mem_map.1 hy
      exact (hq i (List.mem_range.1 hi)).2.2.2.2.2
end Go.Proofs.Ytledoopfffhigaa
namespace Go.Proofs.Ytledoopfffhigaa
open Go.RowKit Nt

theorem Ks.monoT {B : Nat} {T T' : List Nat} {w w' : World} (h : Ks B T w w') (hT : ∀ t ∈ T, t ∈ T') : Ks B T' w w' := ⟨h.os, h.tape, h.output, h.size, fun k hk hn => h.block k hk (hn.imp_right fun h1 cur t f hc ht => h1 cur t f hc (hT t ht))⟩
theorem CBox.ks {g : Nat} {cs : Array Value} {t : TypeId} {B : Nat} {T : List Nat} {w w' : World} (h : CBox g cs t w) (hk : Ks B T w w') (hT : t ∉ T) : CBox g cs t w' := by
  have h0 := h
  unfold CBox at h0
  have hlt := (Array.getElem?_eq_some_iff.1 h0).1
  unfold CBox
  rw [hk.block g hlt (Or.inr fun cur u f hc hu => ?_)]
  · exact h0
  · rw [h0] at hc
    injection hc with e; injection e with _ e
    subst e
    exact hT hu
def bothT : List Nat := ntT ++ rnT
/-- Both nets. -/
structure Bo (B : Nat) (b g : Nat) (s : St) (M : Int) (w : World) : Prop where
  nt : NtAt B w b s
  rn : RnAt B w g s
  ok : Ok M s
theorem nt_dj : ∀ t ∈ rnT, t ∉ ntT := by decide
theorem rn_dj : ∀ t ∈ ntT, t ∉ rnT3 := by decide
theorem Bo.al {B b g : Nat} {s : St} {M : Int} {w w' : World} (h : Bo B b g s M w) (hk : Kp [] w w') : Bo B b g s M w' := by
  obtain ⟨⟨q, vs, h1, h2⟩, ⟨q', vs', h3, h4⟩, ok⟩ := h
  exact ⟨(nt_same h1 h2 hk).1, ⟨q', vs', h3.kp hk, h4⟩, ok⟩
/-- One call, then the other. -/
theorem Bo.both {B b g : Nat} {s s' : St} {M M' : Int} {w w1 w2 : World} (h : Bo B b g s M w) (h1 : NtAt B w1 b s') (k1 : Ks B ntT w w1) (h2 : RnAt B w1 g s → RnAt B w2 g s' ∧ Ks B rnT w1 w2) (ok : Ok M' s') : Bo B b g s' M' w2 ∧ Ks B bothT w w2 := by
  obtain ⟨a1, a2⟩ := h2 (h.rn.ks k1 rn_dj)
  exact ⟨⟨h1.ks a2 nt_dj, a1, ok⟩, (k1.monoT (fun t ht => List.mem_append.2 (Or.inl ht))).trans (a2.monoT (fun t ht => List.mem_append.2 (Or.inr ht)))⟩
/-- The net behind an act. -/
def nx (z f t i : Int) (b : ByteArray) (s : St) : St := if z = 0 then seS s f t b else if z = 1 then off s t i 3 else if z = 2 then off s t i 1 else if z = 3 then coS s t i else if z = 4 then clS s t else s
theorem nx_ok {M : Int} {s : St} (h : Ok M s) (z f t i : Int) (b : ByteArray) : Ok (M + 69632) (nx z f t i b s) := by
  unfold nx
  split
  · exact (h.see f t b).mono (by omega)
  · split
    · exact (h.off t i 3).mono (by omega)
    · split
      · exact (h.off t i 1).mono (by omega)
      · split
        · exact (h.co t i).mono (by omega)
        · split
          · exact h.cl t
          · exact h.mono (by omega)
theorem eqstr (d : Nat) (a : ByteArray) (w : World) : (Op.equalIn (d + 1) 9 (.string a) (.string a)).run Try.prog w = .ok true w := by
  have := run_equalIn_string (P := Try.prog) w d 9 a a Try.underlying9
  simpa using this
set_option maxHeartbeats 8000000 in
set_option maxRecDepth 100000 in
theorem nstep18_any (B b g : Nat) (s : St) (M : Int) (k f t i : Int) (x : ByteArray) (w : World) (h : Bo B b g s M w) (hM : M ≤ 1152921504606846976) (hx : x.size ≤ 9223372036854775807) :
    Calls Try.prog 9 #[.pointer (some ⟨b, 0, none⟩), .pointer (some ⟨g, 0, none⟩), .agg #[.int .i64 k, .int .i64 f, .int .i64 t, .int .i64 i, .string x]] w fun e w' => e = .returned (.bool true) ∧ Bo B b g (nx (k % 6) f t i x s) (M + 69632) w' ∧ Ks B bothT w w' := by
  have hz0 : 0 ≤ k % 6 := Int.emod_nonneg _ (by decide)
  have hz1 : k % 6 < 6 := Int.emod_lt_of_pos _ (by decide)
  have AM := hide (fun W => nAmong_any k 6 W (by decide) (by decide))
  obtain ⟨z, hzk⟩ : ∃ z, k % 6 = z := ⟨_, rfl⟩
  rw [hzk] at AM hz0 hz1 ⊢
  clear hzk
  have HOK := hide (nx_ok h.ok z f t i x)
  obtain ⟨S2, hS2⟩ : ∃ S2, nx z f t i x s = S2 := ⟨_, rfl⟩
  rw [hS2]
  have HS2 := hide hS2
  clear hS2
  obtain ⟨V, hV⟩ : ∃ V, V = w.alloc (.cells #[.int .i64 k, .int .i64 f, .int .i64 t, .int .i64 i, .string x] 32) := ⟨_, rfl⟩
  have kV : Kp [] w V := by rw [hV]; exact Kp.alloc _ _
  have bV : CBox w.heap.size #[.int .i64 k, .int .i64 f, .int .i64 t, .int .i64 i, .string x] 32 V := by rw [hV]; exact CBox.new _ _ _
  have HB := hide (h.al kV)
  have KV : Hid (Ks B bothT w V) := hide (Ks.nil kV)
  have BV := hide bV
  have ok := h.ok
  have SE := hide (fun W (a : NtAt B W b s) => nsend_any B b s f t x W M a ok (by omega) hx)
  have RSE := hide (fun W (a : RnAt B W g s) => rsend_any B g s f t x W M a ok (by omega))
  have TA := hide (fun W (a : NtAt B W b s) => ntake_any B b s t i W M a ok (by omega))
  have RTA := hide (fun W (a : RnAt B W g s) => rtake_any B g s t i W M a ok (by omega))
  have LO := hide (fun W (a : NtAt B W b s) => nlose_any B b s t i W M a ok (by omega))
  have RLO := hide (fun W (a : RnAt B W g s) => rlose_any B g s t i W M a ok (by omega))
  have CO := hide (fun W (a : NtAt B W b s) => ncopy_any B b s t i W M a ok (by omega))
  have RCO := hide (fun W (a : RnAt B W g s) => rcopy_any B g s t i W M a ok (by omega))
  have CL := hide (fun W (a : NtAt B W b s) => nclear_any B b s t W M a ok (by omega))
  have RCL := hide (fun W (a : RnAt B W g s) => rclear_any B g s t W M a ok (by omega))
  have WY := hide (fun W (a : NtAt B W b s) => a.elim fun q a => a.elim fun vs a => nway_any b q vs s t W a.1)
  have RWY := hide (fun W (a : RnAt B W g s) => a.elim fun q a => a.elim fun vs a => rway_any g q vs s t W a.1)
  have b0 := bV.cell (i := 0) rfl
  have b1 := bV.cell (i := 1) rfl
  have b2 := bV.cell (i := 2) rfl
  have b3 := bV.cell (i := 3) rfl
  have b4 := bV.cell (i := 4) rfl
  clear h kV bV ok
  go_enter Try.func9, Try.ntmps9
  go_upto_region 1 with fail
  rw [← hV]
  clear hV
  go_wp2_with fail
  refine (unhide AM _).mono ?_
  rintro r w1 ⟨rfl, hw1⟩
  obtain rfl := hw1.symm
  clear AM
  have hz : z = 0 ∨ z = 1 ∨ z = 2 ∨ z = 3 ∨ z = 4 ∨ z = 5 := by omega
  clear hz0 hz1
  rcases hz with rfl | rfl | rfl | rfl | rfl | rfl
  · clear TA RTA LO RLO CO RCO CL RCL WY RWY
    have cS : V.drew.cell? ⟨w.heap.size, 1, none⟩ = some (.int .i64 f) ∧ V.drew.cell? ⟨w.heap.size, 2, none⟩ = some (.int .i64 t) ∧ V.drew.cell? ⟨w.heap.size, 3, none⟩ = some (.int .i64 i) ∧ V.drew.cell? ⟨w.heap.size, 4, none⟩ = some (.string x) := ⟨b1, b2, b3, b4⟩
    have HBD := hide ((unhide HB).al (Kp.drew V))
    have KVD : Hid (Ks B bothT w V.drew) := hide ((unhide KV).trans (Ks.nil (Kp.drew V)))
    have BVD := hide ((unhide BV).kp (Kp.drew V) (by simp))
    clear HB KV BV b0
    have HBX : Hid (∀ W T, Ks B T V.drew W → 32 ∉ T → W.cell? ⟨w.heap.size, 1, none⟩ = some (.int .i64 f) ∧ W.cell? ⟨w.heap.size, 2, none⟩ = some (.int .i64 t) ∧ W.cell? ⟨w.heap.size, 3, none⟩ = some (.int .i64 i) ∧ W.cell? ⟨w.heap.size, 4, none⟩ = some (.string x)) := hide (fun W T hk hT => by
      have c := (unhide BVD).ks hk hT
      exact ⟨c.cell rfl, c.cell rfl, c.cell rfl, c.cell rfl⟩)
    go_upto_region 3 with fail
    go_region_held3 (fun W => W.cell? ⟨w.heap.size, 1, none⟩ = some (.int .i64 f) ∧ W.cell? ⟨w.heap.size, 2, none⟩ = some (.int .i64 t) ∧ W.cell? ⟨w.heap.size, 3, none⟩ = some (.int .i64 i) ∧ W.cell? ⟨w.heap.size, 4, none⟩ = some (.string x))
      (first | with_reducible exact cS | with_reducible exact s4 | with_reducible exact s3)
      (first
        | (go_at_call 19; refine (unhide RSE _ (unhide H3r)).mono ?_; rintro r w4 ⟨rfl, a3, a4⟩; have s4 := unhide HBX w4 _ ((unhide K3).trans (a4.monoT (fun t ht => List.mem_append.2 (Or.inr ht)))) (by decide : 32 ∉ bothT); have H4 := hide (Bo.both (unhide HBD) (unhide H3) (unhide K30) (fun _ => ⟨a3, a4⟩) (unhide HOK)); clear a3 a4)
        | (go_at_call 12; refine (unhide SE _ (unhide HBD).nt).mono ?_; rintro r w3 ⟨rfl, a1, a2⟩; have s3 := unhide HBX w3 _ a2 (by decide : 32 ∉ ntT); have H3r := hide ((unhide HBD).rn.ks a2 rn_dj); have H3 := hide a1; have K30 := hide a2; have K3 : Hid (Ks B bothT V.drew w3) := hide (a2.monoT (fun t ht => List.mem_append.2 (Or.inl ht))); clear a1 a2))
    have HF : Hid (Bo B b g S2 (M + 69632) w4 ∧ Ks B bothT w w4) := hide (by rw [← unhide HS2]; exact And.intro (unhide H4).1 ((unhide KVD).trans (unhide H4).2))
    clear H4 H3 H3r K3 K30 HBX HBD KVD BVD cS SE RSE HOK HS2
    go_wp2
    go_ret
    exact ⟨rfl, unhide HF⟩
  · clear SE RSE LO RLO CO RCO CL RCL WY RWY
    go_wp2_with fail
    refine (unhide TA _ (unhide HB).nt).mono ?_
    rintro r w3 ⟨rfl, a1, a2⟩
    have H3 := hide a1
    have K30 := hide a2
    have H3r := hide ((unhide HB).rn.ks a2 rn_dj)
    have c3 := (unhide BV).ks a2 (by decide : 32 ∉ ntT)
    have d2 := c3.cell (i := 2) rfl
    have d3 := c3.cell (i := 3) rfl
    clear a1 a2 c3
    go_wp2_with fail
    refine (unhide RTA _ (unhide H3r)).mono ?_
    rintro r w4 ⟨rfl, a3, a4⟩
    have H4 := hide (Bo.both (unhide HB) (unhide H3) (unhide K30) (fun _ => ⟨a3, a4⟩) (unhide HOK))
    have HF : Hid (Bo B b g S2 (M + 69632) w4 ∧ Ks B bothT w w4) := hide (by rw [← unhide HS2]; exact And.intro (unhide H4).1 ((unhide KV).trans (unhide H4).2))
    clear a3 a4 H4 H3 H3r K30 HB KV BV TA RTA HOK HS2 d2 d3 b0 b1 b2 b3 b4
    generalize fiE s t i = E at *
    generalize taF s t i = E2 at *
    generalize taB s t i = E3 at *
    have q3 := eqstr 9999 E3
    go_wp2
    go_ret
    exact ⟨rfl, unhide HF⟩
  · clear SE RSE TA RTA CO RCO CL RCL WY RWY
    have cS : V.drew.cell? ⟨w.heap.size, 1, none⟩ = some (.int .i64 f) ∧ V.drew.cell? ⟨w.heap.size, 2, none⟩ = some (.int .i64 t) ∧ V.drew.cell? ⟨w.heap.size, 3, none⟩ = some (.int .i64 i) ∧ V.drew.cell? ⟨w.heap.size, 4, none⟩ = some (.string x) := ⟨b1, b2, b3, b4⟩
    have HBD := hide ((unhide HB).al (Kp.drew V))
    have KVD : Hid (Ks B bothT w V.drew) := hide ((unhide KV).trans (Ks.nil (Kp.drew V)))
    have BVD := hide ((unhide BV).kp (Kp.drew V) (by simp))
    clear HB KV BV b0
    have HBX : Hid (∀ W T, Ks B T V.drew W → 32 ∉ T → W.cell? ⟨w.heap.size, 1, none⟩ = some (.int .i64 f) ∧ W.cell? ⟨w.heap.size, 2, none⟩ = some (.int .i64 t) ∧ W.cell? ⟨w.heap.size, 3, none⟩ = some (.int .i64 i) ∧ W.cell? ⟨w.heap.size, 4, none⟩ = some (.string x)) := hide (fun W T hk hT => by
      have c := (unhide BVD).ks hk hT
      exact ⟨c.cell rfl, c.cell rfl, c.cell rfl, c.cell rfl⟩)
    go_upto_region 9 with fail
    go_region_held3 (fun W => W.cell? ⟨w.heap.size, 1, none⟩ = some (.int .i64 f) ∧ W.cell? ⟨w.heap.size, 2, none⟩ = some (.int .i64 t) ∧ W.cell? ⟨w.heap.size, 3, none⟩ = some (.int .i64 i) ∧ W.cell? ⟨w.heap.size, 4, none⟩ = some (.string x))
      (first | with_reducible exact cS | with_reducible exact s4 | with_reducible exact s3)
      (first
        | (go_at_call 21; refine (unhide RLO _ (unhide H3r)).mono ?_; rintro r w4 ⟨rfl, a3, a4⟩; have s4 := unhide HBX w4 _ ((unhide K3).trans (a4.monoT (fun t ht => List.mem_append.2 (Or.inr ht)))) (by decide : 32 ∉ bothT); have H4 := hide (Bo.both (unhide HBD) (unhide H3) (unhide K30) (fun _ => ⟨a3, a4⟩) (unhide HOK)); clear a3 a4)
        | (go_at_call 17; refine (unhide LO _ (unhide HBD).nt).mono ?_; rintro r w3 ⟨rfl, a1, a2⟩; have s3 := unhide HBX w3 _ a2 (by decide : 32 ∉ ntT); have H3r := hide ((unhide HBD).rn.ks a2 rn_dj); have H3 := hide a1; have K30 := hide a2; have K3 : Hid (Ks B bothT V.drew w3) := hide (a2.monoT (fun t ht => List.mem_append.2 (Or.inl ht))); clear a1 a2))
    have HF : Hid (Bo B b g S2 (M + 69632) w4 ∧ Ks B bothT w w4) := hide (by rw [← unhide HS2]; exact And.intro (unhide H4).1 ((unhide KVD).trans (unhide H4).2))
    clear H4 H3 H3r K3 K30 HBX HBD KVD BVD cS LO RLO HOK HS2
    go_wp2
    go_ret
    exact ⟨rfl, unhide HF⟩
  · clear SE RSE TA RTA LO RLO CL RCL WY RWY
    have cS : V.drew.cell? ⟨w.heap.size, 1, none⟩ = some (.int .i64 f) ∧ V.drew.cell? ⟨w.heap.size, 2, none⟩ = some (.int .i64 t) ∧ V.drew.cell? ⟨w.heap.size, 3, none⟩ = some (.int .i64 i) ∧ V.drew.cell? ⟨w.heap.size, 4, none⟩ = some (.string x) := ⟨b1, b2, b3, b4⟩
    have HBD := hide ((unhide HB).al (Kp.drew V))
    have KVD : Hid (Ks B bothT w V.drew) := hide ((unhide KV).trans (Ks.nil (Kp.drew V)))
    have BVD := hide ((unhide BV).kp (Kp.drew V) (by simp))
    clear HB KV BV b0
    have HBX : Hid (∀ W T, Ks B T V.drew W → 32 ∉ T → W.cell? ⟨w.heap.size, 1, none⟩ = some (.int .i64 f) ∧ W.cell? ⟨w.heap.size, 2, none⟩ = some (.int .i64 t) ∧ W.cell? ⟨w.heap.size, 3, none⟩ = some (.int .i64 i) ∧ W.cell? ⟨w.heap.size, 4, none⟩ = some (.string x)) := hide (fun W T hk hT => by
      have c := (unhide BVD).ks hk hT
      exact ⟨c.cell rfl, c.cell rfl, c.cell rfl, c.cell rfl⟩)
    go_upto_region 11 with fail
    go_region_held3 (fun W => W.cell? ⟨w.heap.size, 1, none⟩ = some (.int .i64 f) ∧ W.cell? ⟨w.heap.size, 2, none⟩ = some (.int .i64 t) ∧ W.cell? ⟨w.heap.size, 3, none⟩ = some (.int .i64 i) ∧ W.cell? ⟨w.heap.size, 4, none⟩ = some (.string x))
      (first | with_reducible exact cS | with_reducible exact s4 | with_reducible exact s3)
      (first
        | (go_at_call 22; refine (unhide RCO _ (unhide H3r)).mono ?_; rintro r w4 ⟨rfl, a3, a4⟩; have s4 := unhide HBX w4 _ ((unhide K3).trans (a4.monoT (fun t ht => List.mem_append.2 (Or.inr ht)))) (by decide : 32 ∉ bothT); have H4 := hide (Bo.both (unhide HBD) (unhide H3) (unhide K30) (fun _ => ⟨a3, a4⟩) (unhide HOK)); clear a3 a4)
        | (go_at_call 13; refine (unhide CO _ (unhide HBD).nt).mono ?_; rintro r w3 ⟨rfl, a1, a2⟩; have s3 := unhide HBX w3 _ a2 (by decide : 32 ∉ ntT); have H3r := hide ((unhide HBD).rn.ks a2 rn_dj); have H3 := hide a1; have K30 := hide a2; have K3 : Hid (Ks B bothT V.drew w3) := hide (a2.monoT (fun t ht => List.mem_append.2 (Or.inl ht))); clear a1 a2))
    have HF : Hid (Bo B b g S2 (M + 69632) w4 ∧ Ks B bothT w w4) := hide (by rw [← unhide HS2]; exact And.intro (unhide H4).1 ((unhide KVD).trans (unhide H4).2))
    clear H4 H3 H3r K3 K30 HBX HBD KVD BVD cS CO RCO HOK HS2
    go_wp2
    go_ret
    exact ⟨rfl, unhide HF⟩
  · clear SE RSE TA RTA LO RLO CO RCO WY RWY
    go_wp2_with fail
    refine (unhide CL _ (unhide HB).nt).mono ?_
    rintro r w3 ⟨rfl, a1, a2⟩
    have H3 := hide a1
    have K30 := hide a2
    have H3r := hide ((unhide HB).rn.ks a2 rn_dj)
    have c3 := (unhide BV).ks a2 (by decide : 32 ∉ ntT)
    have d2 := c3.cell (i := 2) rfl
    have d3 := c3.cell (i := 3) rfl
    clear a1 a2 c3
    go_wp2_with fail
    refine (unhide RCL _ (unhide H3r)).mono ?_
    rintro r w4 ⟨rfl, a3, a4⟩
    have H4 := hide (Bo.both (unhide HB) (unhide H3) (unhide K30) (fun _ => ⟨a3, a4⟩) (unhide HOK))
    have HF : Hid (Bo B b g S2 (M + 69632) w4 ∧ Ks B bothT w w4) := hide (by rw [← unhide HS2]; exact And.intro (unhide H4).1 ((unhide KV).trans (unhide H4).2))
    clear a3 a4 H4 H3 H3r K30 HB KV BV CL RCL HOK HS2 d2 d3 b0 b1 b2 b3 b4
    generalize wyE s t = E at *
    generalize clN s t = E2 at *
    go_wp2
    go_ret
    exact ⟨rfl, unhide HF⟩
  · clear SE RSE TA RTA LO RLO CO RCO CL RCL
    go_wp2_with fail
    refine (unhide WY _ (unhide HB).nt).mono ?_
    rintro r w3 ⟨rfl, hw3⟩
    obtain rfl := hw3.symm
    go_wp2_with fail
    refine (unhide RWY _ (unhide HB).rn).mono ?_
    rintro r w4 ⟨rfl, hw4⟩
    obtain rfl := hw4.symm
    have HF : Hid (Bo B b g S2 (M + 69632) V ∧ Ks B bothT w V) := hide (by rw [← unhide HS2]; exact ⟨⟨(unhide HB).nt, (unhide HB).rn, unhide HOK⟩, unhide KV⟩)
    clear HB KV BV WY RWY HOK HS2 b0 b1 b2 b3 b4
    generalize wyE s t = E at *
    generalize wyN s t = E2 at *
    go_wp2
    go_ret
    exact ⟨rfl, unhide HF⟩
end Go.Proofs.Ytledoopfffhigaa
