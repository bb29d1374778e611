/-
  works of patterns: the chapter's examples.
  A slice of parts that comes in as an argument, within the form's own reach: how long it and its texts may be.
  A pattern that comes in as an argument: its stages lie where it says.
  A pattern's copy: what stays of its stages.
-/
import Derived.Test.YtjijhefmbmdbeaaGreatDoorP46
import Derived.Test.YtjijhefmbmdbeaaGreatDoorP15
import Derived.SizedLaws
import Derived.Test.YtjijhefmbmdbeaaGreatDoorP28
import Derived.ChangeArms
namespace Go.Proofs.YtjijhefmbmdbeaaGreatDoor
open Go.RowKit Go.Shelf

theorem rdP_ok (s : ByteArray) : (∀ g ∈ (rdP s).p.ss, g.ok) ∧ (rdP s).p.ss.length ≤ 9 ∧ -9223372036854775808 ≤ (rdP s).p.wi ∧ (rdP s).p.wi ≤ 257 := by
  have hn : (∀ g ∈ noP.ss, g.ok) ∧ noP.ss.length ≤ 9 ∧ -9223372036854775808 ≤ noP.wi ∧ noP.wi ≤ 257 := ⟨by simp [noP], by simp [noP], by simp [noP], by simp [noP]⟩
  unfold rdP
  have htk := tsL_ok s
  cases h : tsR s with
  | bad p q => exact hn
  | good ts =>
    rw [h] at htk
    dsimp only
    rw [rdPG_eq]
    have hok : ∀ t ∈ ts ++ [endZ s.size], t.ok := htk
    cases hp : ptR 9 [] (ts ++ [endZ s.size]) with
    | bad a c => exact hn
    | good p =>
      unfold poR
      dsimp only
      split
      · obtain ⟨h1, h2, h3, h4⟩ := ptR_fits 9 [] _ p (by simp) hok hp
        exact ⟨h1, by simpa using h4, h2, h3⟩
      · exact hn
/-- Read, with where it lies. -/
theorem pread_at (s : ByteArray) (hs : s.size ≤ 9223372036854775807) (W : World) (hW : TbE W) : Calls Tryz.prog 34 #[.string s] W fun e w' => ∃ ad cp rs, e = .returned (.tuple #[.agg #[.slice ad (rs : List SR).length cp, .int .i64 (rdP s).p.wi], .agg #[.int .i64 (rdP s).at_, .int .i64 (rdP s).c]]) ∧ StsAt w' ad rs ∧ stgs rs = (rdP s).p.ss ∧ (∀ r ∈ rs, r.s.ok) ∧ Below W.heap.size W w' :=
  (pread_any s W hW hs).mono fun e w' ⟨⟨ad, cp, rs, h1, h2, h3⟩, h4⟩ => by
    obtain ⟨a', c', e', hat, _⟩ := h2.at
    injection e' with ea eb ec
    refine ⟨ad, cp, rs, h1, by rw [ea]; exact hat, h3, fun r hr => (rdP_ok s).1 r.s (by rw [← h3]; unfold stgs; exact List.mem_map_of_mem hr), h4⟩
def exP : Ptn := ⟨[⟨⟨#[97]⟩, 0, false, [⟨9, 0, ⟨#[]⟩, ⟨#[]⟩, 0⟩, ⟨3, 0, ⟨#[]⟩, ⟨#[]⟩, 4⟩, ⟨2, 0, ⟨#[120]⟩, ⟨#[]⟩, 0⟩]⟩, ⟨⟨#[98]⟩, 1, true, [⟨7, 0, ⟨#[]⟩, ⟨#[]⟩, 0⟩, ⟨3, 0, ⟨#[]⟩, ⟨#[97]⟩, 0⟩, ⟨3, 0, ⟨#[]⟩, ⟨#[]⟩, 0⟩]⟩], 5⟩
theorem exP_read : rdP ⟨#[115, 116, 97, 114, 116, 32, 97, 58, 32, 116, 121, 112, 101, 32, 61, 61, 32, 39, 120, 39, 59, 32, 110, 101, 120, 116, 32, 98, 43, 58, 32, 97, 46, 110, 48, 32, 60, 32, 110, 48, 59, 32, 119, 105, 116, 104, 105, 110, 32, 53]⟩ = ⟨exP, 0, 0⟩ := by kernel_rfl
theorem exP_two : rdP ⟨#[115, 116, 97, 114, 116, 32, 97, 58, 32, 98, 46, 110, 48, 32, 60, 32, 49, 59, 32, 119, 105, 116, 104, 105, 110, 32, 53]⟩ = ⟨noP, 0, 120⟩ := by kernel_rfl
theorem exP_three : rdP ⟨#[110, 101, 120, 116]⟩ = ⟨noP, 4, 120⟩ := by kernel_rfl
theorem exP_write : wrP exP = (⟨#[115, 116, 97, 114, 116, 32, 97, 32, 58, 32, 116, 121, 112, 101, 32, 61, 61, 32, 39, 120, 39, 32, 59, 32, 110, 101, 120, 116, 32, 98, 32, 43, 32, 58, 32, 97, 32, 46, 32, 110, 48, 32, 60, 32, 110, 48, 32, 59, 32, 119, 105, 116, 104, 105, 110, 32, 53]⟩, 0) := by kernel_rfl
set_option maxHeartbeats 4000000 in
set_option maxRecDepth 100000 in
theorem pworks_any (w : World) (hT : TbP w) : Calls Tryz.prog 25 #[] w fun e w' => e = .returned (.bool true) ∧ Below w.heap.size w w' := by
  have R1 := pread_at ⟨#[115, 116, 97, 114, 116, 32, 97, 58, 32, 116, 121, 112, 101, 32, 61, 61, 32, 39, 120, 39, 59, 32, 110, 101, 120, 116, 32, 98, 43, 58, 32, 97, 46, 110, 48, 32, 60, 32, 110, 48, 59, 32, 119, 105, 116, 104, 105, 110, 32, 53]⟩ (by decide) w hT.ex
  have R2 := fun W hW => pread_at ⟨#[115, 116, 97, 114, 116, 32, 97, 58, 32, 98, 46, 110, 48, 32, 60, 32, 49, 59, 32, 119, 105, 116, 104, 105, 110, 32, 53]⟩ (by decide) W hW
  have R3 := fun W hW => pread_at ⟨#[110, 101, 120, 116]⟩ (by decide) W hW
  rw [exP_read] at R1
  rw [exP_two] at R2
  rw [exP_three] at R3
  dsimp only at R1 R2 R3
  have HR1 : Hid (Calls Tryz.prog 34 #[.string ⟨#[115, 116, 97, 114, 116, 32, 97, 58, 32, 116, 121, 112, 101, 32, 61, 61, 32, 39, 120, 39, 59, 32, 110, 101, 120, 116, 32, 98, 43, 58, 32, 97, 46, 110, 48, 32, 60, 32, 110, 48, 59, 32, 119, 105, 116, 104, 105, 110, 32, 53]⟩] w fun e w' => ∃ b off cp rs, e = .returned (.tuple #[.agg #[.slice (some ⟨b, off, none⟩) 2 cp, .int .i64 5], .agg #[.int .i64 0, .int .i64 0]]) ∧ StsAt w' (some ⟨b, off, none⟩) (rs : List SR) ∧ stgs rs = exP.ss ∧ rs.length = 2 ∧ (∀ r ∈ rs, r.s.ok) ∧ Below w.heap.size w w') := hide (R1.mono fun e w' ⟨ad, cp, rs, h1, h2, h3, h4, h5⟩ => by
    have hl : rs.length = 2 := by rw [← stgs_len, h3]; rfl
    obtain ⟨b, off, e1, _⟩ := h2 (fun e => by rw [e] at hl; simp at hl)
    subst e1
    rw [hl] at h1
    exact ⟨b, off, cp, rs, h1, h2, h3, hl, h4, h5⟩)
  have HR2 : Hid (∀ W, TbE W → Calls Tryz.prog 34 #[.string ⟨#[115, 116, 97, 114, 116, 32, 97, 58, 32, 98, 46, 110, 48, 32, 60, 32, 49, 59, 32, 119, 105, 116, 104, 105, 110, 32, 53]⟩] W fun e w' => ∃ ad cp, e = .returned (.tuple #[.agg #[.slice ad 0 cp, .int .i64 0], .agg #[.int .i64 0, .int .i64 120]]) ∧ Below W.heap.size W w') := hide (fun W hW => (R2 W hW).mono fun e w' ⟨ad, cp, rs, h1, _, h3, _, h5⟩ => by
    have hl : rs.length = 0 := by rw [← stgs_len, h3]; rfl
    rw [hl] at h1
    exact ⟨ad, cp, h1, h5⟩)
  have HR3 : Hid (∀ W, TbE W → Calls Tryz.prog 34 #[.string ⟨#[110, 101, 120, 116]⟩] W fun e w' => ∃ ad cp, e = .returned (.tuple #[.agg #[.slice ad 0 cp, .int .i64 0], .agg #[.int .i64 4, .int .i64 120]]) ∧ Below W.heap.size W w') := hide (fun W hW => (R3 W hW).mono fun e w' ⟨ad, cp, rs, h1, _, h3, _, h5⟩ => by
    have hl : rs.length = 0 := by rw [← stgs_len, h3]; rfl
    rw [hl] at h1
    exact ⟨ad, cp, h1, h5⟩)
  have HWR : Hid (∀ b off cp (rs : List SR) W, StsAt W (some ⟨b, off, none⟩) rs → stgs rs = exP.ss → rs.length = 2 → (∀ r ∈ rs, r.s.ok) → TbP W → Calls Tryz.prog 23 #[.agg #[.slice (some ⟨b, off, none⟩) 2 cp, .int .i64 5]] W fun e w' => e = .returned (.tuple #[.string ⟨#[115, 116, 97, 114, 116, 32, 97, 32, 58, 32, 116, 121, 112, 101, 32, 61, 61, 32, 39, 120, 39, 32, 59, 32, 110, 101, 120, 116, 32, 98, 32, 43, 32, 58, 32, 97, 32, 46, 32, 110, 48, 32, 60, 32, 110, 48, 32, 59, 32, 119, 105, 116, 104, 105, 110, 32, 53]⟩, .int .i64 0]) ∧ Below W.heap.size W w') := hide (fun b off cp rs W h1 h2 h3 h4 h5 => by
    have := pwrite_any (some ⟨b, off, none⟩) cp rs 5 W h1 h5 h4 (by omega)
    have he : (⟨stgs rs, 5⟩ : Ptn) = exP := by rw [h2]; rfl
    rw [he, exP_write, h3] at this
    exact this)
  have HT := hide hT
  clear R1 R2 R3 hT
  go_enter Tryz.func25, Tryz.ntmps25
  go_wp2_with fail
  refine (unhide HR1).mono ?_
  rintro e w1 ⟨b, off, cp, rs, rfl, hA, hst, hl2, hok, hb1⟩
  obtain ⟨_, _, e1, -, -, -, m2, -⟩ := hA.at 1 (by omega)
  cases e1
  have hmn : rs[1].s.mn = true := by
    have : (stgs rs)[1]'(by rw [stgs_len]; omega) = rs[1].s := stgs_at (by omega)
    rw [← this]
    simp only [hst]
    rfl
  rw [hmn] at m2
  have kv : Kp [] w1 ((w1.alloc (.cells #[.slice (some ⟨b, off, none⟩) 2 cp, .int .i64 5] 24)).alloc (.cells #[.int .i64 0, .int .i64 0] 61)) := (Kp.alloc _ _).trans (Kp.alloc _ _) (by simp)
  have hP1 := rp_b0 w1 #[.slice (some ⟨b, off, none⟩) 2 cp, .int .i64 5] 24 (.cells #[.int .i64 0, .int .i64 0] 61)
  have hF1 := rp_b1 w1 #[.int .i64 0, .int .i64 0] 61 (.cells #[.slice (some ⟨b, off, none⟩) 2 cp, .int .i64 5] 24)
  have HV : Hid (∀ W, Kp [] ((w1.alloc (.cells #[.slice (some ⟨b, off, none⟩) 2 cp, .int .i64 5] 24)).alloc (.cells #[.int .i64 0, .int .i64 0] 61)) W → (W.cell? ⟨w1.heap.size, 0, none⟩ = some (.slice (some ⟨b, off, none⟩) 2 cp) ∧ W.cell? ⟨w1.heap.size, 1, none⟩ = some (.int .i64 5) ∧ W.cell? ⟨w1.heap.size + 1, 0, none⟩ = some (.int .i64 0) ∧ W.cell? ⟨w1.heap.size + 1, 1, none⟩ = some (.int .i64 0) ∧ W.cell? ⟨b, off + 1 * 4 + 2, none⟩ = some (.bool true)) ∧ Hid (StsAt W (some ⟨b, off, none⟩) rs) ∧ Hid (TbP W) ∧ Hid (Below w.heap.size w W) ∧ w1.heap.size + 1 < W.heap.size) := hide (fun W hk => ⟨⟨(hP1.kp hk (by simp)).cell rfl, (hP1.kp hk (by simp)).cell rfl, (hF1.kp hk (by simp)).cell rfl, (hF1.kp hk (by simp)).cell rfl, (kv.trans hk (by simp)).cell m2 (by simp)⟩, hide ((hA.kp kv).kp hk), hide ((unhide HT).kp (((Kp.ofBelow hb1).trans kv (by simp)).trans hk (by simp)) (by simp)), hide ((((Kp.ofBelow hb1).trans kv (by simp)).trans hk (by simp)).below (Nat.le_refl _) (by simp)), by have := hk.size; simp at this; omega⟩)
  obtain ⟨⟨p0, p1, f0, f1, _⟩, HS1, HT1, _, _⟩ := unhide HV _ (Kp.refl _ _)
  have WR2 := hide (unhide HWR b off cp rs _ (unhide HS1) hst hl2 hok (unhide HT1))
  clear HR1 HWR hA hst hl2 hok hb1 m2 hmn kv hP1 hF1 HS1 HT1 HT
  go_wp2_with fail
  refine (unhide WR2).mono ?_
  rintro e w3 ⟨rfl, hb3⟩
  have HK3 := hide (Kp.ofBelow hb3)
  obtain ⟨_, _, HT3, _, _⟩ := unhide HV w3 (unhide HK3)
  have R4 := hide (unhide HR2 w3 (unhide HT3).ex)
  clear hb3 WR2 HR2 p0 p1 f0 f1 HT3
  go_wp2_with fail
  refine (unhide R4).mono ?_
  rintro e w4 ⟨a4, c4, rfl, hb4⟩
  have k4 : Kp [] w4 ((w4.alloc (.cells #[.slice a4 0 c4, .int .i64 0] 24)).alloc (.cells #[.int .i64 0, .int .i64 120] 61)) := (Kp.alloc _ _).trans (Kp.alloc _ _) (by simp)
  have hF4 := rp_b1 w4 #[.int .i64 0, .int .i64 120] 61 (.cells #[.slice a4 0 c4, .int .i64 0] 24)
  have HK4 := hide (((unhide HK3).trans (Kp.ofBelow hb4) (by simp)).trans k4 (by simp))
  obtain ⟨_, _, HT4, _, _⟩ := unhide HV _ (unhide HK4)
  have R5 := hide (unhide HR3 _ (unhide HT4).ex)
  have HF4 := hide hF4
  clear hb4 R4 HR3 HT4 k4 hF4 HK3
  go_wp2_with fail
  refine (unhide R5).mono ?_
  rintro e w5 ⟨a5, c5, rfl, hb5⟩
  have k5 : Kp [] w5 ((w5.alloc (.cells #[.slice a5 0 c5, .int .i64 0] 24)).alloc (.cells #[.int .i64 4, .int .i64 120] 61)) := (Kp.alloc _ _).trans (Kp.alloc _ _) (by simp)
  have hF5 := rp_b1 w5 #[.int .i64 4, .int .i64 120] 61 (.cells #[.slice a5 0 c5, .int .i64 0] 24)
  have hF45 := (unhide HF4).kp ((Kp.ofBelow hb5).trans k5 (by simp)) (by simp)
  obtain ⟨⟨p0, p1, f0, f1, mm⟩, _, _, HB, hlt⟩ := unhide HV _ (((unhide HK4).trans (Kp.ofBelow hb5) (by simp)).trans k5 (by simp))
  obtain ⟨g0, g1⟩ := two_cells hF45
  obtain ⟨h0, h1⟩ := two_cells hF5
  clear hb5 R5 HV HK4 HF4 k5 hF5 hF45
  go_wp2
  go_ret
  exact ⟨rfl, unhide HB⟩
end Go.Proofs.YtjijhefmbmdbeaaGreatDoor
namespace Go.Proofs.YtjijhefmbmdbeaaGreatDoor
open Go.RowKit Go.Deep

theorem bytes_Pt : Tryz.prog.bytesOf 86 = 56 := by kernel_rfl
theorem weightsAll_mem {H : Type} {P : Program} {e : TypeId} {ds : List (DataW H)} {d : DataW H} {n : Nat} (hd : d ∈ ds) (hn : n ∈ d.weights P e) : n ∈ DataW.weightsAll P e ds := by
  induction ds with
  | nil => cases hd
  | cons x r ih =>
    simp only [DataW.weightsAll, List.mem_append]
    rcases List.mem_cons.1 hd with rfl | h
    · exact Or.inl hn
    · exact Or.inr (ih h)
set_option maxRecDepth 100000 in
theorem open_pts3 {H : Type} {enc : TypeId × Value → H} {W : World} {spare : Nat → Bool} {held : Bool} {fuel : Nat} {v : Value} {x : DataW H × List MemPlace}
    (h : DataW.trod enc Tryz.prog W 0 spare held fuel 52 [v] = some x) (hw : ∀ n ∈ x.1.weights Tryz.prog 52, n ≤ reachBytes) :
    ∃ (ad : Option Addr) (cap : Nat) (l : List Pt), v = .slice ad l.length cap ∧ l.length * 56 ≤ 140737488351232 ∧ l.length ≤ cap ∧ PtsAt W ad l ∧ (∀ y ∈ l, y.ok) ∧ (ad = none → cap = 0) ∧ ∀ y ∈ l, y.s.size ≤ 140737488351232 ∧ y.st.size ≤ 140737488351232 := by
  obtain ⟨ad, cap, l, hv, h1, h2, h3⟩ := open_pts h
  obtain ⟨f0, f1, f2, f3, f4, hu, t0, t1, t2, t3, t4, o0, o1, o2, o3, o4⟩ := open_pts_fields
  rcases open_slice Tryz.underlying52 h with ⟨hcs, _⟩ | ⟨a, len, cap', m, n, D, Pl, hcs, hb, hl, hm, hmm, rfl, hx⟩
  · simp only [List.cons.injEq, and_true] at hcs
    rw [hv] at hcs
    simp only [Value.slice.injEq] at hcs
    have hl0 : l = [] := List.eq_nil_of_length_eq_zero hcs.2.1
    subst hl0
    exact ⟨ad, cap, [], hv, by simp, by simp, h2, h3, fun _ => hcs.2.2, by simp⟩
  · simp only [List.cons.injEq, and_true] at hcs
    rw [hv] at hcs
    simp only [Value.slice.injEq] at hcs
    obtain ⟨rfl, hll, rfl⟩ := hcs
    have hlm : len ≤ m := by rw [hmm]; split <;> omega
    have hw0 : (len + (m - len)) * 56 ≤ reachBytes := by
      have := hw ((len + (m - len)) * 56) (by simp [DataW.weights, Tryz.underlying52, bytes_Pt])
      exact this
    have hreach : reachBytes = 140737488351232 := by decide
    refine ⟨some a, cap, l, hv, by omega, by omega, h2, h3, (by intro e; cases e), fun y hy => ?_⟩
    obtain ⟨i, hi, rfl⟩ := List.mem_iff_getElem.1 hy
    obtain ⟨b, off, ea, _, hc⟩ := h2 (fun e => by rw [e] at hi; simp at hi)
    obtain rfl := Option.some.inj ea
    obtain ⟨cs', k1, k2⟩ := hx i (by omega)
    rw [open_pts_cells] at k1
    obtain ⟨_, hlen, hcell⟩ := World.cells?_some k1
    obtain ⟨xs, k, hk, hxy, _, hxl, hf⟩ := DataW.trod_struct hu k2
    match xs, hxl, cs', hlen with
    | [y0, y1, y2, y3, y4], _, [v0, v1, v2, v3, v4], _ =>
      have g2 := hf 2 f2 rfl
      have g3 := hf 3 f3 rfl
      simp [o2, o3, t2, t3, open_pts_cells_string] at g2 g3
      have e2 := hcell 2 (by omega)
      have e3 := hcell 3 (by omega)
      rw [Go.Deep.add_add] at e2 e3
      obtain ⟨s, q2, q3, _⟩ := DataW.trod_string Tryz.underlying9 g2
      obtain ⟨s', q2', q3', _⟩ := DataW.trod_string Tryz.underlying9 g3
      simp only [List.cons.injEq, and_true] at q2 q2'
      subst q2 q2'
      have c2 := (hc i hi).2.2.1
      have c3 := (hc i hi).2.2.2.1
      rw [Go.WideShapes.add_plain] at e2 e3
      have e2' : W.cell? ⟨b, off + i * 5 + 2, none⟩ = some (.string s) := by rw [Nat.add_assoc]; simpa using e2
      have e3' : W.cell? ⟨b, off + i * 5 + 3, none⟩ = some (.string s') := by rw [Nat.add_assoc]; simpa using e3
      rw [c2] at e2'
      rw [c3] at e3'
      simp only [Option.some.injEq, Value.string.injEq] at e2' e3'
      rw [e2', e3']
      have hD : D i = .agg [y0.1, y1.1, y2.1, y3.1, y4.1] := by have := congrArg Prod.fst hxy; simpa using this
      have hwt : s.size ∈ (D i).weights Tryz.prog 86 := by
        rw [hD]
        simp only [DataW.weights, hu]
        refine DataW.weights_mem_each (j := 2) (t := 9) (d := y2.1) (by simp [t2]) rfl _ ?_
        rw [q3]
        simp [DataW.weights]
      have hwt' : s'.size ∈ (D i).weights Tryz.prog 86 := by
        rw [hD]
        simp only [DataW.weights, hu]
        refine DataW.weights_mem_each (j := 3) (t := 9) (d := y3.1) (by simp [t3]) rfl _ ?_
        rw [q3']
        simp [DataW.weights]
      have r1 := hw s.size (by
        simp only [DataW.weights, Tryz.underlying52, List.mem_cons, List.mem_append]
        exact Or.inr (Or.inl (weightsAll_mem (List.mem_map.2 ⟨i, List.mem_range.2 (by omega), rfl⟩) hwt)))
      have r2 := hw s'.size (by
        simp only [DataW.weights, Tryz.underlying52, List.mem_cons, List.mem_append]
        exact Or.inr (Or.inl (weightsAll_mem (List.mem_map.2 ⟨i, List.mem_range.2 (by omega), rfl⟩) hwt')))
      exact ⟨by omega, by omega⟩
end Go.Proofs.YtjijhefmbmdbeaaGreatDoor
namespace Go.Proofs.YtjijhefmbmdbeaaGreatDoor
open Go.RowKit Go.Deep

theorem cells_Stage : Tryz.prog.cellsOf 54 = 4 := by kernel_rfl
theorem cells_Pattern : Tryz.prog.cellsOf 24 = 2 := by kernel_rfl
theorem cells_boolP : Tryz.prog.cellsOf 4 = 1 := by kernel_rfl
theorem cells_partsP : Tryz.prog.cellsOf 52 = 1 := by kernel_rfl
theorem cells_stagesP : Tryz.prog.cellsOf 22 = 1 := by kernel_rfl
theorem bytes_Stage : Tryz.prog.bytesOf 54 = 56 := by kernel_rfl
theorem fields_Stage : ∃ f0 f1 f2 f3 : Field, Tryz.prog.underlying 54 = some (.struct #[f0, f1, f2, f3]) ∧ f0.type = 9 ∧ f1.type = 3 ∧ f2.type = 4 ∧ f3.type = 52 ∧ f0.offset = 0 ∧ f1.offset = 1 ∧ f2.offset = 2 ∧ f3.offset = 3 :=
  ⟨_, _, _, _, Tryz.underlying54, rfl, rfl, rfl, rfl, rfl, rfl, rfl, rfl⟩
theorem fields_Pattern : ∃ f0 f1 : Field, Tryz.prog.underlying 24 = some (.struct #[f0, f1]) ∧ f0.type = 22 ∧ f1.type = 3 ∧ f0.offset = 0 ∧ f1.offset = 1 :=
  ⟨_, _, Tryz.underlying24, rfl, rfl, rfl, rfl⟩
/-- Within the form's own reach: how long a stage's condition and its texts may be. -/
def SR.hv (r : SR) : Prop := r.s.cd.length * 56 ≤ 140737488351232 ∧ r.s.cd.length ≤ r.c ∧ (r.ad = none → r.c = 0) ∧ ∀ y ∈ r.s.cd, y.s.size ≤ 140737488351232 ∧ y.st.size ≤ 140737488351232
section
variable {H : Type} {enc : TypeId × Value → H} {W : World} {spare : Nat → Bool} {held : Bool} {fuel : Nat} {v : Value} {x : DataW H × List MemPlace}
theorem open_ptsB (h : DataW.trod enc Tryz.prog W 0 spare held fuel 52 [v] = some x) :
    ∃ (ad : Option Addr) (cap : Nat) (l : List Pt), v = .slice ad l.length cap ∧ l.length ≤ 9223372036854775807 ∧ PtsAt W ad l ∧ (∀ y ∈ l, y.ok) ∧ ((∀ n ∈ x.1.weights Tryz.prog 52, n ≤ reachBytes) → l.length * 56 ≤ 140737488351232 ∧ l.length ≤ cap ∧ (ad = none → cap = 0) ∧ ∀ y ∈ l, y.s.size ≤ 140737488351232 ∧ y.st.size ≤ 140737488351232) := by
  by_cases hw : ∀ n ∈ x.1.weights Tryz.prog 52, n ≤ reachBytes
  · obtain ⟨ad, cap, l, h1, h2, h3, h4, h5, h6, h7⟩ := open_pts3 h hw
    exact ⟨ad, cap, l, h1, by omega, h4, h5, fun _ => ⟨h2, h3, h6, h7⟩⟩
  · obtain ⟨ad, cap, l, h1, h2, h3, h4⟩ := open_pts h
    exact ⟨ad, cap, l, h1, h2, h3, h4, fun h => absurd h hw⟩
set_option maxRecDepth 100000 in
theorem open_stage {cs : Array Value} (hsz : cs.size = 4) (h : DataW.trod enc Tryz.prog W 0 spare held fuel 54 cs.toList = some x) :
    ∃ r : SR, cs = #[.string r.s.nm, .int .i64 r.s.hw, .bool r.s.mn, .slice r.ad r.s.cd.length r.c] ∧ r.s.ok ∧ PtsAt W r.ad r.s.cd ∧ ((∀ m ∈ x.1.weights Tryz.prog 54, m ≤ reachBytes) → r.hv) := by
  obtain ⟨f0, f1, f2, f3, hu, t0, t1, t2, t3, o0, o1, o2, o3⟩ := fields_Stage
  obtain ⟨xs, n, _, hxe, _, hxl, hf⟩ := DataW.trod_struct hu h
  obtain ⟨l⟩ := cs
  match xs, hxl, l, hsz with
  | [y0, y1, y2, y3], _, [v0, v1, v2, v3], _ =>
    have g0 := hf 0 f0 rfl
    have g1 := hf 1 f1 rfl
    have g2 := hf 2 f2 rfl
    have g3 := hf 3 f3 rfl
    simp [o0, o1, o2, o3, t0, t1, t2, t3, open_pts_cells_string, open_pts_cells_int, cells_boolP, cells_partsP] at g0 g1 g2 g3
    obtain ⟨k0, q0, _, w0⟩ := DataW.trod_string Tryz.underlying9 g0
    obtain ⟨k1, q1, _, w1⟩ := DataW.trod_int Tryz.underlying3 g1
    obtain ⟨k2, q2, _⟩ := DataW.trod_bool Tryz.underlying4 g2
    obtain ⟨ad, cp, cd, rfl, h2, h3, h4, h5⟩ := open_ptsB g3
    simp only [List.cons.injEq, and_true] at q0 q1 q2
    subst q0 q1 q2
    have u1 := bounds_i64 w1
    unfold maxLen at w0
    refine ⟨⟨⟨k0, k1, k2, cd⟩, ad, cp⟩, rfl, ⟨by show k0.size ≤ _; omega, ⟨u1.1, by show k1 ≤ _; omega⟩, h4⟩, h3, fun hw => h5 (fun m hm => hw m ?_)⟩
    rw [hxe]
    simp only [DataW.weights, hu]
    exact DataW.weights_mem_each (j := 3) (t := 52) (d := y3.1) (by simp [t3]) rfl m hm
set_option maxRecDepth 100000 in
theorem open_stages (h : DataW.trod enc Tryz.prog W 0 spare held fuel 22 [v] = some x) :
    ∃ (ad : Option Addr) (cap : Nat) (l : List SR), v = .slice ad l.length cap ∧ l.length ≤ 9223372036854775807 ∧ StsAt W ad l ∧ (∀ r ∈ l, r.s.ok) ∧ ((∀ m ∈ x.1.weights Tryz.prog 22, m ≤ reachBytes) → l.length * 56 ≤ 140737488351232 ∧ (ad = none → cap = 0) ∧ ∀ r ∈ l, r.hv) := by
  rcases open_slice Tryz.underlying22 h with ⟨hcs, _⟩ | ⟨a, len, cap, m, n, D, Pl, hcs, hb, hl, hm, hmm, hxe, hx⟩
  · simp only [List.cons.injEq, and_true] at hcs
    subst hcs
    exact ⟨none, 0, [], rfl, by simp, fun hne => absurd rfl hne, by simp, fun _ => ⟨by simp, fun _ => rfl, by simp⟩⟩
  · simp only [List.cons.injEq, and_true] at hcs
    subst hcs
    have hlm : len ≤ m := by rw [hmm]; split <;> omega
    have each : ∀ i, i < len → ∃ y : SR, (W.cell? (a.add (i * 4)) = some (.string y.s.nm) ∧ W.cell? (a.add (i * 4 + 1)) = some (.int .i64 y.s.hw) ∧ W.cell? (a.add (i * 4 + 2)) = some (.bool y.s.mn) ∧ W.cell? (a.add (i * 4 + 3)) = some (.slice y.ad y.s.cd.length y.c)) ∧ y.s.ok ∧ PtsAt W y.ad y.s.cd ∧ ((∀ m ∈ (D i).weights Tryz.prog 54, m ≤ reachBytes) → y.hv) := by
      intro i hi
      obtain ⟨cs', h1, h2⟩ := hx i (by omega)
      rw [cells_Stage] at h1
      obtain ⟨_, hlen, hcell⟩ := World.cells?_some h1
      obtain ⟨y, hy, hok⟩ := open_stage (cs := cs'.toArray) (by simpa using hlen) (by simpa using h2)
      refine ⟨y, ?_, hok⟩
      have hy' : cs' = [.string y.s.nm, .int .i64 y.s.hw, .bool y.s.mn, .slice y.ad y.s.cd.length y.c] := by simpa using congrArg Array.toList hy
      subst hy'
      have e0 := hcell 0 (by omega)
      have e1 := hcell 1 (by omega)
      have e2 := hcell 2 (by omega)
      have e3 := hcell 3 (by omega)
      rw [Go.Deep.add_add] at e0 e1 e2 e3
      exact ⟨by simpa using e0, by simpa using e1, by simpa using e2, by simpa using e3⟩
    have hinh : Inhabited SR := ⟨⟨⟨⟨#[]⟩, 0, false, []⟩, none, 0⟩⟩
    obtain ⟨q, hq⟩ := choose_lt each
    refine ⟨some a, cap, (List.range len).map q, by simp, by simp; unfold maxLen at hm; omega, fun hne => ?_, fun y hy => ?_, fun hw => ⟨?_, (by intro e; cases e), fun y hy => ?_⟩⟩
    · have h0 : 0 < len := by
        rcases Nat.eq_zero_or_pos len with e | e
        · subst e; simp at hne
        · exact e
      obtain ⟨b, off, spot⟩ := a
      have hc0 := (hq 0 h0).1.1
      have hspot : spot = none := by simpa [Addr.add] using World.cell?_spot hc0
      subst hspot
      refine ⟨b, off, rfl, ?_, fun i hi => ?_⟩
      · rcases Nat.lt_or_ge b W.heap.size with hlt | hge
        · exact hlt
        · exfalso
          rw [Go.WideShapes.add_plain] at hc0
          simp [World.cell?, Array.getElem?_eq_none hge] at hc0
      · have hi' : i < len := by simpa using hi
        obtain ⟨⟨c0, c1, c2, c3⟩, _, c4, _⟩ := hq i hi'
        rw [Go.WideShapes.add_plain] at c0 c1 c2 c3
        simp only [List.getElem_map, List.getElem_range]
        exact ⟨c0, by rw [Nat.add_assoc]; exact c1, by rw [Nat.add_assoc]; exact c2, by rw [Nat.add_assoc]; exact c3, c4⟩
    · obtain ⟨i, hi, rfl⟩ := List.mem_map.1 hy
      exact (hq i (List.mem_range.1 hi)).2.1
    · have hw0 : (len + (m - len)) * 56 ≤ reachBytes := hw _ (by rw [hxe]; simp [DataW.weights, Tryz.underlying22, bytes_Stage])
      have hreach : reachBytes = 140737488351232 := by decide
      simp only [List.length_map, List.length_range]
      omega
    · obtain ⟨i, hi, rfl⟩ := List.mem_map.1 hy
      refine (hq i (List.mem_range.1 hi)).2.2.2 (fun m hm => hw m ?_)
      rw [hxe]
      simp only [DataW.weights, Tryz.underlying22]
      exact List.mem_cons_of_mem _ (List.mem_append.2 (Or.inl (weightsAll_mem (List.mem_map.2 ⟨i, hi, rfl⟩) hm)))
set_option maxRecDepth 100000 in
theorem open_pattern {cs : Array Value} (hsz : cs.size = Tryz.prog.cellsOf 24) (h : DataW.trod enc Tryz.prog W 0 spare held fuel 24 cs.toList = some x) :
    ∃ (sa : Option Addr) (sc : Nat) (l : List SR) (wi : Int), cs = #[.slice sa l.length sc, .int .i64 wi] ∧ l.length ≤ 9223372036854775807 ∧ StsAt W sa l ∧ (∀ r ∈ l, r.s.ok) ∧ (-9223372036854775808 ≤ wi ∧ wi ≤ 9223372036854775807) ∧ ((∀ m ∈ x.1.weights Tryz.prog 24, m ≤ reachBytes) → l.length * 56 ≤ 140737488351232 ∧ (sa = none → sc = 0) ∧ ∀ r ∈ l, r.hv) := by
  obtain ⟨f0, f1, hu, t0, t1, o0, o1⟩ := fields_Pattern
  rw [cells_Pattern] at hsz
  obtain ⟨xs, n, _, hxe, _, hxl, hf⟩ := DataW.trod_struct hu h
  obtain ⟨l⟩ := cs
  match xs, hxl, l, hsz with
  | [y0, y1], _, [v0, v1], _ =>
    have g0 := hf 0 f0 rfl
    have g1 := hf 1 f1 rfl
    simp [o0, o1, t0, t1, open_pts_cells_int, cells_stagesP] at g0 g1
    obtain ⟨k1, q1, _, w1⟩ := DataW.trod_int Tryz.underlying3 g1
    obtain ⟨sa, sc, l, rfl, h2, h3, h4, h5⟩ := open_stages g0
    simp only [List.cons.injEq, and_true] at q1
    subst q1
    have u1 := bounds_i64 w1
    refine ⟨sa, sc, l, k1, rfl, h2, h3, h4, ⟨u1.1, by omega⟩, fun hw => h5 (fun m hm => hw m ?_)⟩
    rw [hxe]
    simp only [DataW.weights, hu]
    exact DataW.weights_mem_each (j := 0) (t := 22) (d := y0.1) (by simp [t0]) rfl m hm
end
end Go.Proofs.YtjijhefmbmdbeaaGreatDoor
namespace Go.Proofs.YtjijhefmbmdbeaaGreatDoor

theorem rs_ok {l rs : List SR} (e : stgs rs = stgs l) (h : ∀ r ∈ l, r.s.ok) : ∀ r ∈ rs, r.s.ok := fun r hr => by
  have hm : r.s ∈ stgs rs := by unfold stgs; exact List.mem_map_of_mem hr
  rw [e] at hm
  unfold stgs at hm
  obtain ⟨r', hr', e'⟩ := List.mem_map.1 hm
  rw [← e']
  exact h r' hr'
theorem rs_len {l rs : List SR} (e : stgs rs = stgs l) : rs.length = l.length := by have := congrArg List.length e; rwa [stgs_len, stgs_len] at this
theorem rs_cd {l rs : List SR} (e : stgs rs = stgs l) (h : ∀ r ∈ l, r.hv) : ∀ r ∈ rs, r.s.cd.length ≤ 9223372036854775807 := fun r hr => by
  have hm : r.s ∈ stgs rs := by unfold stgs; exact List.mem_map_of_mem hr
  rw [e] at hm
  unfold stgs at hm
  obtain ⟨r', hr', e'⟩ := List.mem_map.1 hm
  rw [← e']
  have := (h r' hr').1
  omega
end Go.Proofs.YtjijhefmbmdbeaaGreatDoor
