/-
  works: the chapter's examples.
  ExprChecks: its walk.
  A slice of parts that comes in as an argument, within the form's own reach: how long it and its texts may be.
  ExprChecks is proved: for all parts the law ExprChecks returns true (which expressions may be, their texts, and which stages they ask for, is as the document has it; the parts stay as they are), and its argument reads behind the call as before. Condition: the packages' tables and words, and strconv's and math/bits' variables, read as their own texts lay them (the card ties that to the program).
-/
import Derived.Test.YthipclehhcfahaaGreatDoorHC42
import Derived.Test.YthipclehhcfahaaGreatDoorHC33
import Derived.Test.YthipclehhcfahaaGreatDoorHC36
import Derived.Test.YthipclehhcfahaaGreatDoorHC20
import Derived.SizedLaws
import Derived.Test.YthipclehhcfahaaGreatDoorCards
import Derived.Test.YthipclehhcfahaaGreatDoorTie
import Derived.Test.YthipclehhcfahaaGreatDoorHC08
import Derived.ProofKit
import Derived.OpenShut
import Derived.Deep.DeepHandedRow
import Derived.Lib.LaidTab
namespace Go.Proofs.YthipclehhcfahaaGreatDoor
open Go.RowKit Go.Shelf

def exX : List Pt := [⟨11, 0, ⟨#[]⟩, ⟨#[]⟩, 0⟩, ⟨7, 0, ⟨#[]⟩, ⟨#[]⟩, 0⟩, ⟨4, 0, ⟨#[]⟩, ⟨#[]⟩, 0⟩, ⟨3, 0, ⟨#[]⟩, ⟨#[]⟩, 0⟩, ⟨1, 1, ⟨#[]⟩, ⟨#[]⟩, 0⟩, ⟨3, 0, ⟨#[]⟩, ⟨#[97]⟩, 0⟩, ⟨9, 0, ⟨#[]⟩, ⟨#[]⟩, 0⟩, ⟨3, 0, ⟨#[]⟩, ⟨#[]⟩, 4⟩, ⟨2, 0, ⟨#[120]⟩, ⟨#[]⟩, 0⟩]
theorem ex_read : rdO ⟨#[110, 48, 32, 43, 32, 49, 32, 60, 32, 97, 46, 110, 48, 32, 97, 110, 100, 32, 116, 121, 112, 101, 32, 61, 61, 32, 39, 120, 39]⟩ = ⟨exX, 0, 0⟩ := by kernel_rfl
theorem ex_two : rdO ⟨#[110, 48, 32, 60, 32, 49, 32, 60, 32, 50]⟩ = ⟨[], 7, 110⟩ := by kernel_rfl
theorem ex_three : rdO ⟨#[110, 48, 32, 97, 110, 100, 32, 49]⟩ = ⟨[], 0, 110⟩ := by kernel_rfl
theorem ex_ck : ckK exX = 3 := by kernel_rfl
theorem ex_write : wrS exX = ⟨#[40, 32, 40, 32, 110, 48, 32, 43, 32, 49, 32, 41, 32, 60, 32, 97, 32, 46, 32, 110, 48, 32, 41, 32, 97, 110, 100, 32, 40, 32, 116, 121, 112, 101, 32, 61, 61, 32, 39, 120, 39, 32, 41]⟩ := by kernel_rfl
set_option maxHeartbeats 2000000 in
set_option maxRecDepth 100000 in
theorem eworks_any (w : World) (hT : TbE w) : Calls Tryz.prog 17 #[] w fun e w' => e = .returned (.bool true) ∧ Below w.heap.size w w' := by
  have R1 := eread_any ⟨#[110, 48, 32, 43, 32, 49, 32, 60, 32, 97, 46, 110, 48, 32, 97, 110, 100, 32, 116, 121, 112, 101, 32, 61, 61, 32, 39, 120, 39]⟩ w hT (by decide)
  have R2 := fun W hW => eread_any ⟨#[110, 48, 32, 60, 32, 49, 32, 60, 32, 50]⟩ W hW (by decide)
  have R3 := fun W hW => eread_any ⟨#[110, 48, 32, 97, 110, 100, 32, 49]⟩ W hW (by decide)
  have WR := fun ad cp W hA hW => write_any ad cp exX W hA hW (by rw [show exX = (rdO ⟨#[110, 48, 32, 43, 32, 49, 32, 60, 32, 97, 46, 110, 48, 32, 97, 110, 100, 32, 116, 121, 112, 101, 32, 61, 61, 32, 39, 120, 39]⟩).x by rw [ex_read]]; exact read_ok _)
  rw [ex_read] at R1
  rw [ex_two] at R2
  rw [ex_three] at R3
  rw [ex_write, ex_ck, if_neg (by decide)] at WR
  have HR1 : Hid (Calls Tryz.prog 22 #[.string ⟨#[110, 48, 32, 43, 32, 49, 32, 60, 32, 97, 46, 110, 48, 32, 97, 110, 100, 32, 116, 121, 112, 101, 32, 61, 61, 32, 39, 120, 39]⟩] w fun e w' => ∃ ad cp, e = .returned (.tuple #[.slice ad 9 cp, .agg #[.int .i64 0, .int .i64 0]]) ∧ PtsAt w' ad exX ∧ Below w.heap.size w w') := hide (R1.mono fun e w' ⟨⟨v, h1, h2⟩, h3⟩ => by
    obtain ⟨ad, cp, rfl, h4, _⟩ := h2.at
    exact ⟨ad, cp, h1, h4, h3⟩)
  have HR2 : Hid (∀ W, TbE W → Calls Tryz.prog 22 #[.string ⟨#[110, 48, 32, 60, 32, 49, 32, 60, 32, 50]⟩] W fun e w' => ∃ ad cp, e = .returned (.tuple #[.slice ad 0 cp, .agg #[.int .i64 7, .int .i64 110]]) ∧ Below W.heap.size W w') := hide (fun W hW => (R2 W hW).mono fun e w' ⟨⟨v, h1, h2⟩, h3⟩ => by
    obtain ⟨ad, cp, rfl, _, _⟩ := h2.at
    exact ⟨ad, cp, h1, h3⟩)
  have HR3 : Hid (∀ W, TbE W → Calls Tryz.prog 22 #[.string ⟨#[110, 48, 32, 97, 110, 100, 32, 49]⟩] W fun e w' => ∃ ad cp, e = .returned (.tuple #[.slice ad 0 cp, .agg #[.int .i64 0, .int .i64 110]]) ∧ Below W.heap.size W w') := hide (fun W hW => (R3 W hW).mono fun e w' ⟨⟨v, h1, h2⟩, h3⟩ => by
    obtain ⟨ad, cp, rfl, _, _⟩ := h2.at
    exact ⟨ad, cp, h1, h3⟩)
  have HWR : Hid (∀ ad cp W, PtsAt W ad exX → TbE W → Calls Tryz.prog 11 #[.slice ad 9 cp] W fun e w' => e = .returned (.tuple #[.string ⟨#[40, 32, 40, 32, 110, 48, 32, 43, 32, 49, 32, 41, 32, 60, 32, 97, 32, 46, 32, 110, 48, 32, 41, 32, 97, 110, 100, 32, 40, 32, 116, 121, 112, 101, 32, 61, 61, 32, 39, 120, 39, 32, 41]⟩, .int .i64 0]) ∧ Below W.heap.size W w') := hide WR
  have HT := hide hT
  clear R1 R2 R3 WR hT
  go_enter Tryz.func17, Tryz.ntmps17
  go_wp2_with fail
  refine (unhide HR1).mono ?_
  rintro e w1 ⟨ad, cp, rfl, hA, hb1⟩
  have k1 : Kp [] w1 (w1.alloc (.cells #[.int .i64 0, .int .i64 0] 47)) := Kp.alloc _ _
  have hb2 : Below w.heap.size w (w1.alloc (.cells #[.int .i64 0, .int .i64 0] 47)) := hb1.alloc hb1.size _
  have WR2 := hide (unhide HWR ad cp _ (hA.kp k1) ((unhide HT).below hb2 (unhide HT).low))
  have fb2 : FBox w1.heap.size (w1.alloc (.cells #[.int .i64 0, .int .i64 0] 47)) := CBox.new w1 _ _
  have HB := hide hb2
  clear HR1 HWR hA k1 hb1 hb2
  go_wp2_with fail
  refine (unhide WR2).mono ?_
  rintro e w3 ⟨rfl, hb3⟩
  have HB3 := hide ((unhide HB).trans (hb3.mono (unhide HB).size))
  have fb3 := fb2.below hb3 fb2.lt
  have R4 := hide (unhide HR2 w3 ((unhide HT).below (unhide HB3) (unhide HT).low))
  clear hb3 HB fb2 WR2 HR2
  go_wp2_with fail
  refine (unhide R4).mono ?_
  rintro e w4 ⟨a4, c4, rfl, hb4⟩
  have HB4 := hide (((unhide HB3).trans (hb4.mono (unhide HB3).size)).alloc (by have := (unhide HB3).size; have := hb4.size; omega) (.cells #[.int .i64 7, .int .i64 110] 47))
  have fb4 : FBox w1.heap.size (w4.alloc (.cells #[.int .i64 7, .int .i64 110] 47)) := CBox.kp (fb3.below hb4 fb3.lt) (Kp.alloc _ _) (by simp)
  have fc4 : CBox w4.heap.size #[.int .i64 7, .int .i64 110] 47 (w4.alloc (.cells #[.int .i64 7, .int .i64 110] 47)) := CBox.new w4 _ _
  have R5 := hide (unhide HR3 _ ((unhide HT).below (unhide HB4) (unhide HT).low))
  clear hb4 HB3 fb3 R4 HR3
  go_wp2_with fail
  refine (unhide R5).mono ?_
  rintro e w5 ⟨a5, c5, rfl, hb5⟩
  have HB5 := hide (((unhide HB4).trans (hb5.mono (unhide HB4).size)).alloc (by have := (unhide HB4).size; have := hb5.size; omega) (.cells #[.int .i64 0, .int .i64 110] 47))
  have fb5 : FBox w1.heap.size (w5.alloc (.cells #[.int .i64 0, .int .i64 110] 47)) := CBox.kp (fb4.below hb5 fb4.lt) (Kp.alloc _ _) (by simp)
  have fc5 : CBox w4.heap.size #[.int .i64 7, .int .i64 110] 47 (w5.alloc (.cells #[.int .i64 0, .int .i64 110] 47)) := CBox.kp (CBox.kp fc4 (Kp.ofBelow hb5) (by simp)) (Kp.alloc _ _) (by simp)
  have fd5 : CBox w5.heap.size #[.int .i64 0, .int .i64 110] 47 (w5.alloc (.cells #[.int .i64 0, .int .i64 110] 47)) := CBox.new w5 _ _
  obtain ⟨x0, x1, _, _⟩ := fb5.cells
  obtain ⟨y0, y1⟩ := two_cells fc5
  obtain ⟨z0, z1⟩ := two_cells fd5
  clear hb5 fb4 fc4 R5 HB4 fb5 fc5 fd5
  go_wp2
  go_ret
  exact ⟨rfl, unhide HB5⟩
end Go.Proofs.YthipclehhcfahaaGreatDoor
namespace Go.Proofs.YthipclehhcfahaaGreatDoor
open Go.RowKit Go.Shelf

set_option maxHeartbeats 4000000 in
set_option maxRecDepth 100000 in
theorem echecks_walk (ad : Option Addr) (cap : Nat) (xs : List Pt) (w : World)
    (hl : xs.length * 56 ≤ 140737488351232) (_ : xs.length ≤ cap) (hc : PtsAt w ad xs) (hok : ∀ p ∈ xs, p.ok) (ha : ad = none → cap = 0) (hss : ∀ p ∈ xs, p.s.size ≤ 140737488351232 ∧ p.st.size ≤ 140737488351232) (hT : TbE w) :
    Calls Tryz.prog 3 #[.slice ad xs.length cap] w fun e w' => e = .returned (.bool true) ∧ Kp [] w w' := by
  obtain ⟨g, cg, W0, hrun, hO0, hk0⟩ := run_copy_parts hc ha hl 22
  have hlen : xs.length ≤ 9223372036854775807 := by omega
  have HC := hide hc
  have HT := hide hT
  have HOK := hide hok
  have HF : Hid (∀ p ∈ xs, p.fit) := hide (fun p hp => (hok p hp).2.2.2.1)
  have HSS : Hid (∀ p ∈ xs, p.s.size ≤ 140737488351232 ∧ p.st.size ≤ 9223372036854775807) := hide (fun p hp => ⟨(hss p hp).1, by have := (hss p hp).2; omega⟩)
  have HRUN := hide hrun
  obtain ⟨a', c', e', hat0, _⟩ := hO0.at
  injection e' with e1 e2 e3
  subst e1 e3
  have HAT : Hid (∀ W, Kp [] W0 W → PtsAt W (some ⟨g, 0, none⟩) xs ∧ PtsAt W ad xs ∧ TbE W ∧ Kp [] w W) := hide (fun W hk => ⟨hat0.kp hk, (hc.kp hk0).kp hk, (hT.kp hk0 (by simp)).kp hk (by simp), hk0.trans hk (by simp)⟩)
  clear hrun hO0 hk0 hat0 e2 hc hT hok hss ha
  have C1 := hide (fun W (hk : Kp [] W0 W) => check_any (some ⟨g, 0, none⟩) cg xs W (unhide HAT W hk).1 (unhide HAT W hk).2.2.1 (unhide HF))
  have C2 := hide (fun W (hk : Kp [] W0 W) => rCheck_any ad cap xs W (unhide HAT W hk).2.1 (unhide HSS))
  have C3 := hide (fun W (hk : Kp [] W0 W) => write_any (some ⟨g, 0, none⟩) cg xs W (unhide HAT W hk).1 (unhide HAT W hk).2.2.1 (unhide HOK))
  have C4 := hide (fun W (hk : Kp [] W0 W) => rWrite_any ad cap xs W (unhide HAT W hk).2.1 (unhide HOK) (unhide HSS))
  have C5 := hide (fun W (hk : Kp [] W0 W) => stages_any (some ⟨g, 0, none⟩) cg xs W (unhide HAT W hk).1 (unhide HAT W hk).2.2.1 (unhide HF))
  have C6 := hide (fun W (hk : Kp [] W0 W) => rStages_any ad cap xs W (unhide HAT W hk).2.1 (unhide HSS))
  have hsl := stgS_len xs
  have g1 : (ckK xs == ckK xs) = true := by simp
  have g2 : ((if ckK xs = 0 then (110 : Int) else 0) == (if ckK xs = 0 then 110 else 0)) = true := by simp
  have g3 : ((wrS xs).toList == (wrS xs).toList) = true := by simp
  generalize (if ckK xs = 0 then (110 : Int) else 0) = EX at *
  generalize ckK xs = CKX at *
  generalize wrS xs = WX at *
  have C10 := hide (unhide C1 W0 (Kp.refl _ _))
  go_enter Tryz.func3, Tryz.ntmps3
  go_wp2_with (first | (at_builtin; refine wpList_app_run rfl _ _ _ rfl rfl rfl (unhide HRUN) ?_) | fail)
  refine (unhide C10).mono ?_
  rintro r w1 ⟨rfl, hb1⟩
  have HK1 := hide (Kp.ofBelow hb1)
  have C20 := hide (unhide C2 _ (unhide HK1))
  clear hb1 C10 HRUN
  go_wp2_with fail
  refine (unhide C20).mono ?_
  rintro r w2 ⟨rfl, hb2⟩
  have HK2 := hide ((unhide HK1).trans (Kp.ofBelow hb2) (by simp))
  have C30 := hide (unhide C3 _ (unhide HK2))
  clear hb2 C20 HK1
  go_wp2_with fail
  refine (unhide C30).mono ?_
  rintro r w3 ⟨rfl, hb3⟩
  have HK3 := hide ((unhide HK2).trans (Kp.ofBelow hb3) (by simp))
  have C40 := hide (unhide C4 _ (unhide HK3))
  clear hb3 C30 HK2
  go_wp2_with fail
  refine (unhide C40).mono ?_
  rintro r w4 ⟨rfl, hb4⟩
  have HK4 := hide ((unhide HK3).trans (Kp.ofBelow hb4) (by simp))
  have C50 := hide (unhide C5 _ (unhide HK4))
  clear hb4 C40 HK3
  go_wp2_with fail
  refine (unhide C50).mono ?_
  rintro r w5 ⟨v5, rfl, ho5, hb5⟩
  obtain ⟨a5, c5, rfl, hn5, _⟩ := ho5.at
  have HN5 := hide hn5
  have HK5 := hide ((unhide HK4).trans (Kp.ofBelow hb5) (by simp))
  have C60 := hide (unhide C6 _ (unhide HK5))
  clear hb5 C50 HK4 ho5 hn5
  go_wp2_with fail
  refine (unhide C60).mono ?_
  rintro r w6 ⟨v6, rfl, ho6, hb6⟩
  obtain ⟨a6, c6, rfl, hn6, _⟩ := ho6.at
  have C7 := hide (sameTx_true a5 a6 c5 c6 (stgS xs) w6 ((unhide HN5).kp (Kp.ofBelow hb6) (by simp)) hn6 (by omega))
  have HK6 := hide ((unhide HK5).trans (Kp.ofBelow hb6) (by simp))
  clear hb6 C60 HK5 ho6 hn6 HN5
  generalize (stgS xs).length = SL at *
  go_wp2_with fail
  refine (unhide C7).mono ?_
  rintro r w7 ⟨rfl, hk7⟩
  have HK7 := hide ((unhide HK6).trans hk7 (by simp))
  have C8 := hide (same_any (some ⟨g, 0, none⟩) ad cg cap xs xs w7 hlen (unhide HAT _ (unhide HK7)).1 (unhide HAT _ (unhide HK7)).2.1)
  rw [ptsEq_self] at C8
  clear hk7 C7 HK6
  go_wp2_with fail
  refine (unhide C8).mono ?_
  rintro r w8 ⟨rfl, hk8⟩
  have HK8 := hide ((unhide HK7).trans hk8 (by simp))
  have C9 := hide (eworks_any w8 (unhide HAT _ (unhide HK8)).2.2.1)
  have HF8 := hide (unhide HAT _ (unhide HK8)).2.2.2
  clear hk8 C8 HK7
  go_wp2_with fail
  refine (unhide C9).mono ?_
  rintro r w9 ⟨rfl, hb9⟩
  have HKF := hide ((unhide HF8).trans (Kp.ofBelow hb9) (by simp))
  clear hb9 C9 HF8
  go_wp2
  go_ret
  exact ⟨rfl, unhide HKF⟩
end Go.Proofs.YthipclehhcfahaaGreatDoor
namespace Go.Proofs.YthipclehhcfahaaGreatDoor
open Go.RowKit Go.Deep

theorem bytes_Pt : Tryz.prog.bytesOf 53 = 56 := by kernel_rfl
theorem weightsAll_mem {H : Type} {P : Program} {e : TypeId} {ds : List (DataW H)} {d : DataW H} {n : Nat} (hd : d ∈ ds) (hn : n ∈ d.weights P e) : n ∈ DataW.weightsAll P e ds := by
  induction ds with
  | nil => cases hd
  | cons x r ih =>
    simp only [DataW.weightsAll, List.mem_append]
    rcases List.mem_cons.1 hd with rfl | h
    · exact Or.inl hn
    · exact Or.inr (ih h)
set_option maxRecDepth 100000 in
theorem open_pts3 {H : Type} {enc : TypeId × Value → H} {W : World} {spare : Nat → Bool} {held : Bool} {fuel : Nat} {v : Value} {x : DataW H × List MemPlace}
    (h : DataW.trod enc Tryz.prog W 0 spare held fuel 22 [v] = some x) (hw : ∀ n ∈ x.1.weights Tryz.prog 22, n ≤ reachBytes) :
    ∃ (ad : Option Addr) (cap : Nat) (l : List Pt), v = .slice ad l.length cap ∧ l.length * 56 ≤ 140737488351232 ∧ l.length ≤ cap ∧ PtsAt W ad l ∧ (∀ y ∈ l, y.ok) ∧ (ad = none → cap = 0) ∧ ∀ y ∈ l, y.s.size ≤ 140737488351232 ∧ y.st.size ≤ 140737488351232 := by
  obtain ⟨ad, cap, l, hv, h1, h2, h3⟩ := open_pts h
  obtain ⟨f0, f1, f2, f3, f4, hu, t0, t1, t2, t3, t4, o0, o1, o2, o3, o4⟩ := open_pts_fields
  rcases open_slice Tryz.underlying22 h with ⟨hcs, _⟩ | ⟨a, len, cap', m, n, D, Pl, hcs, hb, hl, hm, hmm, rfl, hx⟩
  · simp only [List.cons.injEq, and_true] at hcs
    rw [hv] at hcs
    simp only [Value.slice.injEq] at hcs
    have hl0 : l = [] := List.eq_nil_of_length_eq_zero hcs.2.1
    subst hl0
    exact ⟨ad, cap, [], hv, by simp, by simp, h2, h3, fun _ => hcs.2.2, by simp⟩
  · simp only [List.cons.injEq, and_true] at hcs
    rw [hv] at hcs
    simp only [Value.slice.injEq] at hcs
    obtain ⟨rfl, hll, rfl⟩ := hcs
    have hlm : len ≤ m := by rw [hmm]; split <;> omega
    have hw0 : (len + (m - len)) * 56 ≤ reachBytes := by
      have := hw ((len + (m - len)) * 56) (by simp [DataW.weights, Tryz.underlying22, bytes_Pt])
      exact this
    have hreach : reachBytes = 140737488351232 := by decide
    refine ⟨some a, cap, l, hv, by omega, by omega, h2, h3, (by intro e; cases e), fun y hy => ?_⟩
    obtain ⟨i, hi, rfl⟩ := List.mem_iff_getElem.1 hy
    obtain ⟨b, off, ea, _, hc⟩ := h2 (fun e => by rw [e] at hi; simp at hi)
    obtain rfl := Option.some.inj ea
    obtain ⟨cs', k1, k2⟩ := hx i (by omega)
    rw [open_pts_cells] at k1
    obtain ⟨_, hlen, hcell⟩ := World.cells?_some k1
    obtain ⟨xs, k, hk, hxy, _, hxl, hf⟩ := DataW.trod_struct hu k2
    match xs, hxl, cs', hlen with
    | [y0, y1, y2, y3, y4], _, [v0, v1, v2, v3, v4], _ =>
      have g2 := hf 2 f2 rfl
      have g3 := hf 3 f3 rfl
      simp [o2, o3, t2, t3, open_pts_cells_string] at g2 g3
      have e2 := hcell 2 (by omega)
      have e3 := hcell 3 (by omega)
      rw [Go.Deep.add_add] at e2 e3
      obtain ⟨s, q2, q3, _⟩ := DataW.trod_string Tryz.underlying9 g2
      obtain ⟨s', q2', q3', _⟩ := DataW.trod_string Tryz.underlying9 g3
      simp only [List.cons.injEq, and_true] at q2 q2'
      subst q2 q2'
      have c2 := (hc i hi).2.2.1
      have c3 := (hc i hi).2.2.2.1
      rw [Go.WideShapes.add_plain] at e2 e3
      have e2' : W.cell? ⟨b, off + i * 5 + 2, none⟩ = some (.string s) := by rw [Nat.add_assoc]; simpa using e2
      have e3' : W.cell? ⟨b, off + i * 5 + 3, none⟩ = some (.string s') := by rw [Nat.add_assoc]; simpa using e3
      rw [c2] at e2'
      rw [c3] at e3'
      simp only [Option.some.injEq, Value.string.injEq] at e2' e3'
      rw [e2', e3']
      have hD : D i = .agg [y0.1, y1.1, y2.1, y3.1, y4.1] := by have := congrArg Prod.fst hxy; simpa using this
      have hwt : s.size ∈ (D i).weights Tryz.prog 53 := by
        rw [hD]
        simp only [DataW.weights, hu]
        refine DataW.weights_mem_each (j := 2) (t := 9) (d := y2.1) (by simp [t2]) rfl _ ?_
        rw [q3]
        simp [DataW.weights]
      have hwt' : s'.size ∈ (D i).weights Tryz.prog 53 := by
        rw [hD]
        simp only [DataW.weights, hu]
        refine DataW.weights_mem_each (j := 3) (t := 9) (d := y3.1) (by simp [t3]) rfl _ ?_
        rw [q3']
        simp [DataW.weights]
      have r1 := hw s.size (by
        simp only [DataW.weights, Tryz.underlying22, List.mem_cons, List.mem_append]
        exact Or.inr (Or.inl (weightsAll_mem (List.mem_map.2 ⟨i, List.mem_range.2 (by omega), rfl⟩) hwt)))
      have r2 := hw s'.size (by
        simp only [DataW.weights, Tryz.underlying22, List.mem_cons, List.mem_append]
        exact Or.inr (Or.inl (weightsAll_mem (List.mem_map.2 ⟨i, List.mem_range.2 (by omega), rfl⟩) hwt')))
      exact ⟨by omega, by omega⟩
end Go.Proofs.YthipclehhcfahaaGreatDoor
namespace Go.Proofs.YthipclehhcfahaaGreatDoor.exprChecks
open Go.ChangeShapes Go.WideShapes Go.ChangeAt Go.RowKit
open Go.ChangeMaps (open_string shut_string)

theorem own : ownKnob Tryz.prog.godebug = none := by kernel_rfl
theorem laidOut : laidOutB Tryz.prog = true := by kernel_rfl
set_option maxRecDepth 100000 in
/-- What the walk gives, for every argument and every world that holds the table. -/
theorem contract (H : Type) (enc : TypeId × Value → H) (W : World) (base : Nat) (args : Array Value) (ds gs : List (DataW H)) (before : List MemPlace)
    (hval : ∀ (j : Nat) t v, Tryz.f3.params[j]? = some t → args[j]? = some v → Value.okWide Tryz.prog W .any base t v)
    (hW : DataW.Whole enc Tryz.prog Tryz.f3.params.toList Rows.exprChecksSpec.vars false W args.toList ds gs before) (hsz0 : (DataW.weightsEach Tryz.prog (Tryz.f3.params.toList ++ (OpenSpec.ofChange Rows.exprChecksSpec).bare.plain.varTypes Tryz.prog) (ds ++ gs)).all (· ≤ reachBytes) = true) (hL : laidMetH Tryz.prog Rows.exprChecksRow.laid W) :
    Calls Tryz.prog 3 args W fun e W' => ∃ v, e = .returned v ∧ Rows.exprChecksSpec.post enc Tryz.prog Tryz.f3 false true false false W args v W' := by
  have hW' := hW
  obtain ⟨p, q, hA0, hV, rfl, hfz, hnd⟩ := hW
  have hA : DataW.TrodAll enc Tryz.prog W 0 (fun _ => true) true Tryz.f3.params.toList args.toList ds p := hA0
  rw [Tryz.params3] at hA hval
  have hsz : (DataW.weightsEach Tryz.prog (Tryz.f3.params.toList ++ Rows.exprChecksSpec.plain.varTypes Tryz.prog) (ds ++ gs)).all (· ≤ reachBytes) = true := hsz0
  rw [Tryz.params3] at hsz
  obtain ⟨v0, vs0, d0, ds0, p0, q0, hargs, rfl, rfl, h0, r0⟩ := trodAll_cons hA
  obtain ⟨rfl, rfl, rfl⟩ := trodAll_nil r0
  obtain rfl : args = #[v0] := by cases args; simp_all
  obtain ⟨rfl, rfl⟩ := trodVars_none hV
  have h0k := h0
  obtain ⟨a0, len0, cp0, rfl⟩ := okWide_slice Tryz.underlying22 (hval 0 22 v0 rfl rfl)
  have z0 : ∀ n ∈ d0.weights Tryz.prog 22, n ≤ reachBytes := fun n hn => of_decide_eq_true (List.all_eq_true.1 hsz n (DataW.weights_mem_each (j := 0) (t := 22) (d := d0) rfl rfl n hn))
  obtain ⟨fuel0, hf0⟩ := h0
  obtain ⟨ad0, cap0, l0, hv0, hl0, hc0, hI0, hok0, hn0, hss0⟩ := open_pts3 (v := .slice a0 len0 cp0) (by simpa [Value.cells] using hf0) z0
  rw [hv0] at hW' h0k ⊢
  clear hf0 hv0
  clear hA0
  simp only [List.append_nil] at hW'
  have hlt0 : ∀ x ∈ p0, x.block < W.heap.size := fun x hx => by simpa using hW'.lt x (by simp [hx])
  refine (echecks_walk ad0 cap0 l0 W hl0 hc0 hI0 hok0 hn0 hss0 (tbE hL)).mono fun e W' ⟨he, hg0⟩ => ?_
  subst he
  have hg := hg0.below (Nat.le_refl W.heap.size) (by simp)
  exact ⟨_, rfl, _, _, _, [], p0 ++ [], [], hW', trodAll_cons_mk (shut_bool Tryz.underlying4 _) trodAll_mk0, trodAll_cons_mk (Below.trod laidOut (by kernel_rfl) (of_decide_eq_true (by kernel_rfl)) h0k hg hlt0) trodAll_mk0, rfl, hg.frame _, fun h => by cases h⟩

theorem laid_met (os : Os) : laidMet Tryz.prog Rows.exprChecksRow.laid ({ World.holding Tryz.prog os ⟨errBlks, #[], []⟩ with heap := putL (World.holding Tryz.prog os ⟨errBlks, #[], []⟩).heap }.forCall (fun _ _ => 0) ⟨#[], #[.slice none 0 0], []⟩).memory :=
  laidMet_of_run' 8 (by kernel_rfl) (by kernel_rfl)
theorem reads (os : Os) {H : Type} (enc : TypeId × Value → H) : ∃ places, DataW.whole enc Tryz.prog ({ World.holding Tryz.prog os ⟨errBlks, #[], []⟩ with heap := putL (World.holding Tryz.prog os ⟨errBlks, #[], []⟩).heap }.forCall (fun _ _ => 0) ⟨#[], #[.slice none 0 0], []⟩).memory Tryz.f3.params.toList Rows.exprChecksSpec.vars false #[Value.slice none 0 0].toList 8 = some ([.nil], [], places) :=
  ⟨[], by kernel_rfl⟩
set_option maxRecDepth 100000 in
theorem lifted (os : Os) (started : os.Started) (H : Type) (enc : TypeId × Value → H) (F : Stop.Interp) :
    ReturnsInHanded {} Tryz.checked os 3 .any ((OpenSpec.ofChange Rows.exprChecksSpec).preRow enc Tryz.prog Tryz.f3 Rows.exprChecksRow.domain false Rows.exprChecksRow.laid) (((OpenSpec.ofChange Rows.exprChecksSpec).at F).post enc Tryz.prog Tryz.f3 false true false false) := by
  obtain ⟨places, hx⟩ := reads os enc
  refine returnsInHanded_of_row (C := Tryz.checked) (s := OpenSpec.ofChange Rows.exprChecksSpec) own started (by kernel_rfl) Tryz.func3
    (witness_row_at (enc := enc) (C := Tryz.checked) false { World.holding Tryz.prog os ⟨errBlks, #[], []⟩ with heap := putL (World.holding Tryz.prog os ⟨errBlks, #[], []⟩).heap } #[.slice none 0 0] rfl (by kernel_rfl) (by kernel_rfl) (by kernel_rfl)
      (OpenSpec.preRow_of_cond 8 hx (by kernel_rfl) (fun k hk => by cases hk) (by kernel_rfl) (laid_met os))) ?_
  intro W base args ds gs before hval hW _ _ hsz hL _ _
  exact contract H enc W base args ds gs before hval hW hsz hL
theorem said : Rows.ExprChecksSaid :=
  OpenClaim.holds_of_cond 3 Tryz.f3 rfl rfl rfl rfl rfl rfl rfl ⟨rfl, rfl, rfl, rfl, rfl⟩ rfl rfl rfl rfl rfl (by kernel_rfl) Tryz.func3 (by kernel_rfl)
    (of_decide_eq_true (by kernel_rfl)) (by unfold Func.isWrapper; first | (rw [if_pos (by decide +kernel)]; kernel_rfl) | (rw [if_neg (by decide +kernel)]; exact ⟨rfl, rfl⟩))
    (fun os started H enc _ F => by rw [OpenClaim.pre_eq_preRow]; exact lifted os started H enc F)
/-- No parameter wants a stand-in; the program's own looks are off. -/
theorem plain (f : FuncId) (fn : Func) (hf : Tryz.pinned.checked.prog.funcNamed "weaver/weaverlaw11.ExprChecks" = some f) (hfn : Tryz.pinned.checked.prog.funcs[f]? = some fn) :
    true = Tryz.pinned.checked.prog.looks [] ∧ ∀ (j : Nat) t, fn.params[j]? = some t → Tryz.pinned.checked.prog.wantsStandIn t = false := by
  obtain rfl : f = 3 := Option.some.inj ((show Tryz.prog.funcNamed "weaver/weaverlaw11.ExprChecks" = some 3 by kernel_rfl).symm.trans hf) |>.symm
  obtain rfl : fn = Tryz.f3 := (Option.some.inj (Tryz.func3.symm.trans hfn)).symm
  refine ⟨by kernel_rfl, fun j t ht => ?_⟩
  rw [Tryz.params3] at ht
  have hm := Array.mem_of_getElem? ht
  simp at hm
  subst hm
  exact (show Tryz.prog.wantsStandIn 22 = false by kernel_rfl)
end Go.Proofs.YthipclehhcfahaaGreatDoor.exprChecks
namespace Go.Proofs.YthipclehhcfahaaGreatDoor
/-- The card. -/
theorem exprChecks_card : Rows.ExprChecksCardSaid :=
  Claim7.holds_tied_plain_at .later [] _ _ _ _ exprChecks.said (fun _ h => by cases h) (by kernel_rfl) (fun _ h => by cases h) exprChecks_row_tie rfl ⟨rfl, rfl⟩ (by kernel_rfl) rfl exprChecks.plain (by kernel_rfl)
end Go.Proofs.YthipclehhcfahaaGreatDoor
