/-
  EventMatches: the walk.
  A slice of numbers that comes in as an argument: its numbers lie where it says.
  A match that comes in as an argument: its stages and places lie where it says.
-/
import Derived.Test.YtpfcoaimciojjaaG07
import Derived.Test.YtpfcoaimciojjaaG19
import Derived.Test.YtpfcoaimciojjaaG27
import Derived.Test.YtpfcoaimciojjaaG08
import Derived.Test.YtpfcoaimciojjaaG04
import Derived.Test.YtpfcoaimciojjaaG02
import Derived.ProofKit
import Derived.OpenShut
import Derived.Deep.Slices
namespace Go.Proofs.Ytpfcoaimciojjaa
open Go.RowKit

theorem StagesAt.kpM {w w' : World} {ad : Option Addr} {ss : List (List Int)} (h : StagesAt w ad ss) (hk : Kp [] w w') : StagesAt w' ad ss := h.below (hk.below (Nat.le_refl _) (by simp)) (Nat.le_refl _)
theorem StagesN.kpM {w w' : World} {ad : Option Addr} {ss : List (List Int)} (h : StagesN w ad ss) (hk : Kp [] w w') : StagesN w' ad ss := fun hne => by
  obtain ⟨b, off, h1, h2, h3⟩ := h hne
  refine ⟨b, off, h1, Nat.lt_of_lt_of_le h2 hk.size, fun i hi => ?_⟩
  obtain ⟨a, c, x, y, z⟩ := h3 i hi
  exact ⟨a, c, hk.cell x (by simp), y.below (hk.below (Nat.le_refl _) (by simp)) (Nat.le_refl _), z⟩
theorem two_cells_M {g : Nat} {k : ByteArray} {v : Value} {w : World} (h : CBox g #[.string k, v] 35 w) : w.cell? ⟨g, 0, none⟩ = some (.string k) ∧ w.cell? ⟨g, 1, none⟩ = some v := ⟨h.cell rfl, h.cell rfl⟩
theorem kpT {a b c : World} (h : Kp [] a b) (k : Kp [] b c) : Kp [] a c := h.trans k (by simp)
/-- What lies there: both matches, and what was read of the bytes by both. -/
structure MaS (g1 g5 g10 g12 : Nat) (k : ByteArray) (v1 v5 : Value) (ky : ByteArray) (vy : Value) (kz : ByteArray) (vz : Value) (w0 w : World) : Prop where
  kp : Kp [] w0 w
  b1 : CBox g1 #[.string k, v1] 35 w
  b5 : CBox g5 #[.string k, v5] 35 w
  b10 : CBox g10 #[.string ky, vy] 35 w
  b12 : CBox g12 #[.string kz, vz] 35 w
theorem MaS.next {g1 g5 g10 g12 : Nat} {k : ByteArray} {v1 v5 : Value} {ky : ByteArray} {vy : Value} {kz : ByteArray} {vz : Value} {w0 w w' : World} (h : MaS g1 g5 g10 g12 k v1 v5 ky vy kz vz w0 w) (hk : Kp [] w w') : MaS g1 g5 g10 g12 k v1 v5 ky vy kz vz w0 w' :=
  ⟨kpT h.kp hk, h.b1.kp hk (by simp), h.b5.kp hk (by simp), h.b10.kp hk (by simp), h.b12.kp hk (by simp)⟩
theorem MaS.cells {g1 g5 g10 g12 : Nat} {k : ByteArray} {v1 v5 : Value} {ky : ByteArray} {vy : Value} {kz : ByteArray} {vz : Value} {w0 w : World} (h : MaS g1 g5 g10 g12 k v1 v5 ky vy kz vz w0 w) : w.cell? ⟨g1, 0, none⟩ = some (.string k) ∧ w.cell? ⟨g1, 1, none⟩ = some v1 ∧ w.cell? ⟨g5, 0, none⟩ = some (.string k) ∧ w.cell? ⟨g5, 1, none⟩ = some v5 ∧ w.cell? ⟨g10, 0, none⟩ = some (.string ky) ∧ w.cell? ⟨g10, 1, none⟩ = some vy ∧ w.cell? ⟨g12, 0, none⟩ = some (.string kz) ∧ w.cell? ⟨g12, 1, none⟩ = some vz :=
  ⟨h.b1.cell rfl, h.b1.cell rfl, h.b5.cell rfl, h.b5.cell rfl, h.b10.cell rfl, h.b10.cell rfl, h.b12.cell rfl, h.b12.cell rfl⟩
theorem All3.shp {B : Nat} {w : World} : ∀ {vs ps}, All3 B w vs ps → ∀ v ∈ vs, ShpN B w v
  | [], _, _, v, hv => by cases hv
  | _ :: _, _ :: _, h, v, hv => by
    rcases List.mem_cons.1 hv with rfl | hv
    · exact h.1.shp
    · exact All3.shp h.2 v hv
  | _ :: _, [], h, _, _ => h.elim
set_option maxHeartbeats 2000000 in
set_option maxRecDepth 100000 in
theorem emat_walk (k : ByteArray) (ad : Option Addr) (cap : Nat) (ss : List (List Int)) (b : ByteArray) (w : World) (hok : MtOk k ss) (hA : StagesN w ad ss) (hs : ss.length ≤ 5864062014805) (hp : ∀ p ∈ ss, p.length ≤ 17592186044416) (hb : b.size ≤ 9223372036854775807) :
    Calls Try.prog 4 #[.agg #[.string k, .slice ad ss.length cap], .string b] w fun e w' => e = .returned (.bool true) ∧ Below w.heap.size w w' := by
  have k1 := Kp.alloc w (.cells #[.string k, .slice ad ss.length cap] 35)
  have x1 := CBox.new w #[.string k, .slice ad ss.length cap] 35
  have CM := hide (copyMatch_any k ad cap ss _ hs hp (hA.kpM k1))
  have HOK := hide hok
  have HA := hide hA.at
  have DM := hide (fun W => decodeMatch_own b W hb)
  have RM := hide (fun W => refDecodeMatch_any b W hb)
  have WK := hide (fun W => evWorks_any W)
  have H1 := hide (And.intro k1 x1)
  clear hA hok k1 x1 hp hb
  go_enter Try.func4, Try.ntmps4
  go_wp2_with fail
  refine (unhide CM).mono ?_
  rintro r w2 ⟨a2, c2, rfl, st2, bl2⟩
  have k2 := kpT (unhide H1).1 (Kp.ofBelow bl2)
  have x2 := (unhide H1).2.kp (Kp.ofBelow bl2) (by simp)
  have k3 := Kp.alloc w2 (.cells #[.string k, .slice a2 ss.length c2] 35)
  have y3 := CBox.new w2 #[.string k, .slice a2 ss.length c2] 35
  have x3 := x2.kp k3 (by simp)
  have st3 := st2.kpM k3
  have sm3 := (unhide HA).kpM (kpT k2 k3)
  have EM := hide (encodeMatch_any k a2 c2 ss _ (unhide HOK) st3)
  have H3 := hide (And.intro (kpT k2 k3) (And.intro x3 (And.intro y3 (And.intro st3 sm3))))
  obtain ⟨e0, e1⟩ := two_cells_M y3
  clear CM k2 x2 k3 y3 x3 st3 sm3 bl2 st2 H1 HA
  go_wp2_with fail
  generalize w2.alloc (.cells #[.string k, .slice a2 ss.length c2] 35) = W3 at *
  refine (unhide EM).mono ?_
  rintro r w4 ⟨rfl, bl4⟩
  have j4 := Kp.ofBelow bl4
  have RE := hide (refEncodeMatch_any k ad cap ss _ (unhide HOK) ((unhide H3).2.2.2.2.kpM j4))
  have H4 := hide (And.intro (kpT (unhide H3).1 j4) (And.intro ((unhide H3).2.1.kp j4 (by simp)) (And.intro ((unhide H3).2.2.1.kp j4 (by simp)) (And.intro ((unhide H3).2.2.2.1.kpM j4) ((unhide H3).2.2.2.2.kpM j4)))))
  clear e0 e1 EM bl4 j4 H3
  obtain ⟨e0, e1⟩ := two_cells_M (unhide H4).2.1
  go_wp2_with fail
  refine (unhide RE).mono ?_
  rintro r w5 ⟨rfl, bl5⟩
  have j5 := Kp.ofBelow bl5
  have H5 := hide (And.intro (kpT (unhide H4).1 j5) (And.intro ((unhide H4).2.1.kp j5 (by simp)) (And.intro ((unhide H4).2.2.1.kp j5 (by simp)) (And.intro ((unhide H4).2.2.2.1.kpM j5) ((unhide H4).2.2.2.2.kpM j5)))))
  clear e0 e1 RE bl5 j5 H4
  go_wp2_with fail
  refine (unhide DM _).mono ?_
  rintro r w6 ⟨ky, sy, ay, cy, rfl, sty, oky, dy, bl6, ny, vs, ov, al⟩
  have j6 := Kp.ofBelow bl6
  have k7 := Kp.alloc w6 (.cells #[.string ky, .slice ay sy.length cy] 35)
  have z7 := CBox.new w6 #[.string ky, .slice ay sy.length cy] 35
  have HY := hide (And.intro oky (And.intro dy (And.intro ny (And.intro ov (And.intro al (And.intro (sty.kpM k7) (And.intro j6 (And.intro k7 z7))))))))
  clear DM sty oky dy ny ov al bl6 j6 k7 z7
  go_wp2_with fail
  refine (unhide RM _).mono ?_
  rintro r w8 ⟨bl8, kz, sz, az, cz, rfl, stz, dz, nz⟩
  have j8 := Kp.ofBelow bl8
  have k9 := Kp.alloc w8 (.cells #[.string kz, .slice az sz.length cz] 35)
  have z9 := CBox.new w8 #[.string kz, .slice az sz.length cz] 35
  obtain ⟨oky, dy, ny, ov, al, sty, j6, k7, z7⟩ := unhide HY
  have heq : ky = kz ∧ sy = sz := by
    by_cases hc : dmC b = 0
    · have e1 := (dy hc).2.1
      rw [dz hc] at e1
      injection e1 with e1
      injection e1 with e1 e2
      exact ⟨e1.symm, e2.symm⟩
    · obtain ⟨e1, e2⟩ := ny hc
      obtain ⟨e3, e4⟩ := nz hc
      exact ⟨e1.trans e3.symm, e2.trans e4.symm⟩
  obtain ⟨rfl, rfl⟩ := heq
  have k59 : Kp [] w5 (w8.alloc (.cells #[.string ky, .slice az sy.length cz] 35)) := kpT j6 (kpT k7 (kpT j8 k9))
  have k69 : Kp [] w6 (w8.alloc (.cells #[.string ky, .slice az sy.length cz] 35)) := kpT k7 (kpT j8 k9)
  have HM : Hid (MaS w.heap.size w2.heap.size w6.heap.size w8.heap.size k (.slice ad ss.length cap) (.slice a2 ss.length c2) ky (.slice ay sy.length cy) ky (.slice az sy.length cz) w (w8.alloc (.cells #[.string ky, .slice az sy.length cz] 35))) := hide ⟨kpT (unhide H5).1 k59, (unhide H5).2.1.kp k59 (by simp), (unhide H5).2.2.1.kp k59 (by simp), z7.kp (kpT j8 k9) (by simp), z9⟩
  have HO : Hid (OwnsV w5.heap.size (w8.alloc (.cells #[.string ky, .slice az sy.length cz] 35)) (.slice ay sy.length cy) vs ∧ All3 w5.heap.size (w8.alloc (.cells #[.string ky, .slice az sy.length cz] 35)) vs sy) := hide ⟨ov.below (k69.below (Nat.le_refl _) (by simp)) (Nat.le_refl _), al.mono (fun v p h => h.below (k69.below (Nat.le_refl _) (by simp)) (Nat.le_refl _))⟩
  have HST : Hid (StagesAt (w8.alloc (.cells #[.string ky, .slice az sy.length cz] 35)) ad ss ∧ StagesAt (w8.alloc (.cells #[.string ky, .slice az sy.length cz] 35)) a2 ss ∧ StagesAt (w8.alloc (.cells #[.string ky, .slice az sy.length cz] 35)) ay sy ∧ StagesAt (w8.alloc (.cells #[.string ky, .slice az sy.length cz] 35)) az sy) := hide ⟨(unhide H5).2.2.2.2.kpM k59, (unhide H5).2.2.2.1.kpM k59, sty.kpM (kpT j8 k9), stz.kpM k9⟩
  have H59 := hide k59
  have HOY := hide oky
  have hvl : Hid (vs.length = sy.length) := hide al.two.len
  have hy8 : Hid (dmC b = 0 → mayM ky sy = true) := hide (fun h => (dy h).2.2)
  have hyn : Hid (dmC b ≠ 0 → sy = []) := hide (fun h => (ny h).2)
  clear HY RM bl8 j8 k9 z9 oky dy ny ov al sty j6 k7 z7 stz dz nz k59 k69
  go_upto_region 6 with fail
  generalize hW9 : w8.alloc (.cells #[.string ky, .slice az sy.length cz] 35) = W9 at *
  clear hW9
  generalize w2.heap.size = g5 at *
  have hgs : g5 < w5.heap.size ∧ w.heap.size < w5.heap.size := ⟨(Array.getElem?_eq_some_iff.1 (unhide H5).2.2.1).1, (Array.getElem?_eq_some_iff.1 (unhide H5).2.1).1⟩
  generalize w6.heap.size = g10 at *
  generalize w8.heap.size = g12 at *
  have HMd : Hid (MaS w.heap.size g5 g10 g12 k (.slice ad ss.length cap) (.slice a2 ss.length c2) ky (.slice ay sy.length cy) ky (.slice az sy.length cz) w W9.drew) := hide ((unhide HM).next (Kp.drew _))
  have C1 := hide (fun W (hk : Kp [] W9 W) => checkMatch_any k a2 c2 ss W (unhide HOK) ((unhide HST).2.1.kpM hk))
  have C2 := hide (fun W (hk : Kp [] W9 W) => refCheckMatch_any k ad cap ss W (unhide HOK) ((unhide HST).1.kpM hk))
  have C3 := hide (fun W (hk : Kp [] W9 W) => sameMatch_any ky ay cy sy ky az cz sy W (unhide HOY) (unhide HOY) ((unhide HST).2.2.1.kpM hk) ((unhide HST).2.2.2.kpM hk))
  rw [decide_eq_true (show ky = ky ∧ sy = sy from ⟨rfl, rfl⟩)] at C3
  have cS := (unhide HMd).cells
  have J0 : Hid (Kp [] W9 W9.drew) := hide (Kp.drew _)
  go_cut [61] (fun x wc => x = .bool false ∧ Hid (Kp [] W9 wc))
  case first =>
    go_region_held3 (fun W => W.cell? ⟨w.heap.size, 0, none⟩ = some (.string k) ∧ W.cell? ⟨w.heap.size, 1, none⟩ = some (.slice ad ss.length cap) ∧ W.cell? ⟨g5, 0, none⟩ = some (.string k) ∧ W.cell? ⟨g5, 1, none⟩ = some (.slice a2 ss.length c2) ∧ W.cell? ⟨g10, 0, none⟩ = some (.string ky) ∧ W.cell? ⟨g10, 1, none⟩ = some (.slice ay sy.length cy) ∧ W.cell? ⟨g12, 0, none⟩ = some (.string ky) ∧ W.cell? ⟨g12, 1, none⟩ = some (.slice az sy.length cz))
      (first | with_reducible exact cS | with_reducible exact cS1 | with_reducible exact cS2 | with_reducible exact cS3)
      (first
        | (go_at_call 20; refine (unhide C3 _ (unhide J2)).mono ?_; rintro r w13 ⟨rfl, b13⟩; have J3 := hide (kpT (unhide J2) (Kp.ofBelow b13)); have cS3 := ((unhide HM).next (unhide J3)).cells; clear b13)
        | (go_at_call 19; refine (unhide C2 _ (unhide J1)).mono ?_; rintro r w12 ⟨rfl, b12⟩; have J2 := hide (kpT (unhide J1) (Kp.ofBelow b12)); have cS2 := ((unhide HM).next (unhide J2)).cells; clear b12)
        | (go_at_call 18; refine (unhide C1 _ (unhide J0)).mono ?_; rintro r w11 ⟨rfl, e11⟩; have J1 : Hid (Kp [] W9 w11) := hide (by rw [e11]; exact kpT (unhide J0) (Kp.alloc _ _)); have cS1 := ((unhide HM).next (unhide J1)).cells; clear e11))
    go_wp2
    go_meet
    exact ⟨rfl, J3⟩
  case rest =>
    obtain ⟨rfl, J4⟩ := hcut
    clear cS C1 C2 C3 J0 HMd
    have kY := kpT (unhide J4) (Kp.alloc wc (.cells #[.string ky, .slice ay sy.length cy] 35))
    have hqs : w5.heap.size ≤ wc.heap.size := Nat.le_trans (unhide H59).size (unhide J4).size
    have STS : StS w5.heap.size wc.heap.size (.slice ay vs.length cy) vs (wc.alloc (.cells #[.string ky, .slice ay sy.length cy] 35)) := by
      rw [unhide hvl]
      exact ⟨⟨ky, CBox.new _ _ _⟩, (unhide HO).1.below (kY.below (Nat.le_refl _) (by simp)) (Nat.le_refl _), ((unhide HO).2.mono (fun v p h => h.below (kY.below (Nat.le_refl _) (by simp)) (Nat.le_refl _))).shp⟩
    have hvs : vs.length ≤ 1000000 := by
      rw [unhide hvl]
      by_cases hc : dmC b = 0
      · have := (mayM_ne (unhide hy8 hc)).2.1; omega
      · rw [unhide hyn hc]; simp
    have SM := hide (spoilMatches_one w5.heap.size wc.heap.size ay cy vs _ hqs hvs STS)
    obtain ⟨x0, x1, x2, x3, x4, x5, x6, x7⟩ := ((unhide HM).next (unhide J4)).cells
    have KY := hide kY
    clear STS kY hvs hqs
    go_wp2_with fail
    refine (unhide SM).mono ?_
    rintro r w14 ⟨rfl, b14⟩
    have B5 : Below w5.heap.size w5 w14 := ((kpT (unhide H59) (unhide KY)).below (Nat.le_refl _) (by simp)).trans b14
    have s1 := (unhide H5).2.2.2.2.below B5 (Nat.le_refl _)
    have s2 := (unhide H5).2.2.2.1.below B5 (Nat.le_refl _)
    have bx1 : CBox w.heap.size #[.string k, .slice ad ss.length cap] 35 w14 := (B5.block _ hgs.2).trans (unhide H5).2.1
    have bx5 : CBox g5 #[.string k, .slice a2 ss.length c2] 35 w14 := (B5.block _ hgs.1).trans (unhide H5).2.2.1
    have C4 := hide (sameMatch_any k a2 c2 ss k ad cap ss w14 (unhide HOK) (unhide HOK) s2 s1)
    rw [decide_eq_true (show k = k ∧ ss = ss from ⟨rfl, rfl⟩)] at C4
    have BW : Hid (Below w.heap.size w w14) := hide (((unhide H5).1.below (Nat.le_refl _) (by simp)).trans (B5.mono (Nat.le_of_lt hgs.2)))
    clear x0 x1 x2 x3 x4 x5 x6 x7 b14 SM s1 s2 B5
    obtain ⟨x0, x1⟩ := two_cells_M bx1
    obtain ⟨x2, x3⟩ := two_cells_M bx5
    clear bx1 bx5
    go_wp2_with fail
    refine (unhide C4).mono ?_
    rintro r w15 ⟨rfl, b15⟩
    have B15 := hide ((unhide BW).trans (b15.mono (unhide BW).size))
    clear x0 x1 x2 x3 b15 C4 BW
    go_wp2_with fail
    refine (unhide WK _).mono ?_
    rintro r w16 ⟨rfl, b16⟩
    have B16 := hide ((unhide B15).trans (b16.mono (unhide B15).size))
    clear b16 B15
    go_wp2
    go_ret
    exact ⟨rfl, unhide B16⟩
end Go.Proofs.Ytpfcoaimciojjaa
namespace Go.Proofs.Ytpfcoaimciojjaa
open Go.RowKit Go.Deep

theorem cells_int : Try.prog.cellsOf 3 = 1 := by kernel_rfl
section
variable {H : Type} {enc : TypeId × Value → H} {W : World} {spare : Nat → Bool} {held : Bool} {fuel : Nat} {v : Value} {x : DataW H × List MemPlace}
theorem open_ints (h : DataW.trod enc Try.prog W 0 spare held fuel 61 [v] = some x) :
    ∃ (ad : Option Addr) (cap : Nat) (l : List Int), v = .slice ad l.length cap ∧ l.length ≤ 9223372036854775807 ∧ IntsAt W ad l ∧ (∀ y ∈ l, -9223372036854775808 ≤ y ∧ y ≤ 9223372036854775807) ∧ (ad = none → cap = 0) := by
  rcases open_slice1 Try.underlying61 cells_int h with ⟨hcs, _⟩ | ⟨a, len, cap, m, n, V, D, Pl, hcs, hb, hl, hm, hmm, _, hx⟩
  · simp only [List.cons.injEq, and_true] at hcs
    subst hcs
    exact ⟨none, 0, [], rfl, by simp, fun hne => absurd rfl hne, by simp, fun _ => rfl⟩
  · simp only [List.cons.injEq, and_true] at hcs
    subst hcs
    have hlm : len ≤ m := by rw [hmm]; split <;> omega
    have each : ∀ i, i < len → ∃ y : Int, W.cell? (a.add i) = some (.int .i64 y) ∧ -9223372036854775808 ≤ y ∧ y ≤ 9223372036854775807 := by
      intro i hi
      obtain ⟨h1, h2⟩ := hx i (by omega)
      obtain ⟨k1, q1, _, wf⟩ := DataW.trod_int Try.underlying3 h2
      simp only [List.cons.injEq, and_true] at q1
      rw [q1] at h1
      have := bounds_i64 wf
      exact ⟨k1, h1, this.1, by omega⟩
    have hinh : Inhabited Int := ⟨0⟩
    obtain ⟨q, hq⟩ := choose_lt each
    refine ⟨some a, cap, (List.range len).map q, by simp, by simp; unfold maxLen at hm; omega, fun hne => ?_, fun y hy => ?_, fun e => by cases e⟩
    · have h0 : 0 < len := by
        rcases Nat.eq_zero_or_pos len with e | e
        · subst e; simp at hne
        · exact e
      obtain ⟨b, off, spot⟩ := a
      have hc0 := (hq 0 h0).1
      have hspot : spot = none := by simpa [Addr.add] using World.cell?_spot hc0
      subst hspot
      refine ⟨b, off, rfl, ?_, fun i hi => ?_⟩
      · rcases Nat.lt_or_ge b W.heap.size with hlt | hge
        · exact hlt
        · exfalso
          rw [Go.WideShapes.add_plain] at hc0
          simp [World.cell?, Array.getElem?_eq_none hge] at hc0
      · have hi' : i < len := by simpa using hi
        obtain ⟨c0, _⟩ := hq i hi'
        rw [Go.WideShapes.add_plain] at c0
        simp only [List.getElem_map, List.getElem_range]
        exact c0
    · obtain ⟨i, hi, rfl⟩ := List.mem_map.1 hy
      exact (hq i (List.mem_range.1 hi)).2
theorem open_intsB (h : DataW.trod enc Try.prog W 0 spare held fuel 61 [v] = some x) :
    ∃ (ad : Option Addr) (cap : Nat) (l : List Int), v = .slice ad l.length cap ∧ l.length ≤ 9223372036854775807 ∧ IntsAt W ad l ∧ ∀ y ∈ l, -9223372036854775808 ≤ y ∧ y ≤ 9223372036854775807 :=
  let ⟨ad, cap, l, h1, h2, h3, h4, _⟩ := open_ints h
  ⟨ad, cap, l, h1, h2, h3, h4⟩
end
end Go.Proofs.Ytpfcoaimciojjaa
namespace Go.Proofs.Ytpfcoaimciojjaa
open Go.RowKit Go.Deep

theorem cells_Match : Try.prog.cellsOf 35 = 2 := by kernel_rfl
theorem cells_ints : Try.prog.cellsOf 61 = 1 := by kernel_rfl
theorem cells_stages : Try.prog.cellsOf 33 = 1 := by kernel_rfl
theorem cells_str : Try.prog.cellsOf 9 = 1 := by kernel_rfl
theorem fields_Match : ∃ f0 f1 : Field, Try.prog.underlying 35 = some (.struct #[f0, f1]) ∧ f0.type = 9 ∧ f1.type = 33 ∧ f0.offset = 0 ∧ f1.offset = 1 :=
  ⟨_, _, Try.underlying35, rfl, rfl, rfl, rfl⟩
section
variable {H : Type} {enc : TypeId × Value → H} {W : World} {spare : Nat → Bool} {held : Bool} {fuel : Nat} {v : Value} {x : DataW H × List MemPlace}
theorem open_stages (h : DataW.trod enc Try.prog W 0 spare held fuel 33 [v] = some x) :
    ∃ (ad : Option Addr) (cap : Nat) (ss : List (List Int)), v = .slice ad ss.length cap ∧ ss.length ≤ 9223372036854775807 ∧ StagesAt W ad ss ∧ (∀ p ∈ ss, p.length ≤ 9223372036854775807) ∧ (ad = none → cap = 0) := by
  rcases open_slice1 Try.underlying33 cells_ints h with ⟨hcs, _⟩ | ⟨a, len, cap, m, n, V, D, Pl, hcs, hb, hl, hm, hmm, _, hx⟩
  · simp only [List.cons.injEq, and_true] at hcs
    subst hcs
    exact ⟨none, 0, [], rfl, by simp, fun hne => absurd rfl hne, by simp, fun _ => rfl⟩
  · simp only [List.cons.injEq, and_true] at hcs
    subst hcs
    have hlm : len ≤ m := by rw [hmm]; split <;> omega
    have each : ∀ i, i < len → ∃ p : List Int, (∃ a' c, W.cell? (a.add i) = some (.slice a' p.length c) ∧ IntsAt W a' p) ∧ p.length ≤ 9223372036854775807 := by
      intro i hi
      obtain ⟨h1, h2⟩ := hx i (by omega)
      obtain ⟨ad, cp, l, e, hl', hI, _⟩ := open_ints h2
      rw [e] at h1
      exact ⟨l, ⟨ad, cp, h1, hI⟩, hl'⟩
    have hinh : Inhabited (List Int) := ⟨[]⟩
    obtain ⟨q, hq⟩ := choose_lt each
    refine ⟨some a, cap, (List.range len).map q, by simp, by simp; unfold maxLen at hm; omega, fun hne => ?_, fun y hy => ?_, fun e => by cases e⟩
    · have h0 : 0 < len := by
        rcases Nat.eq_zero_or_pos len with e | e
        · subst e; simp at hne
        · exact e
      obtain ⟨b, off, spot⟩ := a
      obtain ⟨_, _, hc0, _⟩ := (hq 0 h0).1
      have hspot : spot = none := by simpa [Addr.add] using World.cell?_spot hc0
      subst hspot
      refine ⟨b, off, rfl, ?_, fun i hi => ?_⟩
      · rcases Nat.lt_or_ge b W.heap.size with hlt | hge
        · exact hlt
        · exfalso
          rw [Go.WideShapes.add_plain] at hc0
          simp [World.cell?, Array.getElem?_eq_none hge] at hc0
      · have hi' : i < len := by simpa using hi
        obtain ⟨⟨a', c, c0, hI⟩, _⟩ := hq i hi'
        rw [Go.WideShapes.add_plain] at c0
        simp only [List.getElem_map, List.getElem_range]
        exact ⟨a', c, c0, hI⟩
    · obtain ⟨i, hi, rfl⟩ := List.mem_map.1 hy
      exact (hq i (List.mem_range.1 hi)).2
theorem open_match {cs : Array Value} (hsz : cs.size = Try.prog.cellsOf 35) (h : DataW.trod enc Try.prog W 0 spare held fuel 35 cs.toList = some x) :
    ∃ (k : ByteArray) (ad : Option Addr) (cap : Nat) (ss : List (List Int)), cs = #[.string k, .slice ad ss.length cap] ∧ MtOk k ss ∧ StagesAt W ad ss ∧ (ad = none → cap = 0) := by
  obtain ⟨f0, f1, hu, t0, t1, o0, o1⟩ := fields_Match
  rw [cells_Match] at hsz
  obtain ⟨xs, n, _, _, _, hxl, hf⟩ := DataW.trod_struct hu h
  obtain ⟨v0, v1, rfl⟩ : ∃ v0 v1, cs = #[v0, v1] := by
    obtain ⟨l⟩ := cs
    have hl : l.length = 2 := hsz
    cases l with
    | nil => cases hl
    | cons a r =>
      cases r with
      | nil => cases hl
      | cons b r =>
        cases r with
        | nil => exact ⟨a, b, rfl⟩
        | cons c r => simp at hl
  match xs, hxl with
  | [y0, y1], _ =>
    have g0 := hf 0 f0 rfl
    have g1 := hf 1 f1 rfl
    simp [o0, o1, t0, t1, cells_str, cells_stages] at g0 g1
    obtain ⟨s, q0, _, hs⟩ := DataW.trod_string Try.underlying9 g0
    simp only [List.cons.injEq, and_true] at q0
    obtain ⟨ad, cap, ss, e, hl, hS, hp, hn⟩ := open_stages g1
    subst q0 e
    exact ⟨s, ad, cap, ss, rfl, ⟨by unfold maxLen at hs; omega, hl, hp⟩, hS, hn⟩
end
end Go.Proofs.Ytpfcoaimciojjaa
