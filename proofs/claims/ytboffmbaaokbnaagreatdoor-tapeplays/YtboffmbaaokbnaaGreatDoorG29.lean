/-
  What both disks' files and tapes say of one another.
  TapePlays: the walk.
  A slice of acts on tapes that comes in as an argument, with the weights of its texts.
-/
import Derived.Test.YtboffmbaaokbnaaGreatDoorG24
import Derived.Test.YtboffmbaaokbnaaGreatDoorG28
import Derived.Deep.RegionHeld3
import Derived.Deep.DeepCutAuto
import Derived.Test.YtboffmbaaokbnaaGreatDoorG25
import Derived.SizedLaws
namespace Go.Proofs.YtboffmbaaokbnaaGreatDoor
open Go.RowKit

theorem rd_at {d : Dk} (hr : Room d.now) (hn : (d.now.map (·.1)).Nodup) (i : Nat) (hi : i < d.now.length) : d.rdE d.now[i].1 = 0 ∧ d.rdS d.now[i].1 = ⟨d.now[i].2.toArray⟩ ∧ d.now[i].1.size ≤ 32 := by
  have hx : (d.now[i].1, d.now[i].2) ∈ d.now := List.getElem_mem hi
  have hd := hr.2 _ hx
  have hg := getF_mem hn hx
  have e := badN_0 (d := d) hd (by rw [hg]; rfl)
  exact ⟨e, by unfold Dk.rdS hasF; rw [if_pos e, hg]; rfl, dnm_len hd⟩
theorem names_row {w : World} {v : Value} {fs : Fs} (h : w.ownsRow 0 9 1 v fs.length (nmC fs)) : TxRow w v (fs.map (·.1)) := by
  unfold TxRow
  rw [List.length_map, List.map_map]
  exact h
theorem TxRow.form0 {w : World} {v : Value} {ts : List ByteArray} (h : TxRow w v ts) : ∃ ad cap, v = .slice ad ts.length cap := by
  obtain ⟨_, ⟨rfl, h0⟩ | ⟨g, cap, cur, rfl, _⟩⟩ := h
  · exact ⟨none, 0, by rw [h0]⟩
  · exact ⟨_, _, rfl⟩
theorem TxRow.at0 {w : World} {ad : Option Addr} {n cap : Nat} {ts : List ByteArray} (h : TxRow w (.slice ad n cap) ts) (i : Nat) (hi : i < ts.length) : ∃ g, ad = some ⟨g, 0, none⟩ ∧ w.cell? ⟨g, i, none⟩ = some (.string ts[i]) := by
  obtain ⟨_, ⟨e, h0⟩ | ⟨g, cap', cur, e, _⟩⟩ := id h
  · omega
  · simp only [Value.slice.injEq] at e
    obtain ⟨rfl, rfl, rfl⟩ := e
    exact ⟨g, rfl, h.cell i hi⟩
theorem FlRow.at0 {w : World} {ad : Option Addr} {n cap : Nat} {fs : Fs} (h : FlRow w (.slice ad n cap) fs) (i : Nat) (hi : i < fs.length) : ∃ g, ad = some ⟨g, 0, none⟩ ∧ w.cell? ⟨g, i * 2 + 1, none⟩ = some (.string ⟨fs[i].2.toArray⟩) := by
  rcases h.shape with ⟨_, h0⟩ | ⟨g, cap', e, _⟩
  · rw [h0] at hi; simp at hi
  · simp only [Value.slice.injEq] at e
    obtain ⟨rfl, rfl, rfl⟩ := e
    exact ⟨g, rfl, (h.cell i hi).2⟩
theorem TW.kpn {w0 w w' : World} {g p q : Nat} {n : ByteArray} {d : Dk} {c : Nat} (h : TW w0 w g p q n d c) (hk : Kp [] w w') : TW w0 w' g p q n d c := by
  obtain ⟨tv, mv, lost, F, G, hb, ht⟩ := h
  refine ⟨tv, mv, lost, F, G, hb.kpn hk, fun hl => ?_⟩
  obtain ⟨t, m, v, u, ts, h1, h2, h3, h4⟩ := ht hl
  exact ⟨t, m, v, u, ts, h1, h2, h3.kpn hk, h4⟩
set_option maxHeartbeats 4000000 in
set_option maxRecDepth 100000 in
theorem wsame_any (g p q : Nat) (n : ByteArray) (d : Dk) (c : Nat) (w0 w : World) (h : TW w0 w g p q n d c) (hs : Srt d.safe) (hc6 : c ≤ 60) :
    Calls Tryz.prog 9 #[.pointer (some ⟨g, 0, none⟩)] w fun r w' => r = .returned (.bool true) ∧ TW w0 w' g p q n d c := by
  have HPK := hide (fun W (hk : Kp [] w W) => h.kpn hk)
  obtain ⟨tv, mv, lost, F, G, hb, ht⟩ := h
  have hd := hb.dk
  have hg := hb.rd
  have hi := hd.inv
  have hnd := hd.nodup
  have hroom := hi.now
  have HRD := hide (fun i (hx : i < d.now.length) => rd_at hroom hnd i hx)
  have hnm := nmL_srt (srt_now hi hs)
  have hfew := hi.few
  have hlen : d.now.length ≤ 64 := hroom.1.2
  obtain ⟨vs, vw, vn, hw, hG⟩ := id hg
  obtain ⟨aw, cw, hvw⟩ : ∃ aw cw, vw = .slice aw d.wait.length cw := by
    rcases hw.wait.shape with ⟨e, h0⟩ | ⟨_, _, e, _⟩
    · exact ⟨none, 0, by rw [e, h0]; rfl⟩
    · exact ⟨_, _, e⟩
  obtain ⟨an, cn, hvn⟩ : ∃ an cn, vn = .slice an d.now.length cn := by
    rcases hw.now.shape with ⟨e, h0⟩ | ⟨_, _, e, _⟩
    · exact ⟨none, 0, by rw [e, h0]; rfl⟩
    · exact ⟨_, _, e⟩
  subst hvw hvn
  have HB := hide (fun W (hk : Kp [] w W) => (hb.kpn hk).cells)
  have HC := hide (fun W (hk : Kp [] w W) => (show W.cell? ⟨g, 0, none⟩ = some (.pointer (some ⟨p, 0, none⟩)) ∧ W.cell? ⟨g, 1, none⟩ = some tv ∧ W.cell? ⟨g, 2, none⟩ = some (.pointer (some ⟨q, 0, none⟩)) ∧ W.cell? ⟨g, 3, none⟩ = some mv ∧ W.cell? ⟨g, 4, none⟩ = some (.string n) ∧ W.cell? ⟨g, 5, none⟩ = some (.bool lost) ∧ W.cell? ⟨q, 1, none⟩ = some (.slice aw d.wait.length cw) from ⟨(hb.kpn hk).bx.cell rfl, (hb.kpn hk).bx.cell rfl, (hb.kpn hk).bx.cell rfl, (hb.kpn hk).bx.cell rfl, (hb.kpn hk).bx.cell rfl, (hb.kpn hk).bx.cell rfl, (hw.box.kp hk (by simp)).cell rfl⟩))
  have HN := hide (fun W (hk : Kp [] w W) => (show W.cell? ⟨q, 2, none⟩ = some (.slice an d.now.length cn) from (hw.box.kp hk (by simp)).cell rfl))
  have HFL := hide (fun W (hk : Kp [] w W) => hw.now.kp hk (by simp))
  have NM := hide (names_any p d F w hd)
  rw [hnm] at NM
  have RN := hide (fun W (hk : Kp [] w W) => rnames_dk q d G W (hg.kp hk (by simp)) hi)
  have WT := hide (fun W (hk : Kp [] w W) => waiting_any p d F W (hd.kp hk (by simp)))
  have RD := hide (fun n W (hk : Kp [] w W) hn => read_any n p d F W (hd.kp hk (by simp)) hn)
  have HTT := hide ht
  obtain ⟨e0, e1, e2, e3, e4, e5⟩ := hb.cells
  clear hi hnd hroom hnm hw hd hg hG hs hb ht
  go_enter Tryz.func9, Tryz.ntmps9
  go_wp2_with fail
  refine (unhide NM).mono ?_
  rintro r w1 ⟨v1, rfl, t1, k1, _⟩
  have HT1 := hide t1
  have HK1 := hide k1
  obtain ⟨a1, c1, hv1⟩ := t1.form0
  rw [List.length_map] at hv1
  subst hv1
  have cS := unhide HC w1.drew (k1.trans (Kp.drew _) (by simp))
  have HKd : Hid (Kp [] w w1.drew) := hide (k1.trans (Kp.drew _) (by simp))
  have SX : Hid (∀ W v2, Kp [] w1.drew W → TxRow W v2 (d.now.map (·.1)) → Calls Tryz.prog 31 #[.slice a1 d.now.length c1, v2] W fun e w' => e = .returned (.bool true) ∧ Kp [] W w') := hide (fun W v2 hk h2 => sameTx_any _ v2 _ W ((unhide HT1).kp ((Kp.drew w1).trans hk (by simp)) (by simp)) h2 (by rw [List.length_map]; omega))
  clear NM t1 k1 e0 e1 e2 e3 e4 e5
  go_upto_region 2 with fail
  go_cut [38] (fun x wc => x = .bool false ∧ Hid (Kp [] w1 wc))
  case first =>
    go_region_held3 (fun W => W.cell? ⟨g, 0, none⟩ = some (.pointer (some ⟨p, 0, none⟩)) ∧ W.cell? ⟨g, 1, none⟩ = some tv ∧ W.cell? ⟨g, 2, none⟩ = some (.pointer (some ⟨q, 0, none⟩)) ∧ W.cell? ⟨g, 3, none⟩ = some mv ∧ W.cell? ⟨g, 4, none⟩ = some (.string n) ∧ W.cell? ⟨g, 5, none⟩ = some (.bool lost) ∧ W.cell? ⟨q, 1, none⟩ = some (.slice aw d.wait.length cw))
      (first | with_reducible exact cS | with_reducible exact cS2 | with_reducible exact cS3)
      (first
        | (go_at_call 33; refine (unhide WT _ (unhide H3)).mono ?_; rintro r w4 ⟨rfl, rfl⟩)
        | (go_at_call 31; refine (unhide SX _ _ (unhide J2) (names_row (unhide T2))).mono ?_; rintro r w3 ⟨rfl, k3⟩; have J3 := hide ((unhide J2).trans k3 (by simp)); have H3 := hide ((unhide HKd).trans (unhide J3) (by simp)); have cS3 := unhide HC _ (unhide H3); clear k3)
        | (go_at_call 32; refine (unhide RN _ (unhide HKd)).mono ?_; rintro r w2 ⟨v2, rfl, t2, k2, o2⟩; have T2 := hide t2; have J2 := hide k2; have cS2 := unhide HC _ ((unhide HKd).trans k2 (by simp)); clear t2 k2 o2))
    go_wp2
    go_meet
    exact ⟨rfl, hide ((Kp.drew w1).trans (unhide J3) (by simp))⟩
  case rest =>
    obtain ⟨rfl, HK2⟩ := hcut
    clear cS SX WT RN HC
    go_wp2_with fail
    go_loopw [4] (fun i wr => ∃ k : Nat, k ≤ d.now.length ∧ i = .int .i64 (k : Int) ∧ Hid (Kp [] w1 wr)) (fun i _ => d.now.length - (intOf i).toNat)
    case atStart => exact ⟨0, Nat.zero_le _, rfl, HK2⟩
    case round =>
      obtain ⟨k, hk, rfl, HK3⟩ := hrel
      have HKw : Hid (Kp [] w wr) := hide ((unhide HK1).trans (unhide HK3) (by simp))
      by_cases hlt : k < d.now.length
      · have hlt' : (k : Int) < (d.now.length : Int) := by omega
        have HK4 : Hid (Kp [] w1 wr.drew) := hide ((unhide HK3).trans (Kp.drew wr) (by simp))
        have HKe : Hid (Kp [] w wr.drew) := hide ((unhide HKw).trans (Kp.drew wr) (by simp))
        obtain ⟨g1, hg1, e1⟩ := ((unhide HT1).kp (unhide HK4) (by simp)).at0 k (by rw [List.length_map]; exact hlt)
        obtain ⟨g2, hg2, e2⟩ := (unhide HFL _ (unhide HKe)).at0 k hlt
        subst hg1 hg2
        have e3 := unhide HN _ (unhide HKe)
        rw [List.getElem_map] at e1
        obtain ⟨x1, x2, x3⟩ := unhide HRD k hlt
        have RK := hide (unhide RD d.now[k].1 wr.drew (unhide HKe) (by omega))
        rw [x1, x2] at RK
        obtain ⟨f0, f1, f2, f3, f4, f5⟩ := unhide HB _ (unhide HKe)
        clear x1 x2 x3 RD HRD HFL HN HTT
        generalize d.now[k].1 = nm at *
        generalize (⟨d.now[k].2.toArray⟩ : ByteArray) = hs at *
        have cS : wr.drew.cell? ⟨g, 0, none⟩ = some (.pointer (some ⟨p, 0, none⟩)) ∧ wr.drew.cell? ⟨g1, k, none⟩ = some (.string nm) := ⟨f0, e1⟩
        go_wp2_with fail
        go_region_held3 (fun W => W.cell? ⟨g, 0, none⟩ = some (.pointer (some ⟨p, 0, none⟩)) ∧ W.cell? ⟨g1, k, none⟩ = some (.string nm))
          (first | with_reducible exact cS)
          (first | (go_at_call 34; refine (unhide RK).mono ?_; rintro r w5 ⟨rfl, rfl⟩))
        clear RK
        go_wp2
        go_roundw
        case rel => exact ⟨k + 1, by omega, by go_num, HK4⟩
        case measure => simp [intOf]; omega
      · have hlt' : ¬ ((k : Int) < (d.now.length : Int)) := by omega
        clear RD HRD HFL HN
        obtain ⟨f0, f1, f2, f3, f4, f5⟩ := unhide HB _ (unhide HKw)
        cases lost with
        | true =>
          clear HTT
          go_wp2
          go_ret
          exact ⟨rfl, unhide HPK _ (unhide HKw)⟩
        | false =>
          obtain ⟨t, m, v, u, ts, rfl, rfl, hts, hcnt⟩ := unhide HTT rfl
          obtain ⟨am, cm, rfl⟩ := hts.rq.row.form
          have HS := hide (fun W (hk : Kp [] w W) => hts.kpn hk)
          have HM := hide (fun W (hk : Kp [] w W) => (hts.kpn hk).rq.cells.2.2.1)
          have hct : ts.length ≤ 1000000 := by omega
          have HKe : Hid (Kp [] w wr.drew) := hide ((unhide HKw).trans (Kp.drew wr) (by simp))
          have LN := hide (len_any t p n v ts wr.drew (unhide HS _ (unhide HKe)).tp)
          obtain ⟨b0, b1, b2, b3, b4, b5⟩ := unhide HB _ (unhide HKe)
          have cS : wr.drew.cell? ⟨g, 1, none⟩ = some (.pointer (some ⟨t, 0, none⟩)) ∧ wr.drew.cell? ⟨g, 3, none⟩ = some (.pointer (some ⟨m, 0, none⟩)) ∧ wr.drew.cell? ⟨m, 2, none⟩ = some (.slice am ts.length cm) := ⟨b1, b3, unhide HM _ (unhide HKe)⟩
          clear hts HTT b0 b1 b2 b3 b4 b5 hcnt
          go_wp2_with fail
          go_region_held3 (fun W => W.cell? ⟨g, 1, none⟩ = some (.pointer (some ⟨t, 0, none⟩)) ∧ W.cell? ⟨g, 3, none⟩ = some (.pointer (some ⟨m, 0, none⟩)) ∧ W.cell? ⟨m, 2, none⟩ = some (.slice am ts.length cm))
            (first | with_reducible exact cS)
            (first | (go_at_call 35; refine (unhide LN).mono ?_; rintro r w5 ⟨rfl, rfl⟩))
          clear LN cS f0 f1 f2 f3 f4 f5 hlt hlt'
          go_wp2_with fail
          go_loopw [7] (fun i wr => ∃ k : Nat, k ≤ ts.length ∧ i = .int .i64 (k : Int) ∧ Hid (Kp [] w wr)) (fun i _ => ts.length - (intOf i).toNat)
          case atStart => exact ⟨0, Nat.zero_le _, rfl, HKe⟩
          case round =>
            clear HKe HKw HK3 hk
            obtain ⟨j, hj, rfl, HKx⟩ := hrel
            obtain ⟨f0, f1, f2, f3, f4, f5⟩ := unhide HB _ (unhide HKx)
            have f6 := unhide HM _ (unhide HKx)
            by_cases hjt : j < ts.length
            · have hjt' : (j : Int) < (ts.length : Int) := by omega
              have TR := hide (tread_ok t p n v ts j hjt wr (unhide HS _ (unhide HKx)).tp)
              have HTX := hide (fun W (hk : Kp [] w W) => (unhide HS W hk).rq.row.at0 j hjt)
              generalize (⟨ts[j].toArray⟩ : ByteArray) = X at *
              go_wp2_with fail
              refine (unhide TR).mono ?_
              rintro r w6 ⟨rfl, k6⟩
              have HKy : Hid (Kp [] w w6) := hide ((unhide HKx).trans k6 (by simp))
              clear f0 f1 f2 f3 f4 f5 f6 TR k6
              obtain ⟨f0, f1, f2, f3, f4, f5⟩ := unhide HB _ (unhide HKy)
              have f6 := unhide HM _ (unhide HKy)
              obtain ⟨gm, hgm, f7⟩ := unhide HTX _ (unhide HKy)
              subst hgm
              clear HTX HS HM HB
              go_wp2
              go_roundw
              case rel => exact ⟨j + 1, by omega, by go_num, HKy⟩
              case measure => simp [intOf]; omega
            · have hjt' : ¬ ((j : Int) < (ts.length : Int)) := by omega
              clear HS HM HB
              go_wp2
              go_ret
              exact ⟨rfl, unhide HPK _ (unhide HKx)⟩
end Go.Proofs.YtboffmbaaokbnaaGreatDoor
namespace Go.Proofs.YtboffmbaaokbnaaGreatDoor
open Go.RowKit

theorem TW.bel {w0 w : World} {g p q : Nat} {n : ByteArray} {d : Dk} {c : Nat} (h : TW w0 w g p q n d c) : Kp [] w0 w := let ⟨_, _, _, _, _, hb, _⟩ := h; hb.kp
theorem tb_new {w w1 w2 w3 : World} {p : Nat} {n : ByteArray} {F G : List Nat} (hk1 : Kp [] w w1) (hd : DiskAt w2 p Dk.new F) (hk : Kp [] w1 w2) (hF : ∀ k ∈ F, w1.heap.size ≤ k) (hg : RDk w3 w2.heap.size Dk.new G) (hk2 : Kp [] w2 w3) (hG : ∀ k ∈ G, w2.heap.size ≤ k) :
    TB w (w3.alloc (.cells #[.pointer (some ⟨p, 0, none⟩), .pointer none, .pointer (some ⟨w2.heap.size, 0, none⟩), .pointer none, .string n, .bool false] 34)) w3.heap.size p w2.heap.size n Dk.new Dk.new (.pointer none) (.pointer none) false F G := by
  have ka := Kp.alloc w3 (.cells #[.pointer (some ⟨p, 0, none⟩), .pointer none, .pointer (some ⟨w2.heap.size, 0, none⟩), .pointer none, .string n, .bool false] 34)
  have s1 := hk1.size
  have s2 := hk.size
  have s3 := hk2.size
  exact ⟨(hd.kp hk2 (by simp)).kp ka (by simp), hg.kp ka (by simp), ((hk1.trans hk (by simp)).trans hk2 (by simp)).trans ka (by simp), CBox.new _ _ _, fun k hm => ⟨by have := hF k hm; omega, fun h2 => by have := hd.lt k hm; have := hG k h2; omega⟩, fun k hm => by have := hG k hm; omega, by omega⟩
set_option maxHeartbeats 4000000 in
set_option maxRecDepth 100000 in
theorem tplays_walk (n : ByteArray) (ad : Option Addr) (cap : Nat) (l : List A4) (w : World) (_hl : l.length ≤ 9223372036854775807) (hA : Acts4 w ad l) (hok : ∀ y ∈ l, y.ok) (hz : ∀ y ∈ l, y.s.size ≤ 140737488355328) (hn : n.size ≤ 9223372036854775807) (hT : TabW w) :
    Calls Tryz.prog 3 #[.string n, .slice ad l.length cap] w fun e w' => e = .returned (.bool true) ∧ Kp [] w w' := by
  have HA := hide hA
  have HOK := hide hok
  have HZ := hide hz
  have HT := hide hT
  have TN := hide (topen_nil n w)
  have NW := hide (fun W => new_any W)
  have RN := hide (fun W => rnew_dk W)
  have WK := hide (fun W (hk : Kp [] w W) => works_any W (hT.kp hk (by simp)))
  clear hA hok hz hT
  go_enter Tryz.func3, Tryz.ntmps3
  go_wp2_with fail
  refine (unhide TN).mono ?_
  rintro r w1 ⟨rfl, k1⟩
  have K1 := hide k1
  clear k1 TN
  go_wp2_with fail
  refine (unhide NW _).mono ?_
  rintro r w2 ⟨p, F, rfl, hd, hk, hF⟩
  have H1 := hide (And.intro hd (And.intro hk hF))
  clear hd hk hF NW
  go_wp2_with fail
  refine (unhide RN _).mono ?_
  rintro r w3 ⟨rfl, G, hg, hk2, hG⟩
  have HP := hide (tb_new (n := n) (unhide K1) (unhide H1).1 (unhide H1).2.1 (unhide H1).2.2 hg hk2 hG)
  clear hg hk2 hG H1 RN K1
  generalize w2.heap.size = q at *
  have e0 := (unhide HP).cells.1
  have OP := hide (wopen_any _ p q n Dk.new _ _ _ F G w _ (unhide HP) (unhide HT) hn)
  go_wp2_with fail
  refine (unhide OP).mono ?_
  rintro r w5 ⟨rfl, tw5⟩
  have T5 := hide tw5
  have S5 := hide (srt_op (d := Dk.new) List.Pairwise.nil n)
  clear tw5 OP e0 HP
  generalize w3.heap.size = g at *
  generalize Dk.new.opD n = d5 at *
  go_wp2_with fail
  go_loopw [8] (fun i wr => ∃ (k : Nat) (d : Dk), k ≤ l.length ∧ k ≤ 60 ∧ i = .int .i64 (k : Int) ∧ Hid (TW w wr g p q n d k) ∧ Hid (Srt d.safe)) (fun i _ => 60 - (intOf i).toNat)
  case atStart => exact ⟨0, d5, Nat.zero_le _, Nat.zero_le _, rfl, T5, S5⟩
  case round =>
    obtain ⟨k, d, hk, hk2, rfl, HD, HS⟩ := hrel
    clear T5 S5
    by_cases hlt : k < l.length
    · have hlt' : (k : Int) < (l.length : Int) := by omega
      by_cases h2 : k < 60
      · have h2' : (k : Int) < 60 := by omega
        obtain ⟨b, off, hb, hbl, hc⟩ := (unhide HA) (by intro e; rw [e] at hlt; simp at hlt)
        subst hb
        have hkb := (unhide HD).bel
        obtain ⟨c0, c1, c2, c3⟩ := hc k hlt
        replace c0 := hkb.cell c0 (by simp)
        replace c1 := hkb.cell c1 (by simp)
        replace c2 := hkb.cell c2 (by simp)
        replace c3 := hkb.cell c3 (by simp)
        have SP := hide (wstep_any l[k] g p q n d k w wr (unhide HD) h2 (unhide HOK _ (List.getElem_mem hlt)) (unhide HZ _ (List.getElem_mem hlt)) (unhide HT) hn)
        clear hc hkb HD
        generalize l[k] = a at *
        go_wp2_with fail
        refine (unhide SP).mono ?_
        rintro r w4 ⟨rfl, d', hp, hs⟩
        have HS4 := hide (hs (unhide HS))
        have SM := hide (wsame_any g p q n d' (k + 1) w w4 hp (unhide HS4) (by omega))
        clear hp hs SP c0 c1 c2 c3 HS
        go_wp2_with fail
        refine (unhide SM).mono ?_
        rintro r w6 ⟨rfl, hp6⟩
        have HD6 := hide hp6
        clear hp6 SM
        go_wp2
        go_roundw
        case rel => exact ⟨k + 1, d', by omega, by omega, by go_num, HD6, HS4⟩
        case measure => simp [intOf]; omega
      · have h2' : ¬ ((k : Int) < 60) := by omega
        have WK' := hide (unhide WK _ (unhide HD).bel)
        go_wp2_with fail
        refine (unhide WK').mono ?_
        rintro r w7 ⟨rfl, k3⟩
        have HK := hide ((unhide HD).bel.trans k3 (by simp))
        clear k3 WK'
        go_wp2
        go_ret
        exact ⟨rfl, unhide HK⟩
    · have hlt' : ¬ ((k : Int) < (l.length : Int)) := by omega
      have WK' := hide (unhide WK _ (unhide HD).bel)
      go_wp2_with fail
      refine (unhide WK').mono ?_
      rintro r w7 ⟨rfl, k3⟩
      have HK := hide ((unhide HD).bel.trans k3 (by simp))
      clear k3 WK'
      go_wp2
      go_ret
      exact ⟨rfl, unhide HK⟩
end Go.Proofs.YtboffmbaaokbnaaGreatDoor
namespace Go.Proofs.YtboffmbaaokbnaaGreatDoor
open Go.RowKit Go.Deep

set_option maxRecDepth 100000 in
theorem open_acts4W {H : Type} {enc : TypeId × Value → H} {W : World} {spare : Nat → Bool} {held : Bool} {fuel : Nat} {v : Value} {x : DataW H × List MemPlace}
    (h : DataW.trod enc Tryz.prog W 0 spare held fuel 22 [v] = some x) :
    ∃ (ad : Option Addr) (cap : Nat) (l : List A4), v = .slice ad l.length cap ∧ l.length ≤ 9223372036854775807 ∧ Acts4 W ad l ∧ (∀ y ∈ l, y.ok) ∧ ((∀ m ∈ x.1.weights Tryz.prog 22, m ≤ reachBytes) → ∀ y ∈ l, y.s.size ≤ reachBytes) := by
  obtain ⟨f0, f1, f2, f3, hu, t0, t1, t2, t3, o0, o1, o2, o3⟩ := fields_Act4
  rcases open_slice Tryz.underlying22 h with ⟨hcs, _⟩ | ⟨a, len, cap, m, n, D, Pl, hcs, hb, hl, hm, hmm, hxe, hx⟩
  · simp only [List.cons.injEq, and_true] at hcs
    subst hcs
    exact ⟨none, 0, [], rfl, by simp, fun hne => absurd rfl hne, by simp, by simp⟩
  · simp only [List.cons.injEq, and_true] at hcs
    subst hcs
    have hlm : len ≤ m := by rw [hmm]; split <;> omega
    have each : ∀ i, i < len → ∃ y : A4, W.cell? (a.add (i * 4)) = some (.int .i64 y.kind) ∧ W.cell? (a.add (i * 4 + 1)) = some (.int .i64 y.pos) ∧ W.cell? (a.add (i * 4 + 2)) = some (.int .i64 y.n) ∧ W.cell? (a.add (i * 4 + 3)) = some (.string y.s) ∧ y.ok ∧ ((∀ m ∈ (D i).weights Tryz.prog 38, m ≤ reachBytes) → y.s.size ≤ reachBytes) := by
      intro i hi
      obtain ⟨cs', h1, h2⟩ := hx i (by omega)
      rw [cells_Act4] at h1
      obtain ⟨_, hlen, hcell⟩ := World.cells?_some h1
      obtain ⟨xs, k, hk, hxy, _, hxl, hf⟩ := DataW.trod_struct hu h2
      obtain ⟨y0, y1, y2, y3, rfl⟩ := list4 xs hxl
      obtain ⟨v0, v1, v2, v3, rfl⟩ := list4 cs' hlen
      have g0 := hf 0 f0 rfl
      have g1 := hf 1 f1 rfl
      have g2 := hf 2 f2 rfl
      have g3 := hf 3 f3 rfl
      simp [o0, o1, o2, o3, t0, t1, t2, t3, cells_int4, cells_string4] at g0 g1 g2 g3
      have e0 := hcell 0 (by omega)
      have e1 := hcell 1 (by omega)
      have e2 := hcell 2 (by omega)
      have e3 := hcell 3 (by omega)
      rw [Go.Deep.add_add] at e0 e1 e2 e3
      obtain ⟨k0, q0, _, wf0⟩ := DataW.trod_int Tryz.underlying3 g0
      obtain ⟨k1, q1, _, wf1⟩ := DataW.trod_int Tryz.underlying3 g1
      obtain ⟨k2, q2, _, wf2⟩ := DataW.trod_int Tryz.underlying3 g2
      obtain ⟨s3, q3, hy3, hs3⟩ := DataW.trod_string Tryz.underlying9 g3
      simp only [List.cons.injEq, and_true] at q0 q1 q2 q3
      subst q0 q1 q2 q3
      have b0 := bounds_i64 wf0
      have b1 := bounds_i64 wf1
      have b2 := bounds_i64 wf2
      unfold maxLen at hs3
      exact ⟨⟨k0, k1, k2, s3⟩, by simpa using e0, by simpa using e1, by simpa using e2, by simpa using e3, ⟨⟨b0.1, by show k0 ≤ _; omega⟩, ⟨b1.1, by show k1 ≤ _; omega⟩, ⟨b2.1, by show k2 ≤ _; omega⟩, by show s3.size ≤ _; omega⟩, fun hw => by
        have := hw s3.data.toList.length (by
          rw [show D i = _ from congrArg Prod.fst hxy]
          have hu' : Tryz.prog.underlying 38 = some (.struct #[f0, f1, f2, f3]) := hu
          simp only [DataW.weights, hu']
          refine DataW.weights_mem_each (j := 3) (t := 9) (d := y3.1) ?_ rfl _ ?_
          · simp [t3]
          · rw [hy3]; simp [DataW.weights])
        simpa using this⟩
    have hinh : Inhabited A4 := ⟨⟨0, 0, 0, ⟨#[]⟩⟩⟩
    obtain ⟨q, hq⟩ := choose_lt each
    refine ⟨some a, cap, (List.range len).map q, by simp, by simp; unfold maxLen at hm; omega, fun hne => ?_, fun y hy => ?_, fun hw y hy => ?_⟩
    · have h0 : 0 < len := by
        rcases Nat.eq_zero_or_pos len with e | e
        · subst e; simp at hne
        · exact e
      obtain ⟨b, off, spot⟩ := a
      have hc0 := (hq 0 h0).1
      have hspot : spot = none := by simpa [Addr.add] using World.cell?_spot hc0
      subst hspot
      refine ⟨b, off, rfl, ?_, fun i hi => ?_⟩
      · rcases Nat.lt_or_ge b W.heap.size with hlt | hge
        · exact hlt
        · exfalso
          rw [Go.WideShapes.add_plain] at hc0
          simp [World.cell?, Array.getElem?_eq_none hge] at hc0
      · have hi' : i < len := by simpa using hi
        obtain ⟨c0, c1, c2, c3, _, _⟩ := hq i hi'
        rw [Go.WideShapes.add_plain] at c0 c1 c2 c3
        simp only [List.getElem_map, List.getElem_range]
        exact ⟨c0, by rw [Nat.add_assoc]; exact c1, by rw [Nat.add_assoc]; exact c2, by rw [Nat.add_assoc]; exact c3⟩
    · obtain ⟨i, hi, rfl⟩ := List.mem_map.1 hy
      exact (hq i (List.mem_range.1 hi)).2.2.2.2.1
    · obtain ⟨i, hi, rfl⟩ := List.mem_map.1 hy
      refine (hq i (List.mem_range.1 hi)).2.2.2.2.2 (fun m hm => hw m ?_)
      rw [hxe]
      simp only [DataW.weights, Tryz.underlying22]
      refine List.mem_cons_of_mem _ (List.mem_append.2 (Or.inl ?_))
      have hall : ∀ (L : List (DataW H)) (d : DataW H), d ∈ L → ∀ m ∈ d.weights Tryz.prog 38, m ∈ DataW.weightsAll Tryz.prog 38 L := by
        intro L
        induction L with
        | nil => intro d hd; cases hd
        | cons y L ih =>
          intro d hd m hm
          simp only [DataW.weightsAll]
          rcases List.mem_cons.1 hd with rfl | hd
          · exact List.mem_append.2 (Or.inl hm)
          · exact List.mem_append.2 (Or.inr (ih d hd m hm))
      exact hall _ (D i) (List.mem_map.2 ⟨i, hi, rfl⟩) m hm
end Go.Proofs.YtboffmbaaokbnaaGreatDoor
