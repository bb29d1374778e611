/-
  Names of a disk, and what is read by them.
  Whether texts are the same.
  Whether both disks have the same files, and as many changes that wait.
  DiskPlays: the walk.
  A slice of acts that comes in as an argument, with the weights of its texts.
-/
import Derived.Test.YtfnljfkgkadlaaaG23
import Derived.Deep.AppendLies
import Derived.Test.YtfnljfkgkadlaaaG25
import Derived.Test.YtfnljfkgkadlaaaG12
import Derived.Deep.DeepCutAuto
import Derived.Test.YtfnljfkgkadlaaaG24
import Derived.SizedLaws
namespace Go.Proofs.Ytfnljfkgkadlaaa
open Go.RowKit

set_option maxHeartbeats 1000000 in
theorem names_any (p : Nat) (d : Dk) (F : List Nat) (w : World) (h : DiskAt w p d F) :
    Calls Try.prog 26 #[.pointer (some ⟨p, 0, none⟩)] w fun e w' => ∃ v, e = .returned v ∧ TxRow w' v (nmL d.now) ∧ Kp [] w w' ∧ ∀ k, v.ownBlock = some k → w.heap.size ≤ k := by
  have hroom := h.inv.now
  obtain ⟨bs, bn, wv, Ls, Ln, ha, rfl, _⟩ := h
  have c := ha.cells
  have nf := names_files bn d.now Ln w ha.now hroom
  have NF := hide nf
  clear nf ha hroom
  go_enter Try.func26, Try.ntmps26
  go_wp2_with fail
  refine (unhide NF).mono ?_
  rintro e w1 ⟨v, rfl, h1, h2, h3⟩
  have H1 := hide h1
  have H3 := hide h3
  clear h1 h3 c
  go_wp2
  go_ret
  exact ⟨v, rfl, unhide H1, h2, unhide H3⟩
theorem nmL_read {d : Dk} (hr : Room d.now) (hn : (d.now.map (·.1)).Nodup) {s : ByteArray} (hs : s ∈ nmL d.now) : d.rdE s = 0 ∧ d.rdS s = ⟨(hasF d.now s).toArray⟩ ∧ s.size ≤ 32 := by
  obtain ⟨x, hx⟩ := nmL_mem hs
  have hd := hr.2 _ hx
  have e := badN_0 (d := d) hd (by rw [getF_mem hn hx]; rfl)
  exact ⟨e, by unfold Dk.rdS; rw [if_pos e], dnm_len hd⟩
end Go.Proofs.Ytfnljfkgkadlaaa
namespace Go.Proofs.Ytfnljfkgkadlaaa
open Go.RowKit

theorem Kp.drewN (w : World) (n : Nat) : Kp [] w (w.drewN n) := ⟨rfl, rfl, rfl, Nat.le_refl _, fun _ _ _ => rfl⟩
set_option maxHeartbeats 1000000 in
theorem sameTx_any (v1 v2 : Value) (ts : List ByteArray) (w : World) (h1 : TxRow w v1 ts) (h2 : TxRow w v2 ts) (hl : ts.length ≤ 9223372036854775807) :
    Calls Try.prog 27 #[v1, v2] w fun e w' => e = .returned (.bool true) ∧ Kp [] w w' := by
  have H1 := hide h1
  have H2 := hide h2
  obtain ⟨_, ⟨rfl, h0⟩ | ⟨g1, c1, cur1, rfl, _⟩⟩ := h1
  · obtain rfl : ts = [] := List.eq_nil_of_length_eq_zero h0
    obtain ⟨a2, c2, rfl⟩ : ∃ a2 c2, v2 = .slice a2 0 c2 := by
      obtain ⟨_, ⟨rfl, h0⟩ | ⟨g2, c2, cur2, rfl, _⟩⟩ := h2
      · exact ⟨_, _, rfl⟩
      · exact ⟨_, _, rfl⟩
    clear h2
    go_enter Try.func27, Try.ntmps27
    go_wp2
    go_loopw [5] (fun i wr => i = .int .i64 0 ∧ wr = w) (fun _ _ => 0)
    case atStart => exact ⟨rfl, rfl⟩
    case round =>
      obtain ⟨rfl, rfl⟩ := hrel
      go_wp2
      go_ret
      exact ⟨rfl, Kp.refl _ _⟩
  · by_cases hne : ts = []
    · subst hne
      obtain ⟨a2, c2, rfl⟩ : ∃ a2 c2, v2 = .slice a2 0 c2 := by
        obtain ⟨_, ⟨rfl, h0⟩ | ⟨g2, c2, cur2, rfl, _⟩⟩ := h2
        · exact ⟨_, _, rfl⟩
        · exact ⟨_, _, rfl⟩
      clear h2
      go_enter Try.func27, Try.ntmps27
      go_wp2
      go_loopw [5] (fun i wr => i = .int .i64 0 ∧ wr = w) (fun _ _ => 0)
      case atStart => exact ⟨rfl, rfl⟩
      case round =>
        obtain ⟨rfl, rfl⟩ := hrel
        go_wp2
        go_ret
        exact ⟨rfl, Kp.refl _ _⟩
    · obtain ⟨_, ⟨_, h0⟩ | ⟨g2, c2, cur2, rfl, _⟩⟩ := h2
      · exact absurd (List.eq_nil_of_length_eq_zero h0) hne
      · clear hne
        go_enter Try.func27, Try.ntmps27
        go_wp2
        go_loopw [5] (fun i wr => ∃ k n : Nat, k ≤ ts.length ∧ i = .int .i64 (k : Int) ∧ wr = w.drewN n) (fun i _ => ts.length - (intOf i).toNat)
        case atStart => exact ⟨0, 0, Nat.zero_le _, rfl, rfl⟩
        case round =>
          obtain ⟨k, n, hk, rfl, rfl⟩ := hrel
          by_cases hlt : k < ts.length
          · have x1 := (unhide H1).cell k hlt
            have y1 := (unhide H2).cell k hlt
            have hli : (k : Int) < (ts.length : Int) := by omega
            clear H1 H2
            generalize ts[k] = s at *
            go_wp2
            go_quiet (fail)
            go_wp2
            go_roundw
            case rel => exact ⟨k + 1, _, by omega, by go_num, rfl⟩
            case measure => simp [intOf]; omega
          · clear H1 H2
            go_wp2
            go_ret
            exact ⟨rfl, Kp.drewN _ _⟩
end Go.Proofs.Ytfnljfkgkadlaaa
namespace Go.Proofs.Ytfnljfkgkadlaaa
open Go.RowKit

theorem rd_at {d : Dk} (hr : Room d.now) (hn : (d.now.map (·.1)).Nodup) (i : Nat) (hi : i < d.now.length) : d.rdE d.now[i].1 = 0 ∧ d.rdS d.now[i].1 = ⟨d.now[i].2.toArray⟩ ∧ d.now[i].1.size ≤ 32 := by
  have hx : (d.now[i].1, d.now[i].2) ∈ d.now := List.getElem_mem hi
  have hd := hr.2 _ hx
  have hg := getF_mem hn hx
  have e := badN_0 (d := d) hd (by rw [hg]; rfl)
  exact ⟨e, by unfold Dk.rdS hasF; rw [if_pos e, hg]; rfl, dnm_len hd⟩
theorem names_row {w : World} {v : Value} {fs : Fs} (h : w.ownsRow 0 9 1 v fs.length (nmC fs)) : TxRow w v (fs.map (·.1)) := by
  unfold TxRow
  rw [List.length_map, List.map_map]
  exact h
theorem TxRow.form0 {w : World} {v : Value} {ts : List ByteArray} (h : TxRow w v ts) : ∃ ad cap, v = .slice ad ts.length cap := by
  obtain ⟨_, ⟨rfl, h0⟩ | ⟨g, cap, cur, rfl, _⟩⟩ := h
  · exact ⟨none, 0, by rw [h0]⟩
  · exact ⟨_, _, rfl⟩
theorem TxRow.at0 {w : World} {ad : Option Addr} {n cap : Nat} {ts : List ByteArray} (h : TxRow w (.slice ad n cap) ts) (i : Nat) (hi : i < ts.length) : ∃ g, ad = some ⟨g, 0, none⟩ ∧ w.cell? ⟨g, i, none⟩ = some (.string ts[i]) := by
  obtain ⟨_, ⟨e, h0⟩ | ⟨g, cap', cur, e, _⟩⟩ := id h
  · omega
  · simp only [Value.slice.injEq] at e
    obtain ⟨rfl, rfl, rfl⟩ := e
    exact ⟨g, rfl, h.cell i hi⟩
theorem FlRow.at0 {w : World} {ad : Option Addr} {n cap : Nat} {fs : Fs} (h : FlRow w (.slice ad n cap) fs) (i : Nat) (hi : i < fs.length) : ∃ g, ad = some ⟨g, 0, none⟩ ∧ w.cell? ⟨g, i * 2 + 1, none⟩ = some (.string ⟨fs[i].2.toArray⟩) := by
  rcases h.shape with ⟨_, h0⟩ | ⟨g, cap', e, _⟩
  · rw [h0] at hi; simp at hi
  · simp only [Value.slice.injEq] at e
    obtain ⟨rfl, rfl, rfl⟩ := e
    exact ⟨g, rfl, (h.cell i hi).2⟩
set_option maxHeartbeats 2000000 in
set_option maxRecDepth 100000 in
theorem same_any (p q : Nat) (d : Dk) (w0 w : World) (h : PairD w0 w p q d d) (hs : Srt d.safe) :
    Calls Try.prog 7 #[.pointer (some ⟨p, 0, none⟩), .pointer (some ⟨q, 0, none⟩)] w fun e w' => e = .returned (.bool true) ∧ PairD w0 w' p q d d := by
  have hi := h.inv
  have hnd := h.nodup
  have hroom := hi.now
  have HRD := hide (fun i (hx : i < d.now.length) => rd_at hroom hnd i hx)
  have hnm := nmL_srt (srt_now hi hs)
  have hfew := hi.few
  have hlen : d.now.length ≤ 64 := hroom.1.2
  have HPK := hide (fun W (hk : Kp [] w W) => h.kp hk)
  obtain ⟨F, G, hd, hg, _⟩ := h
  obtain ⟨vs, vw, vn, hw, hG⟩ := id hg
  obtain ⟨aw, cw, hvw⟩ : ∃ aw cw, vw = .slice aw d.wait.length cw := by
    rcases hw.wait.shape with ⟨e, h0⟩ | ⟨_, _, e, _⟩
    · exact ⟨none, 0, by rw [e, h0]; rfl⟩
    · exact ⟨_, _, e⟩
  obtain ⟨an, cn, hvn⟩ : ∃ an cn, vn = .slice an d.now.length cn := by
    rcases hw.now.shape with ⟨e, h0⟩ | ⟨_, _, e, _⟩
    · exact ⟨none, 0, by rw [e, h0]; rfl⟩
    · exact ⟨_, _, e⟩
  subst hvw hvn
  have HC := hide (fun W (hk : Kp [] w W) => (show W.cell? ⟨q, 1, none⟩ = some (.slice aw d.wait.length cw) from (hw.box.kp hk (by simp)).cell rfl))
  have HN := hide (fun W (hk : Kp [] w W) => (show W.cell? ⟨q, 2, none⟩ = some (.slice an d.now.length cn) from (hw.box.kp hk (by simp)).cell rfl))
  have HFL := hide (fun W (hk : Kp [] w W) => hw.now.kp hk (by simp))
  have NM := hide (names_any p d F w hd)
  rw [hnm] at NM
  have RN := hide (fun W (hk : Kp [] w W) => rnames_dk q d G W (hg.kp hk (by simp)) hi)
  have WT := hide (fun W (hk : Kp [] w W) => waiting_any p d F W (hd.kp hk (by simp)))
  have RD := hide (fun n W (hk : Kp [] w W) hn => read_any n p d F W (hd.kp hk (by simp)) hn)
  clear hi hnd hroom hnm hw hd hg hG hs
  go_enter Try.func7, Try.ntmps7
  go_wp2_with fail
  refine (unhide NM).mono ?_
  rintro r w1 ⟨v1, rfl, t1, k1, _⟩
  have HT1 := hide t1
  have HK1 := hide k1
  obtain ⟨a1, c1, hv1⟩ := t1.form0
  rw [List.length_map] at hv1
  subst hv1
  have cS : w1.drew.cell? ⟨q, 1, none⟩ = some (.slice aw d.wait.length cw) := unhide HC w1.drew (k1.trans (Kp.drew _) (by simp))
  have HKd : Hid (Kp [] w w1.drew) := hide (k1.trans (Kp.drew _) (by simp))
  have SX : Hid (∀ W v2, Kp [] w1.drew W → TxRow W v2 (d.now.map (·.1)) → Calls Try.prog 27 #[.slice a1 d.now.length c1, v2] W fun e w' => e = .returned (.bool true) ∧ Kp [] W w') := hide (fun W v2 hk h2 => sameTx_any _ v2 _ W ((unhide HT1).kp ((Kp.drew w1).trans hk (by simp)) (by simp)) h2 (by rw [List.length_map]; omega))
  clear NM t1 k1
  go_upto_region 2 with fail
  go_cut [25] (fun x wc => x = .bool false ∧ Hid (Kp [] w1 wc))
  case first =>
    go_region_held3 (fun W => W.cell? ⟨q, 1, none⟩ = some (.slice aw d.wait.length cw))
      (first | with_reducible exact cS | with_reducible exact cS2 | with_reducible exact cS3)
      (first
        | (go_at_call 29; refine (unhide WT _ (unhide H3)).mono ?_; rintro r w4 ⟨rfl, rfl⟩)
        | (go_at_call 27; refine (unhide SX _ _ (unhide J2) (names_row (unhide T2))).mono ?_; rintro r w3 ⟨rfl, k3⟩; have J3 := hide ((unhide J2).trans k3 (by simp)); have H3 := hide ((unhide HKd).trans (unhide J3) (by simp)); have cS3 := unhide HC _ (unhide H3); clear k3)
        | (go_at_call 28; refine (unhide RN _ (unhide HKd)).mono ?_; rintro r w2 ⟨v2, rfl, t2, k2, o2⟩; have T2 := hide t2; have J2 := hide k2; have cS2 := unhide HC _ ((unhide HKd).trans k2 (by simp)); clear t2 k2 o2))
    go_wp2
    go_meet
    exact ⟨rfl, hide ((Kp.drew w1).trans (unhide J3) (by simp))⟩
  case rest =>
    obtain ⟨rfl, HK2⟩ := hcut
    clear cS SX WT RN HC
    go_wp2_with fail
    go_loopw [6] (fun i wr => ∃ k : Nat, k ≤ d.now.length ∧ i = .int .i64 (k : Int) ∧ Hid (Kp [] w1 wr)) (fun i _ => d.now.length - (intOf i).toNat)
    case atStart => exact ⟨0, Nat.zero_le _, rfl, HK2⟩
    case round =>
      obtain ⟨k, hk, rfl, HK3⟩ := hrel
      have HKw : Hid (Kp [] w wr) := hide ((unhide HK1).trans (unhide HK3) (by simp))
      by_cases hlt : k < d.now.length
      · have hlt' : (k : Int) < (d.now.length : Int) := by omega
        obtain ⟨g1, hg1, e1⟩ := ((unhide HT1).kp (unhide HK3) (by simp)).at0 k (by rw [List.length_map]; exact hlt)
        obtain ⟨g2, hg2, e2⟩ := (unhide HFL _ (unhide HKw)).at0 k hlt
        subst hg1 hg2
        have e3 := unhide HN _ (unhide HKw)
        rw [List.getElem_map] at e1
        obtain ⟨x1, x2, x3⟩ := unhide HRD k hlt
        have RK := hide (unhide RD d.now[k].1 wr (unhide HKw) (by omega))
        rw [x1, x2] at RK
        clear x1 x2 x3 RD HRD HFL HN
        generalize d.now[k].1 = nm at *
        generalize (⟨d.now[k].2.toArray⟩ : ByteArray) = hs at *
        go_wp2_with fail
        refine (unhide RK).mono ?_
        rintro r w5 ⟨rfl, rfl⟩
        clear RK
        go_wp2
        go_roundw
        case rel => exact ⟨k + 1, by omega, by go_num, HK3⟩
        case measure => simp [intOf]; omega
      · have hlt' : ¬ ((k : Int) < (d.now.length : Int)) := by omega
        clear RD HRD HFL HN
        go_wp2
        go_ret
        exact ⟨rfl, unhide HPK _ (unhide HKw)⟩
end Go.Proofs.Ytfnljfkgkadlaaa
namespace Go.Proofs.Ytfnljfkgkadlaaa
open Go.RowKit

theorem pair_new {w w1 w2 : World} {p : Nat} {F G : List Nat} (hd : DiskAt w1 p Dk.new F) (hk : Kp [] w w1) (hF : ∀ k ∈ F, w.heap.size ≤ k) (hg : RDk w2 w1.heap.size Dk.new G) (hk2 : Kp [] w1 w2) (hG : ∀ k ∈ G, w1.heap.size ≤ k) : PairD w w2 p w1.heap.size Dk.new Dk.new :=
  ⟨F, G, hd.kp hk2 (by simp), hg, hk.trans hk2 (by simp), fun k hm => ⟨hF k hm, fun h2 => by have := hd.lt k hm; have := hG k h2; omega⟩, fun k hm => Nat.le_trans hk.size (hG k hm)⟩
set_option maxHeartbeats 2000000 in
set_option maxRecDepth 100000 in
theorem dplays_walk (ad : Option Addr) (cap : Nat) (l : List Ac) (w : World) (_hl : l.length ≤ 9223372036854775807) (hA : ActsAt w ad l) (hok : ∀ y ∈ l, y.ok) (hz : ∀ y ∈ l, y.to.size ≤ 140737488355328) :
    Calls Try.prog 3 #[.slice ad l.length cap] w fun e w' => e = .returned (.bool true) ∧ Below w.heap.size w w' := by
  have HA := hide hA
  have HOK := hide hok
  have HZ := hide hz
  have NW := hide (new_any w)
  have RN := hide (fun W => rnew_dk W)
  have WK := hide (fun W => works_any W)
  clear hA hok hz
  go_enter Try.func3, Try.ntmps3
  go_wp2_with fail
  refine (unhide NW).mono ?_
  rintro r w1 ⟨p, F, rfl, hd, hk, hF⟩
  have H1 := hide (And.intro hd (And.intro hk hF))
  clear hd hk hF NW
  go_wp2_with fail
  refine (unhide RN _).mono ?_
  rintro r w2 ⟨rfl, G, hg, hk2, hG⟩
  have HP := hide (pair_new (unhide H1).1 (unhide H1).2.1 (unhide H1).2.2 hg hk2 hG)
  clear hg hk2 hG H1 RN
  generalize w1.heap.size = q at *
  go_wp2_with fail
  go_loopw [5] (fun i wr => ∃ (k : Nat) (d : Dk), k ≤ l.length ∧ k ≤ 200 ∧ i = .int .i64 (k : Int) ∧ Hid (PairD w wr p q d d) ∧ Hid (Srt d.safe)) (fun i _ => 200 - (intOf i).toNat)
  case atStart => exact ⟨0, Dk.new, Nat.zero_le _, Nat.zero_le _, rfl, HP, hide List.Pairwise.nil⟩
  case round =>
    obtain ⟨k, d, hk, hk2, rfl, HD, HS⟩ := hrel
    clear HP
    by_cases hlt : k < l.length
    · have hlt' : (k : Int) < (l.length : Int) := by omega
      by_cases h2 : k < 200
      · have h2' : (k : Int) < 200 := by omega
        obtain ⟨b, off, hb, hbl, hc⟩ := (unhide HA) (by intro e; rw [e] at hlt; simp at hlt)
        subst hb
        have hkb := (unhide HD).bel
        obtain ⟨c0, c1, c2, c3, c4⟩ := hc k hlt
        replace c0 := hkb.cell c0 (by simp)
        replace c1 := hkb.cell c1 (by simp)
        replace c2 := hkb.cell c2 (by simp)
        replace c3 := hkb.cell c3 (by simp)
        replace c4 := hkb.cell c4 (by simp)
        have SP := hide (step_any l[k] p q d w wr (unhide HD) (unhide HOK _ (List.getElem_mem hlt)) (unhide HZ _ (List.getElem_mem hlt)))
        clear hc hkb HD
        generalize l[k] = a at *
        go_wp2_with fail
        refine (unhide SP).mono ?_
        rintro r w4 ⟨rfl, d', hp, hs⟩
        have HD4 := hide hp
        have HS4 := hide (hs (unhide HS))
        have SM := hide (same_any p q d' w w4 hp (unhide HS4))
        clear hp hs SP c0 c1 c2 c3 c4 HS
        go_wp2_with fail
        refine (unhide SM).mono ?_
        rintro r w5 ⟨rfl, hp5⟩
        have HD5 := hide hp5
        clear hp5 SM HD4
        go_wp2
        go_roundw
        case rel => exact ⟨k + 1, d', by omega, by omega, by go_num, HD5, HS4⟩
        case measure => simp [intOf]; omega
      · have h2' : ¬ ((k : Int) < 200) := by omega
        go_wp2_with fail
        refine (unhide WK _).mono ?_
        rintro r w3 ⟨rfl, k3⟩
        have HK := hide ((unhide HD).bel.trans k3 (by simp))
        clear k3
        go_wp2
        go_ret
        exact ⟨rfl, (unhide HK).below (Nat.le_refl _) (by simp)⟩
    · have hlt' : ¬ ((k : Int) < (l.length : Int)) := by omega
      go_wp2_with fail
      refine (unhide WK _).mono ?_
      rintro r w3 ⟨rfl, k3⟩
      have HK := hide ((unhide HD).bel.trans k3 (by simp))
      clear k3
      go_wp2
      go_ret
      exact ⟨rfl, (unhide HK).below (Nat.le_refl _) (by simp)⟩
end Go.Proofs.Ytfnljfkgkadlaaa
namespace Go.Proofs.Ytfnljfkgkadlaaa
open Go.RowKit Go.Deep

theorem open_actsW {H : Type} {enc : TypeId × Value → H} {W : World} {spare : Nat → Bool} {held : Bool} {fuel : Nat} {v : Value} {x : DataW H × List MemPlace}
    (h : DataW.trod enc Try.prog W 0 spare held fuel 22 [v] = some x) :
    ∃ (ad : Option Addr) (cap : Nat) (l : List Ac), v = .slice ad l.length cap ∧ l.length ≤ 9223372036854775807 ∧ ActsAt W ad l ∧ (∀ y ∈ l, y.ok) ∧ ((∀ m ∈ x.1.weights Try.prog 22, m ≤ reachBytes) → ∀ y ∈ l, y.to.size ≤ reachBytes) := by
  obtain ⟨f0, f1, f2, f3, f4, hu, t0, t1, t2, t3, t4, o0, o1, o2, o3, o4⟩ := fields_Act
  rcases open_slice Try.underlying22 h with ⟨hcs, _⟩ | ⟨a, len, cap, m, n, D, Pl, hcs, hb, hl, hm, hmm, hxe, hx⟩
  · simp only [List.cons.injEq, and_true] at hcs
    subst hcs
    exact ⟨none, 0, [], rfl, by simp, fun hne => absurd rfl hne, by simp, by simp⟩
  · simp only [List.cons.injEq, and_true] at hcs
    subst hcs
    have hlm : len ≤ m := by rw [hmm]; split <;> omega
    have each : ∀ i, i < len → ∃ y : Ac, W.cell? (a.add (i * 5)) = some (.int .i64 y.kind) ∧ W.cell? (a.add (i * 5 + 1)) = some (.string y.nm) ∧ W.cell? (a.add (i * 5 + 2)) = some (.string y.to) ∧ W.cell? (a.add (i * 5 + 3)) = some (.int .i64 y.pos) ∧ W.cell? (a.add (i * 5 + 4)) = some (.int .i64 y.n) ∧ y.ok ∧ ((∀ m ∈ (D i).weights Try.prog 29, m ≤ reachBytes) → y.to.size ≤ reachBytes) := by
      intro i hi
      obtain ⟨cs', h1, h2⟩ := hx i (by omega)
      rw [cells_Act] at h1
      obtain ⟨_, hlen, hcell⟩ := World.cells?_some h1
      obtain ⟨xs, k, hk, hxy, _, hxl, hf⟩ := DataW.trod_struct hu h2
      obtain ⟨y0, y1, y2, y3, y4, rfl⟩ := list5 xs hxl
      obtain ⟨v0, v1, v2, v3, v4, rfl⟩ := list5 cs' hlen
      have g0 := hf 0 f0 rfl
      have g1 := hf 1 f1 rfl
      have g2 := hf 2 f2 rfl
      have g3 := hf 3 f3 rfl
      have g4 := hf 4 f4 rfl
      simp [o0, o1, o2, o3, o4, t0, t1, t2, t3, t4, cells_int, cells_string] at g0 g1 g2 g3 g4
      have e0 := hcell 0 (by omega)
      have e1 := hcell 1 (by omega)
      have e2 := hcell 2 (by omega)
      have e3 := hcell 3 (by omega)
      have e4 := hcell 4 (by omega)
      rw [Go.Deep.add_add] at e0 e1 e2 e3 e4
      obtain ⟨k0, q0, _, wf0⟩ := DataW.trod_int Try.underlying3 g0
      obtain ⟨s1, q1, _, hs1⟩ := DataW.trod_string Try.underlying9 g1
      obtain ⟨s2, q2, hy2, hs2⟩ := DataW.trod_string Try.underlying9 g2
      obtain ⟨k3, q3, _, wf3⟩ := DataW.trod_int Try.underlying3 g3
      obtain ⟨k4, q4, _, wf4⟩ := DataW.trod_int Try.underlying3 g4
      simp only [List.cons.injEq, and_true] at q0 q1 q2 q3 q4
      subst q0 q1 q2 q3 q4
      have b0 := bounds_i64 wf0
      have b3 := bounds_i64 wf3
      have b4 := bounds_i64 wf4
      unfold maxLen at hs1 hs2
      exact ⟨⟨k0, s1, s2, k3, k4⟩, by simpa using e0, by simpa using e1, by simpa using e2, by simpa using e3, by simpa using e4, ⟨⟨b0.1, by show k0 ≤ _; omega⟩, by show s1.size ≤ _; omega, by show s2.size ≤ _; omega, ⟨b3.1, by show k3 ≤ _; omega⟩, ⟨b4.1, by show k4 ≤ _; omega⟩⟩, fun hw => by
        have := hw s2.data.toList.length (by
          rw [show D i = _ from congrArg Prod.fst hxy]
          have hu' : Try.prog.underlying 29 = some (.struct #[f0, f1, f2, f3, f4]) := hu
          simp only [DataW.weights, hu']
          refine DataW.weights_mem_each (j := 2) (t := 9) (d := y2.1) ?_ rfl _ ?_
          · simp [t2]
          · rw [hy2]; simp [DataW.weights])
        simpa using this⟩
    have hinh : Inhabited Ac := ⟨⟨0, ⟨#[]⟩, ⟨#[]⟩, 0, 0⟩⟩
    obtain ⟨q, hq⟩ := choose_lt each
    refine ⟨some a, cap, (List.range len).map q, by simp, by simp; unfold maxLen at hm; omega, fun hne => ?_, fun y hy => ?_, fun hw y hy => ?_⟩
    · have h0 : 0 < len := by
        rcases Nat.eq_zero_or_pos len with e | e
        · subst e; simp at hne
        · exact e
      obtain ⟨b, off, spot⟩ := a
      have hc0 := (hq 0 h0).1
      have hspot : spot = none := by simpa [Addr.add] using World.cell?_spot hc0
      subst hspot
      refine ⟨b, off, rfl, ?_, fun i hi => ?_⟩
      · rcases Nat.lt_or_ge b W.heap.size with hlt | hge
        · exact hlt
        · exfalso
          rw [Go.WideShapes.add_plain] at hc0
          simp [World.cell?, Array.getElem?_eq_none hge] at hc0
      · have hi' : i < len := by simpa using hi
        obtain ⟨c0, c1, c2, c3, c4, _, _⟩ := hq i hi'
        rw [Go.WideShapes.add_plain] at c0 c1 c2 c3 c4
        simp only [List.getElem_map, List.getElem_range]
        exact ⟨c0, by rw [Nat.add_assoc]; exact c1, by rw [Nat.add_assoc]; exact c2, by rw [Nat.add_assoc]; exact c3, by rw [Nat.add_assoc]; exact c4⟩
    · obtain ⟨i, hi, rfl⟩ := List.mem_map.1 hy
      exact (hq i (List.mem_range.1 hi)).2.2.2.2.2.1
    · obtain ⟨i, hi, rfl⟩ := List.mem_map.1 hy
      refine (hq i (List.mem_range.1 hi)).2.2.2.2.2.2 (fun m hm => hw m ?_)
      rw [hxe]
      simp only [DataW.weights, Try.underlying22]
      refine List.mem_cons_of_mem _ (List.mem_append.2 (Or.inl ?_))
      have hall : ∀ (L : List (DataW H)) (d : DataW H), d ∈ L → ∀ m ∈ d.weights Try.prog 29, m ∈ DataW.weightsAll Try.prog 29 L := by
        intro L
        induction L with
        | nil => intro d hd; cases hd
        | cons y L ih =>
          intro d hd m hm
          simp only [DataW.weightsAll]
          rcases List.mem_cons.1 hd with rfl | hd
          · exact List.mem_append.2 (Or.inl hm)
          · exact List.mem_append.2 (Or.inr (ih d hd m hm))
      exact hall _ (D i) (List.mem_map.2 ⟨i, hi, rfl⟩) m hm
end Go.Proofs.Ytfnljfkgkadlaaa
