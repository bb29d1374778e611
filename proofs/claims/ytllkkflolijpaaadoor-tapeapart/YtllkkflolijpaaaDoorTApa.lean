/-
  TapeApart: tapes of unlike names on one disk are each as if alone: the law returns true, whatever the acts.
-/
import Derived.Test.YtllkkflolijpaaaDoorTApP
import Derived.Test.YtllkkflolijpaaaDoorAc4
import Derived.Deep.QuietTactic
import Derived.BigQuiet
namespace Go.Proofs.YtllkkflolijpaaaDoor
open Go.RowKit

def pick2 {α : Type} (a b : α) (i : Nat) : α := if i = 0 then a else b
theorem two_cases {i : Nat} (h : i < 2) : i = 0 ∨ i = 1 := by omega
theorem apa_start {w w3 w5 : World} {p ta tb : Nat} {va vb : Value} (ha : OwnT w w3 p Dk.new ta ⟨#[97]⟩ va []) (hb : OwnT w w5 p Dk.new tb ⟨#[98]⟩ vb []) (ho : Oth [] w3 w5) (ht : w3.heap.size ≤ tb) (hv : ∀ k, vb.ownBlock = some k → w3.heap.size ≤ k) :
    Apa w (w5.alloc (.cells #[.slice none 0 0, .slice none 0 0] 48)) p Dk.new 0 w5.heap.size (pick2 ta tb) (pick2 va vb) (fun _ => .slice none 0 0) (fun _ => []) := by
  have hk := Kp.alloc w5 (.cells #[.slice none 0 0, .slice none 0 0] 48)
  have hta := (ha.at.oth ho (by simp) (by simp)).kp hk (by simp) (by simp)
  have htb := hb.at.kp hk (by simp) (by simp)
  have hlt := ha.at.lt
  refine ⟨hb.own.kp hk, Gd.new, fun i hi => ?_, fun i hi => OwnsS.nil _ _, CBox.new w5 _ _, fun i hi => ?_, fun i hi => ?_, fun i hi k hk => ?_, fun i hi k hk => by simp [Value.ownBlock] at hk, hb.bel.size, by show ta ≠ tb; omega, fun i hi m hm k hk => by simp [Value.ownBlock], fun i hi m hm hne k hk he => ?_, fun i hi m hm hne k hk => by simp [Value.ownBlock], fun i hi => Nat.le_refl _⟩
  · rcases two_cases hi with rfl | rfl
    · exact hta
    · exact htb
  · rcases two_cases hi with rfl | rfl <;> rfl
  · rcases two_cases hi with rfl | rfl
    · exact ha.ge.1
    · exact hb.ge.1
  · rcases two_cases hi with rfl | rfl
    · exact ha.ge.2 k hk
    · exact hb.ge.2 k hk
  · have key : ∀ k, va.ownBlock = some k → vb.ownBlock = some k → False := fun k h1 h2 => by
      have := (ha.at.row.block h1).2.1
      have := hv k h2
      omega
    rcases two_cases hi with rfl | rfl <;> rcases two_cases hm with rfl | rfl
    · omega
    · exact key k hk he
    · exact key k he hk
    · omega
/-- What the second half holds. -/
structure Ap2 (w0 w : World) (p : Nat) (d : Dk) (hb : Nat) (H : Nat → Value) (L : Nat → List (List UInt8)) : Prop where
  disk : OwnD w0 w p d
  rows : ∀ i, i < 2 → Txs w (H i) (L i)
  box : CBox hb #[H 0, H 1] 48 w
  has : ∀ i, i < 2 → hasF d.now (nmA i) = allF (L i)
  small : ∀ i, i < 2 → ∀ x ∈ L i, x.length ≤ 65536
  few : ∀ i, i < 2 → (L i).length ≤ 60
section
variable {w0 w w' : World} {p j hb : Nat} {d d' : Dk} {T : Nat → Nat} {V H : Nat → Value} {L : Nat → List (List UInt8)}
theorem Ap2.kp (h : Ap2 w0 w p d hb H L) (hk : Kp [] w w') : Ap2 w0 w' p d hb H L := { h with disk := h.disk.kp hk, rows := fun i hi => (h.rows i hi).kp hk (by simp), box := h.box.kp hk (by simp) }
theorem Ap2.oth (h : Ap2 w0 w p d hb H L) (hd : OwnD w0 w' p d') (ho : Oth [] w w') (he : d'.now = d.now) : Ap2 w0 w' p d' hb H L :=
  ⟨hd, fun i hi => (h.rows i hi).oth ho (by simp), h.box.oth ho (by decide) (by decide) (by decide) (by simp), fun i hi => by rw [he]; exact h.has i hi, h.small, h.few⟩
theorem Apa.two (h : Apa w0 w p d j hb T V H L) (hj : j ≤ 60) : Ap2 w0 w p d hb H L := ⟨h.disk, h.rows, h.box, h.has, fun i hi => (h.tp i hi).small, fun i hi => by have := h.small i hi; omega⟩
theorem Gd.sync (h : Gd d j) : d.syE = 0 ∧ d.syD = ⟨d.now, d.now, [], d.left, d.down⟩ := by
  obtain ⟨r1, r2⟩ := h.ready
  unfold Dk.syE Dk.syD
  rw [if_pos r1, if_pos r1, r2]
  exact ⟨rfl, rfl⟩
theorem crash_none (fs nw : Fs) (left : Int) (down : Bool) (k t : Int) : (Dk.mk fs nw [] left down).crash k t = ⟨fs, fs, [], -1, false⟩ := by
  unfold Dk.crash Dk.left'
  simp [playAll]
theorem Apa.sync (h : Apa w0 w p d j hb T V H L) (hj : j ≤ 60) : Calls Tryd.prog 9 #[.pointer (some ⟨T 0, 0, none⟩)] w fun r w' => r = .returned (.int .i64 0) ∧ Ap2 w0 w' p ⟨d.now, d.now, [], d.left, d.down⟩ hb H L := by
  obtain ⟨e1, e2⟩ := h.gd.sync
  have := (h.ownT 0 (by decide)).sync
  rw [e1, e2] at this
  exact this.mono fun r w' ⟨h1, h2, h3⟩ => ⟨h1, (h.two hj).oth h2.own h3 rfl⟩
theorem OwnD.step2 {f : Nat} {args : Array Value} {r : Ending} (h : OwnD w0 w p d) (hc : ∀ F, DiskAt w p d F → Calls Tryd.prog f args w fun e w' => e = r ∧ Did w F p d' w') : Calls Tryd.prog f args w fun e w' => e = r ∧ OwnD w0 w' p d' ∧ Oth [] w w' := by
  obtain ⟨F, hd, h1, h2⟩ := id h
  refine (hc F hd).mono fun e w' hh => ⟨hh.1, ?_⟩
  obtain ⟨F', hd', hk, hF'⟩ := hh.2
  refine ⟨⟨F', hd', h1.trans hk (fun x hx => Or.inr (h2 x hx)), fun k hk => ?_⟩, Oth.disk hd hk⟩
  rcases hF' k hk with h5 | h5
  · exact h2 k h5
  · have := h1.size; omega
theorem Ap2.crash {fs : Fs} {left : Int} {down : Bool} (h : Ap2 w0 w p ⟨fs, fs, [], left, down⟩ hb H L) : Calls Tryd.prog 14 #[.pointer (some ⟨p, 0, none⟩), .int .i64 0, .int .i64 0] w fun r w' => r = .returned (.tuple #[]) ∧ Ap2 w0 w' p ⟨fs, fs, [], -1, false⟩ hb H L := by
  have hc := h.disk.step2 (fun F hd => crash_any 0 0 p _ F w hd (by decide))
  rw [crash_none] at hc
  exact hc.mono fun r w' ⟨g1, g2, g3⟩ => ⟨g1, h.oth g2 g3 rfl⟩
theorem Ap2.open (h : Ap2 w0 w p d hb H L) (hT : TabW w0) (i : Nat) (hi : i < 2) : Calls Tryd.prog 8 #[.pointer (some ⟨p, 0, none⟩), .string (nmA i)] w fun r w' => ∃ t v, r = .returned (.tuple #[.pointer (some ⟨t, 0, none⟩), .int .i64 0]) ∧ Ap2 w0 w' p d hb H L ∧ TpAt w' t p (nmA i) v (L i) ∧ Oth [] w w' := by
  obtain ⟨o1, o2, o3⟩ := op_whole (d := d) (nmA_ok i) (h.has i hi) (h.small i hi)
  have hl := dnm_len (nmA_ok i)
  have hc := h.disk.topenOk (n := nmA i) hT (by omega) o1
  rw [o2, o3] at hc
  exact hc.mono fun r w' ⟨t, v, g1, g2, g3, _⟩ => ⟨t, v, g1, h.oth g2.own g3 rfl, g2.at, g3⟩
end
theorem nm_cell {g : Nat} {w : World} (h : CBox g #[.string ⟨#[97]⟩, .string ⟨#[98]⟩] 9 w) (k : Nat) (hk : k < 2) : w.cell? ⟨g, k, none⟩ = some (.string (nmA k)) := by
  rcases two_cases hk with rfl | rfl
  · exact h.cell rfl
  · exact h.cell rfl
theorem has_cell {w0 w : World} {p hb : Nat} {d : Dk} {H : Nat → Value} {L : Nat → List (List UInt8)} (h : Ap2 w0 w p d hb H L) (k : Nat) (hk : k < 2) : w.cell? ⟨hb, k, none⟩ = some (H k) := by
  rcases two_cases hk with rfl | rfl
  · exact h.box.cell rfl
  · exact h.box.cell rfl
theorem apa_next {w w7 w8 : World} {p j hb k g3 cap3 : Nat} {d7 : Dk} {T : Nat → Nat} {V H : Nat → Value} {L : Nat → List (List UInt8)} {v7 : Value} {s : ByteArray} (hk : k < 2)
    (hnext : ∀ h' w2, Txs w2 h' (L k ++ [s.data.toList]) → CBox hb #[upd H k h' 0, upd H k h' 1] 48 w2 → Kp (hb :: (H k).ownBlock.toList) w7 w2 → (h'.ownBlock = (H k).ownBlock ∨ ∀ m, h'.ownBlock = some m → w7.heap.size ≤ m) → Apa w w2 p d7 (j + 1) hb T (upd V k v7) (upd H k h') (upd L k (L k ++ [s.data.toList])))
    (hrow : Txs w7 (H k) (L k)) (hb8 : CBox hb #[H 0, H 1] 48 w8) (hown' : w8.ownsRow 0 9 1 (.slice (some ⟨g3, 0, none⟩) ((L k).length + 1) cap3) ((L k).length + 1) (textC (L k) ++ [.string s])) (hgrow : (w7.alloc (.cells #[.string s] 9)).grownBy w8 (H k).ownBlock) (hat : (H k).ownBlock = some g3 ∨ g3 = (w7.alloc (.cells #[.string s] 9)).heap.size)
    (_hne : ∀ m, (H k).ownBlock = some m → m ≠ hb) (hb9 : CBox hb (#[H 0, H 1].setIfInBounds k (.slice (some ⟨g3, 0, none⟩) ((L k).length + 1) cap3)) 48 (w8.setCell ⟨hb, k, none⟩ (.slice (some ⟨g3, 0, none⟩) ((L k).length + 1) cap3))) :
    Apa w (w8.setCell ⟨hb, k, none⟩ (.slice (some ⟨g3, 0, none⟩) ((L k).length + 1) cap3)) p d7 (j + 1) hb T (upd V k v7) (upd H k (.slice (some ⟨g3, 0, none⟩) ((L k).length + 1) cap3)) (upd L k (L k ++ [s.data.toList])) := by
  have hz : (w7.alloc (.cells #[.string s] 9)).heap.size = w7.heap.size + 1 := by simp
  have hkA := Kp.alloc w7 (.cells #[.string s] 9)
  have hk8 : Kp (H k).ownBlock.toList w7 w8 := (hkA.mono (by simp)).trans (Kp.of hgrow) (fun x hx => Or.inl hx)
  have hrow8 : Txs w8 (.slice (some ⟨g3, 0, none⟩) ((L k).length + 1) cap3) (L k ++ [s.data.toList]) := by
    unfold Txs OwnsS
    rw [List.length_append, textC_append]
    have e : textC [s.data.toList] = [.string s] := by simp [textC]
    rw [e]
    exact hown'
  refine hnext _ _ (hrow8.kp (Kp.set w8 hb k _) (fun m hm hx => ?_)) ?_ ?_ ?_
  · simp at hx
    exact hrow8.ne hb8 (by decide) m hm hx
  · rcases two_cases hk with rfl | rfl
    · exact hb9
    · exact hb9
  · refine (hk8.mono (fun x hx => List.mem_cons_of_mem _ hx)).trans (Kp.set w8 hb k _) (fun x hx => Or.inl ?_)
    simp at hx
    subst hx
    exact List.mem_cons_self
  · rcases hat with h1 | h1
    · exact Or.inl (by rw [h1]; rfl)
    · refine Or.inr fun m hm => ?_
      have e1 : g3 = m := by simpa [Value.ownBlock] using hm
      omega
set_option maxHeartbeats 8000000 in
set_option maxRecDepth 100000 in
theorem apart_walk (ad : Option Addr) (cap : Nat) (l : List A4) (w : World) (_hl : l.length ≤ 9223372036854775807) (hA : Acts4 w ad l) (hok : ∀ y ∈ l, y.ok) (hT : TabW w) :
    Calls Tryd.prog 5 #[.slice ad l.length cap] w fun e w' => e = .returned (.bool true) ∧ Kp [] w w' := by
  have st1 : ∀ (n : ByteArray) W p, dnm n = true → OwnD w W p Dk.new → Calls Tryd.prog 8 #[.pointer (some ⟨p, 0, none⟩), .string n] W fun r w' => ∃ t v, r = .returned (.tuple #[.pointer (some ⟨t, 0, none⟩), .int .i64 0]) ∧ OwnT w w' p Dk.new t n v [] ∧ Oth [] W w' ∧ W.heap.size ≤ t ∧ ∀ k, v.ownBlock = some k → W.heap.size ≤ k := fun n W p hn h => by
    obtain ⟨o1, o2, o3⟩ := op_whole (d := Dk.new) (n := n) (ts := []) hn rfl (by simp)
    have hnl := dnm_len hn
    have := h.topenOk (n := n) hT (by omega) o1
    rw [o2, o3] at this
    exact this
  have S1 := hide st1
  have W1 := hide (fun W (h : Kp [] w W) => works_any W (hT.kp h (by simp)))
  have HT := hide hT
  have HA := hide hA
  have HOK := hide hok
  obtain ⟨i0, hi, hz0, hz1, hz2⟩ := info_parts info_string
  clear st1 hT hA hok
  go_enter Tryd.func5, Tryd.ntmps5
  go_wp2_with fail
  refine (new_own w).mono ?_
  rintro e w1 ⟨p, rfl, q1⟩
  go_wp2_with fail
  refine (unhide W1 w1 q1.bel).mono ?_
  rintro e w2 ⟨rfl, k2⟩
  have Q2 := hide (q1.kp k2)
  clear q1 k2
  go_wp2_with fail
  refine (unhide S1 ⟨#[97]⟩ w2 p (by decide) (unhide Q2)).mono ?_
  rintro e w3 ⟨ta, va, rfl, qa, _, _, _⟩
  have QA := hide qa
  clear qa
  go_wp2_with fail
  refine (unhide S1 ⟨#[98]⟩ w3 p (by decide) (unhide QA).own).mono ?_
  rintro e w5 ⟨tb, vb, rfl, qb, ob, lb, lvb⟩
  have HR := hide (apa_start (unhide QA) qb ob lb lvb)
  clear qb ob lb lvb QA
  go_wp2
  go_loopw [9] (fun i wr => ∃ (k : Nat) (d : Dk) (V H : Nat → Value) (L : Nat → List (List UInt8)), k ≤ l.length ∧ k ≤ 60 ∧ i = .int .i64 (k : Int) ∧ Hid (Apa w wr p d k w5.heap.size (pick2 ta tb) V H L)) (fun i _ => 60 - (intOf i).toNat)
  case atStart => exact ⟨0, _, _, _, _, Nat.zero_le _, by omega, rfl, HR⟩
  case round =>
    clear HR
    obtain ⟨k, d, V, H, L, hk, h60, rfl, HR⟩ := hrel
    by_cases hgo : k < l.length ∧ k < 60
    · obtain ⟨hlt, hl8⟩ := hgo
      have hli : (k : Int) < (l.length : Int) := by omega
      have hl8i : (k : Int) < 60 := by omega
      obtain ⟨b, off, rfl, _, hc⟩ := (unhide HA).kp (unhide HR).disk.bel (by intro h; rw [h] at hlt; simp at hlt)
      obtain ⟨_, _, c2, c3⟩ := hc k hlt
      have hyo := unhide HOK l[k] (List.getElem_mem hlt)
      clear hc
      generalize l[k] = y at *
      obtain ⟨yk, yp, yn, s⟩ := y
      obtain ⟨_, _, _, hsb⟩ := hyo
      dsimp only at c2 c3 hsb
      by_cases hbig : 500 < s.size
      · have hbi : (500 : Int) < (s.size : Int) := by omega
        have HR2 := hide (unhide HR).more
        clear HR c2
        go_wp2
        go_roundw
        case rel => exact ⟨k + 1, d, V, H, L, by omega, by omega, by go_num, HR2⟩
        case measure => simp [intOf]; omega
      · have hbi : ¬ ((500 : Int) < (s.size : Int)) := by omega
        have hs5 : s.size ≤ 500 := by omega
        have HLEN : Hid (∀ i, i < 2 → (L i).length ≤ 1000000) := hide (fun i hi => by have := (unhide HR).small i hi; omega)
        rcases (by omega : yn % 2 = 0 ∨ yn % 2 = 1) with hex | hex
        · have hx2 : yn % 2 = 0 := by omega
          have AM := hide (fun W => among_any yn 2 W (by decide) (by decide))
          rw [hx2] at AM
          have hka := Kp.alloc wr (.cells #[.pointer (some ⟨ta, 0, none⟩), .pointer (some ⟨tb, 0, none⟩)] 27)
          have NX := hide (((unhide HR).kp hka).append (unhide HT) 0 (by decide) s hs5 hl8)
          clear HR hka hx2 hex
          go_wp2_with fail
          refine (unhide AM wr).mono ?_
          rintro r w6 ⟨rfl, rfl⟩
          go_wp2_with fail
          refine (unhide NX).mono ?_
          rintro r w7 ⟨rfl, v7, d7, ⟨hrow, hbox⟩, hnext⟩
          have cH : w7.cell? ⟨w5.heap.size, 0, none⟩ = some (H 0) := hbox.cell rfl
          have hown : w7.ownsRow 0 9 1 (H 0) (L 0).length (textC (L 0)) := hrow
          have HNE := hide (hrow.ne hbox (by decide))
          have hlen : (L 0).length ≤ 1000000 := (unhide HLEN) 0 (by decide)
          have HPC : Hid (∀ W, (w7.alloc (.cells #[.string s] 9)).grownBy W (H 0).ownBlock → CBox w5.heap.size #[H 0, H 1] 48 W) := hide (fun W hg => by
            have hb2 := hbox.kp (Kp.alloc w7 (.cells #[.string s] 9)) (by simp)
            exact hb2.kp (Kp.of hg) (fun hm => unhide HNE w5.heap.size (by simpa using hm) rfl))
          have HROW := hide hrow
          have HNX := hide hnext
          clear hrow hbox hnext
          obtain ⟨h0, hh0⟩ : ∃ h0, h0 = H 0 := ⟨_, rfl⟩
          rw [← hh0] at cH hown HPC HNE
          have HH0 := hide hh0
          clear hh0
          go_wp2_with (at_builtin; refine wpList_append_lies _ rfl _ _ 26 rfl 0 9 i0 (.string ⟨#[]⟩) 1 16 Tryd.underlying26 hi hz0 hz1 hz2 rfl (by decide) h0 (L 0).length (textC (L 0)) rfl (hown.alloc _) ⟨w7.heap.size, 0, none⟩ 1 1 [.string s] rfl rfl (one_new _ _ _) (by intro u hu; simp at hu; subst hu; rfl) (by omega) (by unfold maxLen; omega) (by omega) (by simp) _ rfl ?_; intro g3 cap3 w8 hown' hgrow hat3 hlt3; have HAT := hide hat3; clear hat3; have b8 := unhide HPC w8 hgrow; have c8 : w8.cell? ⟨w5.heap.size, 0, none⟩ = some h0 := b8.cell rfl; have f8 := b8.froz 0)
          have HR : Hid (Apa w (w8.setCell ⟨w5.heap.size, 0, none⟩ (.slice (some ⟨g3, 0, none⟩) ((L 0).length + 1) cap3)) p d7 (k + 1) w5.heap.size (pick2 ta tb) (upd V 0 v7) (upd H 0 (.slice (some ⟨g3, 0, none⟩) ((L 0).length + 1) cap3)) (upd L 0 (L 0 ++ [s.data.toList]))) := hide (by
            have e0 := unhide HH0
            have hnb := unhide HNE
            rw [e0] at hgrow hnb
            have hat := unhide HAT
            rw [e0] at hat
            have hb8 := b8
            rw [e0] at hb8
            exact apa_next (k := 0) (by decide) (unhide HNX) (unhide HROW) hb8 hown' hgrow hat hnb (hb8.set 0 _))
          clear hown hown' hgrow HAT HNE HPC HROW HNX b8 cH HLEN
          go_wp2
          go_roundw
          case rel => exact ⟨k + 1, d7, _, _, _, by omega, by omega, by go_num, HR⟩
          case measure => simp [intOf]; omega
        · have hx2 : yn % 2 = 1 := by omega
          have AM := hide (fun W => among_any yn 2 W (by decide) (by decide))
          rw [hx2] at AM
          have hka := Kp.alloc wr (.cells #[.pointer (some ⟨ta, 0, none⟩), .pointer (some ⟨tb, 0, none⟩)] 27)
          have NX := hide (((unhide HR).kp hka).append (unhide HT) 1 (by decide) s hs5 hl8)
          clear HR hka hx2 hex
          go_wp2_with fail
          refine (unhide AM wr).mono ?_
          rintro r w6 ⟨rfl, rfl⟩
          go_wp2_with fail
          refine (unhide NX).mono ?_
          rintro r w7 ⟨rfl, v7, d7, ⟨hrow, hbox⟩, hnext⟩
          have cH : w7.cell? ⟨w5.heap.size, 1, none⟩ = some (H 1) := hbox.cell rfl
          have hown : w7.ownsRow 0 9 1 (H 1) (L 1).length (textC (L 1)) := hrow
          have HNE := hide (hrow.ne hbox (by decide))
          have hlen : (L 1).length ≤ 1000000 := (unhide HLEN) 1 (by decide)
          have HPC : Hid (∀ W, (w7.alloc (.cells #[.string s] 9)).grownBy W (H 1).ownBlock → CBox w5.heap.size #[H 0, H 1] 48 W) := hide (fun W hg => by
            have hb2 := hbox.kp (Kp.alloc w7 (.cells #[.string s] 9)) (by simp)
            exact hb2.kp (Kp.of hg) (fun hm => unhide HNE w5.heap.size (by simpa using hm) rfl))
          have HROW := hide hrow
          have HNX := hide hnext
          clear hrow hbox hnext
          obtain ⟨h0, hh0⟩ : ∃ h0, h0 = H 1 := ⟨_, rfl⟩
          rw [← hh0] at cH hown HPC HNE
          have HH0 := hide hh0
          clear hh0
          go_wp2_with (at_builtin; refine wpList_append_lies _ rfl _ _ 26 rfl 0 9 i0 (.string ⟨#[]⟩) 1 16 Tryd.underlying26 hi hz0 hz1 hz2 rfl (by decide) h0 (L 1).length (textC (L 1)) rfl (hown.alloc _) ⟨w7.heap.size, 0, none⟩ 1 1 [.string s] rfl rfl (one_new _ _ _) (by intro u hu; simp at hu; subst hu; rfl) (by omega) (by unfold maxLen; omega) (by omega) (by simp) _ rfl ?_; intro g3 cap3 w8 hown' hgrow hat3 hlt3; have HAT := hide hat3; clear hat3; have b8 := unhide HPC w8 hgrow; have c8 : w8.cell? ⟨w5.heap.size, 1, none⟩ = some h0 := b8.cell rfl; have f8 := b8.froz 1)
          have HR : Hid (Apa w (w8.setCell ⟨w5.heap.size, 1, none⟩ (.slice (some ⟨g3, 0, none⟩) ((L 1).length + 1) cap3)) p d7 (k + 1) w5.heap.size (pick2 ta tb) (upd V 1 v7) (upd H 1 (.slice (some ⟨g3, 0, none⟩) ((L 1).length + 1) cap3)) (upd L 1 (L 1 ++ [s.data.toList]))) := hide (by
            have e0 := unhide HH0
            have hnb := unhide HNE
            rw [e0] at hgrow hnb
            have hat := unhide HAT
            rw [e0] at hat
            have hb8 := b8
            rw [e0] at hb8
            exact apa_next (k := 1) (by decide) (unhide HNX) (unhide HROW) hb8 hown' hgrow hat hnb (hb8.set 1 _))
          clear hown hown' hgrow HAT HNE HPC HROW HNX b8 cH HLEN
          go_wp2
          go_roundw
          case rel => exact ⟨k + 1, d7, _, _, _, by omega, by omega, by go_num, HR⟩
          case measure => simp [intOf]; omega
    · have HSY := hide ((unhide HR).sync (by omega))
      clear HR
      rcases (by omega : ¬ ((k : Int) < (l.length : Int)) ∨ ((k : Int) < (l.length : Int) ∧ ¬ ((k : Int) < 60))) with hA1 | ⟨hA1, hA2⟩
      all_goals
        go_wp2_with fail
        refine (unhide HSY).mono ?_
        rintro r w6 ⟨rfl, q6⟩
        have Q6 := hide q6
        clear q6
        go_wp2_with fail
        refine (unhide Q6).crash.mono ?_
        rintro r w7 ⟨rfl, q7⟩
        have hkn := Kp.alloc w7 (.cells #[.string ⟨#[97]⟩, .string ⟨#[98]⟩] 9)
        have HQ := hide (q7.kp hkn)
        have HNB := hide (CBox.new w7 #[.string ⟨#[97]⟩, .string ⟨#[98]⟩] 9)
        clear q7 hkn HSY Q6
        generalize (⟨d.now, d.now, [], -1, false⟩ : Dk) = d9 at *
        go_wp2
        go_loopw [101] (fun i wr => ∃ m : Nat, m ≤ 2 ∧ i = .int .i64 (m : Int) ∧ Hid (Ap2 w wr p d9 w5.heap.size H L) ∧ Hid (CBox w7.heap.size #[.string ⟨#[97]⟩, .string ⟨#[98]⟩] 9 wr)) (fun i _ => 2 - (intOf i).toNat)
        case atStart => exact ⟨0, by omega, rfl, HQ, HNB⟩
        case round =>
          clear HQ HNB
          obtain ⟨m, hm, rfl, HQ, HNB⟩ := hrel
          by_cases hm2 : m < 2
          · have hmi : (m : Int) < 2 := by omega
            have cN := nm_cell (unhide HNB) m hm2
            have OP := hide ((unhide HQ).open (unhide HT) m hm2)
            generalize nmA m = nm at OP cN
            clear HQ
            go_wp2_with fail
            refine (unhide OP).mono ?_
            rintro r w9 ⟨t9, v9, rfl, q9, ht9, o9⟩
            obtain ⟨ad9, cap9, hsh, _⟩ := (q9.rows m hm2).texts
            have cH := has_cell q9 m hm2
            rw [hsh] at cH
            have HSH := hide hsh
            have HQ := hide q9
            have HTP := hide ht9
            have HNB := hide ((unhide HNB).oth o9 (by decide) (by decide) (by decide) (by simp))
            have LN := hide (fun W (h : Kp [] w9 W) => len_any t9 p nm v9 (L m) W (ht9.kp h (by simp) (by simp)))
            have hfew : (L m).length ≤ 60 := q9.few m hm2
            clear q9 ht9 o9 hsh OP cN
            generalize hLm : L m = LM at *
            have HLM := hide hLm
            clear hLm
            go_wp2_with fail
            go_quiet (first | (go_at_call 10; exact Calls.quiet_of_same (unhide LN _ (Kp.drewQ _ _))))
            have hkq := Kp.drewQ w9 nq
            have cH := hkq.cell cH (by simp)
            have HQ := hide ((unhide HQ).kp hkq)
            have HTP := hide ((unhide HTP).kp hkq (by simp) (by simp))
            have HNB := hide ((unhide HNB).kp hkq (by simp))
            clear hkq LN
            generalize w9.drewN nq = W10 at *
            go_wp2
            go_loopw [131] (fun i wr => ∃ q : Nat, q ≤ LM.length ∧ i = .int .i64 (q : Int) ∧ Hid (Ap2 w wr p d9 w5.heap.size H L) ∧ Hid (TpAt wr t9 p nm v9 LM) ∧ Hid (CBox w7.heap.size #[.string ⟨#[97]⟩, .string ⟨#[98]⟩] 9 wr)) (fun i _ => LM.length - (intOf i).toNat)
            case atStart => exact ⟨0, Nat.zero_le _, rfl, HQ, HTP, HNB⟩
            case round =>
              clear HQ HTP HNB cH
              obtain ⟨q, hq, rfl, HQ, HTP, HNB⟩ := hrel
              by_cases hq2 : q < LM.length
              · have hqi : (q : Int) < (LM.length : Int) := by omega
                have hr1 := (unhide HQ).rows m hm2
                rw [unhide HSH, unhide HLM] at hr1
                obtain ⟨_, h0⟩ | ⟨g, cp, hge, _, _⟩ := hr1.shape
                · rw [h0] at hq2; simp at hq2
                simp only [Value.slice.injEq] at hge
                obtain ⟨rfl, _, rfl⟩ := hge
                have cX := hr1.cell q hq2
                have RD := hide (tread_ok t9 p nm v9 LM q hq2 _ (unhide HTP))
                generalize (⟨LM[q].toArray⟩ : ByteArray) = S at *
                clear hr1
                go_wp2_with fail
                refine (unhide RD).mono ?_
                rintro r w11 ⟨rfl, k11⟩
                have HQ := hide ((unhide HQ).kp k11)
                have HTP := hide ((unhide HTP).kp k11 (by simp) (by simp))
                have HNB := hide ((unhide HNB).kp k11 (by simp))
                clear k11 RD
                go_wp2
                go_roundw
                case rel => exact ⟨q + 1, by omega, by go_num, HQ, HTP, HNB⟩
                case measure => simp [intOf]; omega
              · have hqi : ¬ ((q : Int) < (LM.length : Int)) := by omega
                go_wp2
                go_roundw
                case rel => exact ⟨m + 1, by omega, by go_num, HQ, HNB⟩
                case measure => simp [intOf]; omega
          · have hmi : ¬ ((m : Int) < 2) := by omega
            have HK := hide (unhide HQ).disk.bel
            clear HQ HNB
            go_wp2
            go_ret
            exact ⟨rfl, unhide HK⟩
end Go.Proofs.YtllkkflolijpaaaDoor
