/-
  grown: a disk behind some calls; texts that are the same; a disk beside a row of texts.
-/
import Derived.Test.YtpbmkbfcnhekoaaDkAl
import Derived.Test.YtpbmkbfcnhekoaaAcIn
namespace Go.Proofs.Ytpbmkbfcnhekoaa
open Go.RowKit

theorem Kp.drewN (w : World) (n : Nat) : Kp [] w (w.drewN n) := ⟨rfl, rfl, rfl, Nat.le_refl _, fun _ _ _ => rfl⟩
set_option maxHeartbeats 1000000 in
theorem sameTx_any (v1 v2 : Value) (ts : List ByteArray) (w : World) (h1 : TxRow w v1 ts) (h2 : TxRow w v2 ts) (hl : ts.length ≤ 9223372036854775807) :
    Calls Try.prog 24 #[v1, v2] w fun e w' => e = .returned (.bool true) ∧ Kp [] w w' := by
  have H1 := hide h1
  have H2 := hide h2
  obtain ⟨_, ⟨rfl, h0⟩ | ⟨g1, c1, cur1, rfl, _⟩⟩ := h1
  · obtain rfl : ts = [] := List.eq_nil_of_length_eq_zero h0
    obtain ⟨a2, c2, rfl⟩ : ∃ a2 c2, v2 = .slice a2 0 c2 := by
      obtain ⟨_, ⟨rfl, h0⟩ | ⟨g2, c2, cur2, rfl, _⟩⟩ := h2
      · exact ⟨_, _, rfl⟩
      · exact ⟨_, _, rfl⟩
    clear h2
    go_enter Try.func24, Try.ntmps24
    go_wp2
    go_loopw [5] (fun i wr => i = .int .i64 0 ∧ wr = w) (fun _ _ => 0)
    case atStart => exact ⟨rfl, rfl⟩
    case round =>
      obtain ⟨rfl, rfl⟩ := hrel
      go_wp2
      go_ret
      exact ⟨rfl, Kp.refl _ _⟩
  · by_cases hne : ts = []
    · subst hne
      obtain ⟨a2, c2, rfl⟩ : ∃ a2 c2, v2 = .slice a2 0 c2 := by
        obtain ⟨_, ⟨rfl, h0⟩ | ⟨g2, c2, cur2, rfl, _⟩⟩ := h2
        · exact ⟨_, _, rfl⟩
        · exact ⟨_, _, rfl⟩
      clear h2
      go_enter Try.func24, Try.ntmps24
      go_wp2
      go_loopw [5] (fun i wr => i = .int .i64 0 ∧ wr = w) (fun _ _ => 0)
      case atStart => exact ⟨rfl, rfl⟩
      case round =>
        obtain ⟨rfl, rfl⟩ := hrel
        go_wp2
        go_ret
        exact ⟨rfl, Kp.refl _ _⟩
    · obtain ⟨_, ⟨_, h0⟩ | ⟨g2, c2, cur2, rfl, _⟩⟩ := h2
      · exact absurd (List.eq_nil_of_length_eq_zero h0) hne
      · clear hne
        go_enter Try.func24, Try.ntmps24
        go_wp2
        go_loopw [5] (fun i wr => ∃ k n : Nat, k ≤ ts.length ∧ i = .int .i64 (k : Int) ∧ wr = w.drewN n) (fun i _ => ts.length - (intOf i).toNat)
        case atStart => exact ⟨0, 0, Nat.zero_le _, rfl, rfl⟩
        case round =>
          obtain ⟨k, n, hk, rfl, rfl⟩ := hrel
          by_cases hlt : k < ts.length
          · have x1 := (unhide H1).cell k hlt
            have y1 := (unhide H2).cell k hlt
            have hli : (k : Int) < (ts.length : Int) := by omega
            clear H1 H2
            generalize ts[k] = s at *
            go_wp2
            go_quiet (fail)
            go_wp2
            go_roundw
            case rel => exact ⟨k + 1, _, by omega, by go_num, rfl⟩
            case measure => simp [intOf]; omega
          · clear H1 H2
            go_wp2
            go_ret
            exact ⟨rfl, Kp.drewN _ _⟩
/-- A disk without a fuse, that is up. -/
def Fine (d : Dk) : Prop := d.left = -1 ∧ d.down = false
theorem fine_ready {d : Dk} (h : Fine d) : d.readyB = true ∧ d.ready = d := by
  obtain ⟨sf, nw, wt, left, down⟩ := d
  obtain ⟨h1, h2⟩ := h
  dsimp only at h1 h2
  subst h1 h2
  exact ⟨rfl, rfl⟩
theorem fine_do {d : Dk} (h : Fine d) (c : Chg) : Fine (d.doD c) := by
  unfold Dk.doD
  split
  · exact h
  · rw [if_pos (fine_ready h).1, (fine_ready h).2]; exact h
section
variable {d : Dk} (h : Fine d)
include h
theorem fine_wr (n : ByteArray) (m : Int) (s : ByteArray) : Fine (d.wrD n m s) := by
  unfold Dk.wrD
  split
  · exact fine_do h _
  · exact h
theorem fine_ct (n : ByteArray) (m : Int) : Fine (d.ctD n m) := by
  unfold Dk.ctD
  split
  · exact fine_do h _
  · exact h
theorem fine_rn (a b : ByteArray) : Fine (d.rnD a b) := by
  unfold Dk.rnD
  split
  · exact fine_do h _
  · exact h
theorem fine_rm (n : ByteArray) : Fine (d.rmD n) := by
  unfold Dk.rmD
  split
  · exact fine_do h _
  · exact h
theorem fine_sync : d.syE = 0 ∧ d.syD = ⟨d.now, d.now, [], -1, false⟩ := by
  obtain ⟨sf, nw, wt, left, down⟩ := d
  obtain ⟨h1, h2⟩ := h
  dsimp only at h1 h2
  subst h1 h2
  exact ⟨rfl, rfl⟩
theorem fine_sy : Fine d.syD := by rw [(fine_sync h).2]; exact ⟨rfl, rfl⟩
end
set_option maxHeartbeats 8000000 in
set_option maxRecDepth 100000 in
theorem grown_any (ad : Option Addr) (cap : Nat) (l : List Ac) (w : World) (hl : l.length ≤ 9223372036854775807) (hA : ActsAt w ad l) (hok : ∀ y ∈ l, y.ok) :
    Calls Try.prog 22 #[.slice ad l.length cap] w fun e w' => ∃ p d, e = .returned (.pointer (some ⟨p, 0, none⟩)) ∧ OwnD w w' p d ∧ Fine d := by
  have HA := hide hA
  have HOK := hide hok
  clear hA hok
  go_enter Try.func22, Try.ntmps22
  go_wp2_with fail
  refine (new_own _).mono ?_
  rintro e w1 ⟨p, rfl, o1⟩
  go_wp2
  go_loopw [4, 5] (fun i _ wr => ∃ (k : Nat) (d : Dk), k ≤ l.length ∧ i = .int .i64 (k : Int) ∧ OwnD w wr p d ∧ Hid (Fine d)) (fun i _ _ => l.length - (intOf i).toNat)
  case atStart => exact ⟨0, _, by omega, rfl, o1, hide ⟨rfl, rfl⟩⟩
  case round =>
    clear o1
    obtain ⟨k, d, hk, rfl, ow, HH⟩ := hrel
    by_cases hlt : k < l.length
    · by_cases h60 : k < 100
      · have hli : (k : Int) < (l.length : Int) := by omega
        have h60i : (k : Int) < 100 := by omega
        have hA' := (unhide HA).kp ow.bel
        obtain ⟨b, off, rfl, hbw, hc⟩ := hA' (fun e => by rw [e] at hlt; simp at hlt)
        have hy := unhide HOK l[k] (List.getElem_mem hlt)
        have hcs := hc k hlt
        obtain ⟨⟨b1, b2⟩, b3, b4, ⟨b5, b6⟩, b7, b8⟩ := hy
        obtain ⟨ac, hac⟩ : ∃ ac, l[k] = ac := ⟨_, rfl⟩
        rw [hac] at hcs b1 b2 b3 b4 b5 b6
        clear hac hc hA'
        obtain ⟨kind, nm, to, pos, n⟩ := ac
        dsimp only at hcs b1 b2 b3 b4 b5 b6
        have hkb := Kp.alloc wr (.cells #[.int .i64 kind, .string nm, .string to, .int .i64 pos, .int .i64 n] 29)
        have ow2 := ow.kp hkb
        clear hkb ow
        have am := fun W => among_any kind 5 W (by decide) (by decide)
        have r0 := Int.emod_nonneg kind (by decide : (5 : Int) ≠ 0)
        have r1 := Int.emod_lt_of_pos kind (by decide : (0 : Int) < 5)
        have AM := hide am
        clear am
        have hcases : kind % 5 = 0 ∨ kind % 5 = 1 ∨ kind % 5 = 2 ∨ kind % 5 = 3 ∨ kind % 5 = 4 := by omega
        rcases hcases with hr | hr | hr | hr | hr
        · rw [hr] at AM
          have OC : Hid (∀ (h : OwnD w (wr.alloc (.cells #[.int .i64 kind, .string nm, .string to, .int .i64 pos, .int .i64 n] 29)) p d), Calls Try.prog 14 #[.pointer (some ⟨p, 0, none⟩), .string nm, .int .i64 pos, .string to] (wr.alloc (.cells #[.int .i64 kind, .string nm, .string to, .int .i64 pos, .int .i64 n] 29)) fun e w' => e = .returned (.int .i64 (d.wrE nm pos to)) ∧ OwnD w w' p (d.wrD nm pos to)) := hide (fun h => h.write nm pos to b3 b5 b6 b4)
          have HN := hide (fine_wr (unhide HH) nm pos to)
          clear hr r0 r1
          generalize (d.wrE nm pos to) = er at *
          generalize (d.wrD nm pos to) = d' at *
          go_wp2_with fail
          refine (unhide AM _).mono ?_
          rintro e w5 ⟨rfl, rfl⟩
          go_wp2_with fail
          refine (unhide OC ow2).mono ?_
          rintro e w6 ⟨rfl, o6⟩
          go_wp2
          go_roundw
          case rel => exact ⟨k + 1, d', by omega, by go_num, o6, HN⟩
          case measure => simp [intOf]; omega
        · rw [hr] at AM
          have OC : Hid (∀ (h : OwnD w (wr.alloc (.cells #[.int .i64 kind, .string nm, .string to, .int .i64 pos, .int .i64 n] 29)) p d), Calls Try.prog 16 #[.pointer (some ⟨p, 0, none⟩), .string nm, .int .i64 pos] (wr.alloc (.cells #[.int .i64 kind, .string nm, .string to, .int .i64 pos, .int .i64 n] 29)) fun e w' => e = .returned (.int .i64 (d.ctE nm pos)) ∧ OwnD w w' p (d.ctD nm pos)) := hide (fun h => h.cut nm pos b3 b5 b6)
          have HN := hide (fine_ct (unhide HH) nm pos)
          clear hr r0 r1
          generalize (d.ctE nm pos) = er at *
          generalize (d.ctD nm pos) = d' at *
          go_wp2_with fail
          refine (unhide AM _).mono ?_
          rintro e w5 ⟨rfl, rfl⟩
          go_wp2_with fail
          refine (unhide OC ow2).mono ?_
          rintro e w6 ⟨rfl, o6⟩
          go_wp2
          go_roundw
          case rel => exact ⟨k + 1, d', by omega, by go_num, o6, HN⟩
          case measure => simp [intOf]; omega
        · rw [hr] at AM
          have OC : Hid (∀ (h : OwnD w (wr.alloc (.cells #[.int .i64 kind, .string nm, .string to, .int .i64 pos, .int .i64 n] 29)) p d), Calls Try.prog 18 #[.pointer (some ⟨p, 0, none⟩), .string nm, .string to] (wr.alloc (.cells #[.int .i64 kind, .string nm, .string to, .int .i64 pos, .int .i64 n] 29)) fun e w' => e = .returned (.int .i64 (d.rnE nm to)) ∧ OwnD w w' p (d.rnD nm to)) := hide (fun h => h.rename nm to b3 b4)
          have HN := hide (fine_rn (unhide HH) nm to)
          clear hr r0 r1
          generalize (d.rnE nm to) = er at *
          generalize (d.rnD nm to) = d' at *
          go_wp2_with fail
          refine (unhide AM _).mono ?_
          rintro e w5 ⟨rfl, rfl⟩
          go_wp2_with fail
          refine (unhide OC ow2).mono ?_
          rintro e w6 ⟨rfl, o6⟩
          go_wp2
          go_roundw
          case rel => exact ⟨k + 1, d', by omega, by go_num, o6, HN⟩
          case measure => simp [intOf]; omega
        · rw [hr] at AM
          have OC : Hid (∀ (h : OwnD w (wr.alloc (.cells #[.int .i64 kind, .string nm, .string to, .int .i64 pos, .int .i64 n] 29)) p d), Calls Try.prog 17 #[.pointer (some ⟨p, 0, none⟩), .string nm] (wr.alloc (.cells #[.int .i64 kind, .string nm, .string to, .int .i64 pos, .int .i64 n] 29)) fun e w' => e = .returned (.int .i64 (d.rmE nm)) ∧ OwnD w w' p (d.rmD nm)) := hide (fun h => h.remove nm b3)
          have HN := hide (fine_rm (unhide HH) nm)
          clear hr r0 r1
          generalize (d.rmE nm) = er at *
          generalize (d.rmD nm) = d' at *
          go_wp2_with fail
          refine (unhide AM _).mono ?_
          rintro e w5 ⟨rfl, rfl⟩
          go_wp2_with fail
          refine (unhide OC ow2).mono ?_
          rintro e w6 ⟨rfl, o6⟩
          go_wp2
          go_roundw
          case rel => exact ⟨k + 1, d', by omega, by go_num, o6, HN⟩
          case measure => simp [intOf]; omega
        · rw [hr] at AM
          have OC : Hid (∀ (h : OwnD w (wr.alloc (.cells #[.int .i64 kind, .string nm, .string to, .int .i64 pos, .int .i64 n] 29)) p d), Calls Try.prog 19 #[.pointer (some ⟨p, 0, none⟩)] (wr.alloc (.cells #[.int .i64 kind, .string nm, .string to, .int .i64 pos, .int .i64 n] 29)) fun e w' => e = .returned (.int .i64 (d.syE)) ∧ OwnD w w' p (d.syD)) := hide (fun h => h.sync)
          have HN := hide (fine_sy (unhide HH))
          clear hr r0 r1
          generalize (d.syE) = er at *
          generalize (d.syD) = d' at *
          go_wp2_with fail
          refine (unhide AM _).mono ?_
          rintro e w5 ⟨rfl, rfl⟩
          go_wp2_with fail
          refine (unhide OC ow2).mono ?_
          rintro e w6 ⟨rfl, o6⟩
          go_wp2
          go_roundw
          case rel => exact ⟨k + 1, d', by omega, by go_num, o6, HN⟩
          case measure => simp [intOf]; omega
      · have h60i : ¬ ((k : Int) < 100) := by omega
        go_wp2
        go_ret
        first | exact ⟨d, ow, unhide HH⟩ | exact ⟨p, d, rfl, ow, unhide HH⟩ | exact ⟨p, rfl, d, ow, unhide HH⟩ | (trace_state; fail)
    · have hli : ¬ ((k : Int) < (l.length : Int)) := by omega
      go_wp2
      go_ret
      first | exact ⟨d, ow, unhide HH⟩ | exact ⟨p, d, rfl, ow, unhide HH⟩ | exact ⟨p, rfl, d, ow, unhide HH⟩ | (trace_state; fail)
/-- A disk of the call's own beside a row of texts. -/
def OwnR (w0 w : World) (p : Nat) (d : Dk) (v : Value) (ts : List ByteArray) : Prop := ∃ F, DiskAt w p d F ∧ Kp [] w0 w ∧ (∀ k ∈ F, w0.heap.size ≤ k) ∧ TxRow w v ts ∧ ∀ k, v.ownBlock = some k → k ∉ F
theorem OwnR.own {w0 w : World} {p : Nat} {d : Dk} {v : Value} {ts : List ByteArray} (h : OwnR w0 w p d v ts) : OwnD w0 w p d := let ⟨F, a, b, c, _⟩ := h; ⟨F, a, b, c⟩
theorem OwnR.row {w0 w : World} {p : Nat} {d : Dk} {v : Value} {ts : List ByteArray} (h : OwnR w0 w p d v ts) : TxRow w v ts := let ⟨_, _, _, _, a, _⟩ := h; a
theorem OwnR.kp {w0 w w' : World} {p : Nat} {d : Dk} {v : Value} {ts : List ByteArray} (h : OwnR w0 w p d v ts) (hk : Kp [] w w') : OwnR w0 w' p d v ts := by
  obtain ⟨F, a, b, c, e, f⟩ := h
  exact ⟨F, a.kp hk (by simp), b.trans hk (by simp), c, e.kp hk (by simp), f⟩
theorem OwnR.step {w0 w : World} {p : Nat} {d d' : Dk} {v : Value} {ts : List ByteArray} {f : Nat} {args : Array Value} {r : Ending} (h : OwnR w0 w p d v ts) (hc : ∀ F, DiskAt w p d F → Calls Try.prog f args w fun e w' => e = r ∧ Did w F p d' w') : Calls Try.prog f args w fun e w' => e = r ∧ OwnR w0 w' p d' v ts := by
  obtain ⟨F, hd, h1, h2, h6, h7⟩ := h
  refine (hc F hd).mono fun e w' hh => ⟨hh.1, ?_⟩
  obtain ⟨F', hd', h3, h4⟩ := hh.2
  refine ⟨F', hd', h1.trans h3 (fun x hx => Or.inr (h2 x hx)), fun k hk => ?_, h6.kp h3 h7, fun k hk hm => ?_⟩
  · rcases h4 k hk with h5 | h5
    · exact h2 k h5
    · have := h1.size; omega
  · rcases h4 k hm with h5 | h5
    · exact h7 k hk h5
    · have := (World.ownsRow.lt h6 k hk).2; omega
theorem OwnD.all {w0 w : World} {p : Nat} {d : Dk} (h : OwnD w0 w p d) : Calls Try.prog 23 #[.pointer (some ⟨p, 0, none⟩)] w fun e w' => ∃ v, e = .returned v ∧ OwnR w0 w' p d v (alL d.now) ∧ Kp [] w w' := by
  obtain ⟨F, hd, h1, h2⟩ := h
  have hlt := hd.lt
  refine (all_any p d F w hd).mono ?_
  rintro e w' ⟨v, rfl, hT, hk, hv⟩
  refine ⟨v, rfl, ⟨F, hd.kp hk (by simp), h1.trans hk (by simp), h2, hT, fun k hk' hm => ?_⟩, hk⟩
  have := hlt k hm
  have := hv k hk'
  omega
end Go.Proofs.Ytpbmkbfcnhekoaa
