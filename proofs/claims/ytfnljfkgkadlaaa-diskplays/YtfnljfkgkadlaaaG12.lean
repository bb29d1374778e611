/-
  Remove, Rename of a disk.
  Waiting of a disk.
  A disk that the call itself made, more calls; works of disks.
  A number from 0 to n - 1: the plain fact.
  among: a number from 0 to n - 1.
  The document's disk: rows of files; a name; a file's place; how many bytes there are.
-/
import Derived.Test.YtfnljfkgkadlaaaG09
import Derived.Test.YtfnljfkgkadlaaaG07
import Derived.Test.YtfnljfkgkadlaaaG11
import Derived.Test.YtfnljfkgkadlaaaG01
namespace Go.Proofs.Ytfnljfkgkadlaaa
open Go.RowKit

set_option maxHeartbeats 1000000 in
set_option maxRecDepth 100000 in
theorem remove_any (n : ByteArray) (p : Nat) (d : Dk) (F : List Nat) (w : World) (h : DiskAt w p d F) (hn : n.size ≤ 9223372036854775807) :
    Calls Try.prog 16 #[.pointer (some ⟨p, 0, none⟩), .string n] w fun e w' => e = .returned (.int .i64 (d.rmE n)) ∧ Did w F p (d.rmD n) w' := by
  have nm := dname_any n w hn
  cases hd : dnm n with
  | false =>
    rw [hd] at nm
    have NM := hide nm
    have HD := hide h.did
    rw [show d.rmE n = 30 by simp [Dk.rmE, badN_30 hd], show d.rmD n = d by simp [Dk.rmD, badN_30 hd]]
    clear h nm hd
    go_enter Try.func16, Try.ntmps16
    go_wp2_with fail
    refine (unhide NM).mono ?_
    rintro e w1 ⟨rfl, rfl⟩
    go_wp2
    go_ret
    exact ⟨rfl, unhide HD⟩
  | true =>
    rw [hd] at nm
    have NM := hide nm
    have hlen := dnm_len hd
    obtain ⟨bn, l, clock, Ln, ad, cap, hW, hf, hv, hl⟩ := h.nowP n
    obtain ⟨c1, hm, _, _⟩ := hW w (Kp.refl _ _)
    have HV := hide hv
    have HF := hide hf
    cases hg : (getF d.now n).isSome with
    | false =>
      rw [hg] at HF
      rw [show d.rmE n = 5 by simp [Dk.rmE, badN_5 hd hg], show d.rmD n = d by simp [Dk.rmD, badN_5 hd hg]]
      have HD := hide h.did
      clear h nm hd hW hf hv hl hg
      generalize (hasF d.now n).length = H at *
      go_enter Try.func16, Try.ntmps16
      go_wp2_with fail
      refine (unhide NM).mono ?_
      rintro e w1 ⟨rfl, rfl⟩
      go_wp2_with (at_lookup; refine wpList_lookOk rfl _ _ rfl rfl hm _ rfl _ (unhide HV) false (unhide HF) ?_)
      go_wp2
      go_ret
      exact ⟨rfl, unhide HD⟩
    | true =>
      rw [hg] at HF
      rw [show d.rmE n = d.doE by simp [Dk.rmE, badN_0 hd hg], show d.rmD n = d.doD (.rm n) by simp [Dk.rmD, badN_0 hd hg]]
      have cl := clone_any n w (by omega)
      have ad' := fun W (hk : Kp [] w W) => add_any (.rm n) p d F W (h.kp hk (by simp)) (can_rm h.inv.now h.nodup)
      have CL := hide cl
      have AD := hide ad'
      have H0 := hide h
      clear h nm hd hW hf hv hl hg cl ad'
      generalize (hasF d.now n).length = H at *
      go_enter Try.func16, Try.ntmps16
      go_wp2_with fail
      refine (unhide NM).mono ?_
      rintro e w1 ⟨rfl, rfl⟩
      go_wp2_with (at_lookup; refine wpList_lookOk rfl _ _ rfl rfl hm _ rfl _ (unhide HV) true (unhide HF) ?_)
      refine (unhide CL).mono ?_
      rintro e w2 ⟨rfl, hb2⟩
      clear c1
      go_wp2_with fail
      refine (unhide AD w2 (Kp.ofBelow hb2)).mono ?_
      rintro e w3 ⟨rfl, hd3⟩
      have HD := hide (Did.pre (Kp.ofBelow hb2) hd3)
      clear hd3 hm
      go_wp2
      go_ret
      exact ⟨rfl, unhide HD⟩
set_option maxHeartbeats 2000000 in
set_option maxRecDepth 100000 in
theorem rename_any (a b : ByteArray) (p : Nat) (d : Dk) (F : List Nat) (w : World) (h : DiskAt w p d F) (hna : a.size ≤ 9223372036854775807) (hnb : b.size ≤ 9223372036854775807) :
    Calls Try.prog 14 #[.pointer (some ⟨p, 0, none⟩), .string a, .string b] w fun e w' => e = .returned (.int .i64 (d.rnE a b)) ∧ Did w F p (d.rnD a b) w' := by
  have nm := dname_any a w hna
  have nm2 := dname_any b w hnb
  cases hd : dnm a with
  | false =>
    rw [hd] at nm
    have NM := hide nm
    have HD := hide h.did
    rw [show d.rnE a b = 30 by simp [Dk.rnE, Dk.badR, hd], show d.rnD a b = d by simp [Dk.rnD, Dk.badR, hd]]
    clear h nm nm2 hd
    go_enter Try.func14, Try.ntmps14
    go_wp2_with fail
    refine (unhide NM).mono ?_
    rintro e w1 ⟨rfl, rfl⟩
    go_wp2
    go_ret
    exact ⟨rfl, unhide HD⟩
  | true =>
    rw [hd] at nm
    have NM := hide nm
    have hlen := dnm_len hd
    cases hd2 : dnm b with
    | false =>
      rw [hd2] at nm2
      have NM2 := hide nm2
      have HD := hide h.did
      rw [show d.rnE a b = 30 by simp [Dk.rnE, Dk.badR, hd2], show d.rnD a b = d by simp [Dk.rnD, Dk.badR, hd2]]
      clear h nm nm2 hd hd2
      go_enter Try.func14, Try.ntmps14
      go_wp2_with fail
      refine (unhide NM).mono ?_
      rintro e w1 ⟨rfl, rfl⟩
      go_wp2_with fail
      refine (unhide NM2).mono ?_
      rintro e w2 ⟨rfl, rfl⟩
      go_wp2
      go_ret
      exact ⟨rfl, unhide HD⟩
    | true =>
      rw [hd2] at nm2
      have NM2 := hide nm2
      have hlen2 := dnm_len hd2
      have hbr : d.badR a b = d.badN a := by unfold Dk.badR; rw [if_neg (by simp [hd, hd2])]
      obtain ⟨bn, l, clock, Ln, ad, cap, hW, hf, hv, hl⟩ := h.nowP a
      obtain ⟨c1, hm, _, _⟩ := hW w (Kp.refl _ _)
      have HV := hide hv
      have HF := hide hf
      cases hg : (getF d.now a).isSome with
      | false =>
        rw [hg] at HF
        rw [show d.rnE a b = 5 by simp [Dk.rnE, hbr, badN_5 hd hg], show d.rnD a b = d by simp [Dk.rnD, hbr, badN_5 hd hg]]
        have HD := hide h.did
        clear h nm nm2 hd hd2 hW hf hv hl hg hbr
        generalize (hasF d.now a).length = H at *
        go_enter Try.func14, Try.ntmps14
        go_wp2_with fail
        refine (unhide NM).mono ?_
        rintro e w1 ⟨rfl, rfl⟩
        go_wp2_with fail
        refine (unhide NM2).mono ?_
        rintro e w2 ⟨rfl, rfl⟩
        go_wp2_with (at_lookup; refine wpList_lookOk rfl _ _ rfl rfl hm _ rfl _ (unhide HV) false (unhide HF) ?_)
        go_wp2
        go_ret
        exact ⟨rfl, unhide HD⟩
      | true =>
        rw [hg] at HF
        rw [show d.rnE a b = d.doE by simp [Dk.rnE, hbr, badN_0 hd hg], show d.rnD a b = d.doD (.rn a b) by simp [Dk.rnD, hbr, badN_0 hd hg]]
        have cl := clone_any a w (by omega)
        have cl2 := fun W => clone_any b W (by omega)
        have ad' := fun W (hk : Kp [] w W) => add_any (.rn a b) p d F W (h.kp hk (by simp)) (can_rn h.inv.now h.nodup hg hd2)
        have CL := hide cl
        have CL2 := hide cl2
        have AD := hide ad'
        clear h nm nm2 hd hd2 hW hf hv hl hg cl cl2 ad' hbr
        generalize (hasF d.now a).length = H at *
        go_enter Try.func14, Try.ntmps14
        go_wp2_with fail
        refine (unhide NM).mono ?_
        rintro e w1 ⟨rfl, rfl⟩
        go_wp2_with fail
        refine (unhide NM2).mono ?_
        rintro e w2 ⟨rfl, rfl⟩
        go_wp2_with (at_lookup; refine wpList_lookOk rfl _ _ rfl rfl hm _ rfl _ (unhide HV) true (unhide HF) ?_)
        refine (unhide CL).mono ?_
        rintro e w3 ⟨rfl, hb3⟩
        clear c1
        go_wp2_with fail
        refine (unhide CL2 w3).mono ?_
        rintro e w4 ⟨rfl, hb4⟩
        have hk4 := (Kp.ofBelow hb3).trans (Kp.ofBelow hb4) (by simp)
        go_wp2_with fail
        refine (unhide AD w4 hk4).mono ?_
        rintro e w5 ⟨rfl, hd5⟩
        have HD := hide (Did.pre hk4 hd5)
        clear hd5 hm
        go_wp2
        go_ret
        exact ⟨rfl, unhide HD⟩
end Go.Proofs.Ytfnljfkgkadlaaa
namespace Go.Proofs.Ytfnljfkgkadlaaa
open Go.RowKit

set_option maxHeartbeats 400000 in
theorem waiting_any (p : Nat) (d : Dk) (F : List Nat) (w : World) (h : DiskAt w p d F) :
    Calls Try.prog 29 #[.pointer (some ⟨p, 0, none⟩)] w fun e w' => e = .returned (.int .i64 (d.wait.length : Int)) ∧ w' = w := by
  obtain ⟨bs, bn, wv, Ls, Ln, ha, rfl, _⟩ := h
  have hc := ha.cells
  obtain ⟨ad, cap, rfl, _⟩ := ha.wait.form
  generalize d.wait.length = n at *
  clear ha
  go_enter Try.func29, Try.ntmps29
  go_wp2
  go_ret
  exact ⟨rfl, rfl⟩
end Go.Proofs.Ytfnljfkgkadlaaa
namespace Go.Proofs.Ytfnljfkgkadlaaa
open Go.RowKit

section
variable {w0 w : World} {p : Nat} {d : Dk}
theorem OwnD.rename (h : OwnD w0 w p d) (a b : ByteArray) (ha : a.size ≤ 9223372036854775807) (hb : b.size ≤ 9223372036854775807) :
    Calls Try.prog 14 #[.pointer (some ⟨p, 0, none⟩), .string a, .string b] w fun e w' => e = .returned (.int .i64 (d.rnE a b)) ∧ OwnD w0 w' p (d.rnD a b) := h.step fun F hd => rename_any a b p d F w hd ha hb
theorem OwnD.remove (h : OwnD w0 w p d) (n : ByteArray) (hn : n.size ≤ 9223372036854775807) :
    Calls Try.prog 16 #[.pointer (some ⟨p, 0, none⟩), .string n] w fun e w' => e = .returned (.int .i64 (d.rmE n)) ∧ OwnD w0 w' p (d.rmD n) := h.step fun F hd => remove_any n p d F w hd hn
theorem OwnD.waiting (h : OwnD w0 w p d) : Calls Try.prog 29 #[.pointer (some ⟨p, 0, none⟩)] w fun e w' => e = .returned (.int .i64 (d.wait.length : Int)) ∧ w' = w := let ⟨F, hd, _⟩ := h; waiting_any p d F w hd
end
def sA : ByteArray := ⟨#[97]⟩
def sB : ByteArray := ⟨#[98]⟩
def kD1 : Dk := Dk.new.wrD ⟨#[97]⟩ 0 ⟨#[120, 121]⟩
def kD2 : Dk := kD1.syD
def kD3 : Dk := kD2.wrD ⟨#[97]⟩ 2 ⟨#[122]⟩
def kD4 : Dk := kD3.wrD ⟨#[98]⟩ 0 ⟨#[117, 118]⟩
def kD5 : Dk := kD4.crash 1 1
theorem kE : Dk.new.wrE ⟨#[97]⟩ 0 ⟨#[120, 121]⟩ = 0 ∧ kD1.syE = 0 ∧ kD2.wrE ⟨#[97]⟩ 2 ⟨#[122]⟩ = 0 ∧ kD3.wrE ⟨#[98]⟩ 0 ⟨#[117, 118]⟩ = 0 ∧ kD5.rdE ⟨#[97]⟩ = 0 ∧ kD5.rdE ⟨#[98]⟩ = 0 ∧ kD5.rdS ⟨#[97]⟩ = ⟨#[120, 121, 122]⟩ ∧ kD5.rdS ⟨#[98]⟩ = ⟨#[117]⟩ ∧ (kD5.wait.length : Int) = 0 := by decide +kernel
set_option maxHeartbeats 2000000 in
set_option maxRecDepth 100000 in
theorem works_any (w : World) : Calls Try.prog 8 #[] w fun e w' => e = .returned (.bool true) ∧ Kp [] w w' := by
  obtain ⟨e1, e2, e3, e4, e5, e6, e7, e8, e9⟩ := kE
  have st1 : ∀ W p, OwnD w W p Dk.new → Calls Try.prog 10 #[.pointer (some ⟨p, 0, none⟩), .string ⟨#[97]⟩, .int .i64 0, .string ⟨#[120, 121]⟩] W fun e w' => e = .returned (.int .i64 0) ∧ OwnD w w' p kD1 := fun W p h => by
    have := h.write ⟨#[97]⟩ 0 ⟨#[120, 121]⟩ (by decide) (by decide) (by decide) (by decide)
    rw [e1] at this; exact this
  have st2 : ∀ W p, OwnD w W p kD1 → Calls Try.prog 18 #[.pointer (some ⟨p, 0, none⟩)] W fun e w' => e = .returned (.int .i64 0) ∧ OwnD w w' p kD2 := fun W p h => by
    have := h.sync
    rw [e2] at this; exact this
  have st3 : ∀ W p, OwnD w W p kD2 → Calls Try.prog 10 #[.pointer (some ⟨p, 0, none⟩), .string ⟨#[97]⟩, .int .i64 2, .string ⟨#[122]⟩] W fun e w' => e = .returned (.int .i64 0) ∧ OwnD w w' p kD3 := fun W p h => by
    have := h.write ⟨#[97]⟩ 2 ⟨#[122]⟩ (by decide) (by decide) (by decide) (by decide)
    rw [e3] at this; exact this
  have st4 : ∀ W p, OwnD w W p kD3 → Calls Try.prog 10 #[.pointer (some ⟨p, 0, none⟩), .string ⟨#[98]⟩, .int .i64 0, .string ⟨#[117, 118]⟩] W fun e w' => e = .returned (.int .i64 0) ∧ OwnD w w' p kD4 := fun W p h => by
    have := h.write ⟨#[98]⟩ 0 ⟨#[117, 118]⟩ (by decide) (by decide) (by decide) (by decide)
    rw [e4] at this; exact this
  have st5 : ∀ W p, OwnD w W p kD4 → Calls Try.prog 24 #[.pointer (some ⟨p, 0, none⟩), .int .i64 1, .int .i64 1] W fun e w' => e = .returned (.tuple #[]) ∧ OwnD w w' p kD5 := fun W p h => h.crash 1 1 (by decide)
  have st6 : ∀ W p, OwnD w W p kD5 → Calls Try.prog 20 #[.pointer (some ⟨p, 0, none⟩), .string ⟨#[97]⟩] W fun e w' => e = .returned (.tuple #[.string ⟨#[120, 121, 122]⟩, .int .i64 0]) ∧ w' = W := fun W p h => by
    have := h.read ⟨#[97]⟩ (by decide)
    rw [e5, e7] at this; exact this
  have st7 : ∀ W p, OwnD w W p kD5 → Calls Try.prog 20 #[.pointer (some ⟨p, 0, none⟩), .string ⟨#[98]⟩] W fun e w' => e = .returned (.tuple #[.string ⟨#[117]⟩, .int .i64 0]) ∧ w' = W := fun W p h => by
    have := h.read ⟨#[98]⟩ (by decide)
    rw [e6, e8] at this; exact this
  have st8 : ∀ W p, OwnD w W p kD5 → Calls Try.prog 29 #[.pointer (some ⟨p, 0, none⟩)] W fun e w' => e = .returned (.int .i64 0) ∧ w' = W := fun W p h => by
    have := h.waiting
    rw [e9] at this; exact this
  have S1 := hide st1
  have S2 := hide st2
  have S3 := hide st3
  have S4 := hide st4
  have S5 := hide st5
  have S6 := hide st6
  have S7 := hide st7
  have S8 := hide st8
  clear e1 e2 e3 e4 e5 e6 e7 e8 e9 st1 st2 st3 st4 st5 st6 st7 st8
  go_enter Try.func8, Try.ntmps8
  go_wp2_with fail
  refine (new_own w).mono ?_
  rintro e w1 ⟨p, rfl, o1⟩
  go_wp2_with fail
  refine (unhide S1 w1 p o1).mono ?_
  rintro e w2 ⟨rfl, o2⟩
  go_wp2_with fail
  refine (unhide S2 w2 p o2).mono ?_
  rintro e w3 ⟨rfl, o3⟩
  go_wp2_with fail
  refine (unhide S3 w3 p o3).mono ?_
  rintro e w4 ⟨rfl, o4⟩
  go_wp2_with fail
  refine (unhide S4 w4 p o4).mono ?_
  rintro e w5 ⟨rfl, o5⟩
  go_wp2_with fail
  refine (unhide S5 w5 p o5).mono ?_
  rintro e w6 ⟨rfl, o6⟩
  go_wp2_with fail
  refine (unhide S6 w6 p o6).mono ?_
  rintro e w7 ⟨rfl, rfl⟩
  go_wp2_with fail
  refine (unhide S7 w7 p o6).mono ?_
  rintro e w8 ⟨rfl, rfl⟩
  go_wp2_with fail
  refine (unhide S8 w8 p o6).mono ?_
  rintro e w9 ⟨rfl, rfl⟩
  go_wp2
  go_ret
  exact ⟨rfl, o6.bel⟩
end Go.Proofs.Ytfnljfkgkadlaaa
namespace Go.Proofs.Ytfnljfkgkadlaaa

theorem among_eq (x n : Int) (hn : 0 < n) : (x.tmod n + n).tmod n = x % n := by
  rcases Int.lt_or_le x 0 with h | h
  · have h1 := Int.tmod_eq_emod (a := x) (b := n)
    have h2 := Int.emod_nonneg x (by omega : n ≠ 0)
    have h3 := Int.emod_lt_of_pos x hn
    by_cases hd : n ∣ x
    · have e : x % n = 0 := Int.emod_eq_zero_of_dvd hd
      rw [h1, if_pos (Or.inr hd), e]
      simp
    · rw [h1, if_neg (by omega), show (n.natAbs : Int) = n by omega, show x % n - n + n = x % n by omega, Int.tmod_eq_emod_of_nonneg h2, Int.emod_emod_of_dvd x (Int.dvd_refl n)]
  · rw [Int.tmod_eq_emod_of_nonneg h, Int.tmod_eq_emod_of_nonneg (by have := Int.emod_nonneg x (by omega : n ≠ 0); omega)]
    simp
end Go.Proofs.Ytfnljfkgkadlaaa
namespace Go.Proofs.Ytfnljfkgkadlaaa
open Go.RowKit

set_option maxHeartbeats 400000 in
theorem among_any (x n : Int) (w : World) (hn : 0 < n) (hn1 : n ≤ 1099511627776) :
    Calls Try.prog 9 #[.int .i64 x, .int .i64 n] w fun e w' => e = .returned (.int .i64 (x % n)) ∧ w' = w := by
  have hne : (n == 0) = false := beq_eq_false_iff_ne.2 (by omega)
  have e1 := among_eq x n hn
  have b1 : -n < x.tmod n := Int.lt_tmod_of_pos x hn
  have b2 : x.tmod n < n := Int.tmod_lt_of_pos x hn
  go_enter Try.func9, Try.ntmps9
  go_wp2
  go_ret
  exact ⟨rfl, rfl⟩
end Go.Proofs.Ytfnljfkgkadlaaa
namespace Go.Proofs.Ytfnljfkgkadlaaa
open Go.RowKit

theorem strNe {a b : ByteArray} (h : a ≠ b) : (a.toList == b.toList) = false := beq_eq_false_iff_ne.2 fun e => h (by
  rw [ByteArray.toList_eq, ByteArray.toList_eq] at e
  exact Go.WideShapes.bytes_inj e)
def fcell (p : ByteArray × List UInt8) : List Value := [.string p.1, .string ⟨p.2.toArray⟩]
/-- Files lie in a row of their own. -/
def FlRow (w : World) (v : Value) (fs : Fs) : Prop := w.ownsRow 0 58 2 v fs.length (fs.flatMap fcell)
theorem FlRow.nil (w : World) : FlRow w (.slice none 0 0) [] := World.ownsRow_nil _ _ _ _
theorem FlRow.kp {F : List Nat} {w w' : World} {v : Value} {fs : Fs} (h : FlRow w v fs) (hk : Kp F w w') (hF : ∀ k, v.ownBlock = some k → k ∉ F) : FlRow w' v fs := by
  obtain ⟨h1, h2 | ⟨g, cp, cur, rfl, hb, hh, r⟩⟩ := h
  · exact ⟨h1, Or.inl h2⟩
  · exact ⟨h1, Or.inr ⟨g, cp, cur, rfl, hb, (hk.block g (Array.getElem?_eq_some_iff.1 hh).1 (hF g rfl)).trans hh, r⟩⟩
theorem FlRow.lt {w : World} {v : Value} {fs : Fs} (h : FlRow w v fs) {k : Nat} (hk : v.ownBlock = some k) : k < w.heap.size := (World.ownsRow.lt h k hk).2
theorem fcells_at : ∀ (fs : Fs) (i : Nat) (h : i < fs.length), (fs.flatMap fcell)[i * 2]? = some (.string fs[i].1) ∧ (fs.flatMap fcell)[i * 2 + 1]? = some (.string ⟨fs[i].2.toArray⟩)
  | [], i, h => absurd h (by simp)
  | p :: fs, 0, _ => ⟨rfl, rfl⟩
  | p :: fs, i + 1, h => by
    have := fcells_at fs i (by simpa using h)
    rw [List.flatMap_cons, List.getElem?_append_right (by simp [fcell]; omega), List.getElem?_append_right (by simp [fcell]; omega)]
    have e1 : (i + 1) * 2 - (fcell p).length = i * 2 := by simp [fcell]; omega
    have e2 : (i + 1) * 2 + 1 - (fcell p).length = i * 2 + 1 := by simp [fcell]; omega
    rw [e1, e2]
    exact this
theorem FlRow.cell {w : World} {g cap : Nat} {fs : Fs} (h : FlRow w (.slice (some ⟨g, 0, none⟩) fs.length cap) fs) (i : Nat) (hi : i < fs.length) : w.cell? ⟨g, i * 2, none⟩ = some (.string fs[i].1) ∧ w.cell? ⟨g, i * 2 + 1, none⟩ = some (.string ⟨fs[i].2.toArray⟩) := by
  rw [World.ownsRow.cellAt h (i * 2) (by omega), World.ownsRow.cellAt h (i * 2 + 1) (by omega)]
  exact fcells_at fs i hi
theorem FlRow.shape {w : World} {v : Value} {fs : Fs} (h : FlRow w v fs) : (v = .slice none 0 0 ∧ fs = []) ∨ ∃ g cap, v = .slice (some ⟨g, 0, none⟩) fs.length cap ∧ fs.length ≤ cap ∧ cap ≤ 9223372036854775807 := by
  obtain ⟨_, ⟨rfl, h0⟩ | ⟨g, cap, cur, rfl, _, _, hn, hm, _⟩⟩ := h
  · exact Or.inl ⟨rfl, List.eq_nil_of_length_eq_zero h0⟩
  · exact Or.inr ⟨g, cap, rfl, hn, by unfold maxLen at hm; omega⟩
set_option maxHeartbeats 2000000 in
set_option maxRecDepth 100000 in
theorem find_any (v : Value) (fs : Fs) (n : ByteArray) (w : World) (h : FlRow w v fs) :
    Calls Try.prog 35 #[v, .string n] w fun e w' => ∃ r, e = .returned (.int .i64 r) ∧ w' = w ∧ ((∃ k : Nat, ∃ hk : k < fs.length, r = (k : Int) ∧ fs[k].1 = n ∧ getF fs n = some fs[k].2) ∨ (r = -1 ∧ getF fs n = none)) := by
  have HH := hide h
  obtain ⟨rfl, rfl⟩ | ⟨g, cap, rfl, hc, hm⟩ := h.shape
  · clear HH h
    go_enter Try.func35, Try.ntmps35
    go_wp2
    go_loopw [5] (fun i wr => i = .int .i64 0 ∧ wr = w) (fun _ _ => 0)
    case atStart => exact ⟨rfl, rfl⟩
    case round =>
      obtain ⟨rfl, rfl⟩ := hrel
      go_wp2
      go_ret
      exact ⟨_, rfl, rfl, Or.inr ⟨rfl, rfl⟩⟩
  · clear h
    go_enter Try.func35, Try.ntmps35
    go_wp2
    go_loopw [5] (fun i wr => ∃ k : Nat, k ≤ fs.length ∧ i = .int .i64 (k : Int) ∧ wr = w ∧ Hid (∀ p ∈ fs.take k, p.1 ≠ n)) (fun i _ => fs.length - (intOf i).toNat)
    case atStart => exact ⟨0, Nat.zero_le _, rfl, rfl, hide (by simp)⟩
    case round =>
      obtain ⟨k, hk, rfl, rfl, HN⟩ := hrel
      by_cases hlt : k < fs.length
      · have hli : (k : Int) < (fs.length : Int) := by omega
        have c1 := ((unhide HH).cell k hlt).1
        have hgen : ∃ s, fs[k].1 = s := ⟨_, rfl⟩
        obtain ⟨s, hs⟩ := hgen
        rw [hs] at c1
        have HS := hide hs
        clear hs
        by_cases he : s = n
        · subst he
          have HF : Hid (getF fs s = some fs[k].2) := hide (by
            unfold getF
            have hsp : fs = fs.take k ++ fs[k] :: fs.drop (k + 1) := by
              rw [← List.drop_eq_getElem_cons hlt, List.take_append_drop]
            have hf : fs.find? (fun p => decide (p.1 = s)) = some fs[k] := by
              refine List.find?_eq_some_iff_append.2 ⟨by simpa using unhide HS, fs.take k, fs.drop (k + 1), hsp, fun p hp => by simpa using unhide HN p hp⟩
            rw [hf]; rfl)
          go_wp2
          go_ret
          exact ⟨_, rfl, rfl, Or.inl ⟨k, hlt, rfl, unhide HS, unhide HF⟩⟩
        · have heb := strNe he
          go_wp2
          go_roundw
          case rel => exact ⟨k + 1, by omega, by go_num, by trivial, hide (fun p hp => by
            rw [List.take_succ_eq_append_getElem hlt, List.mem_append, List.mem_singleton] at hp
            rcases hp with hp | rfl
            · exact unhide HN p hp
            · rw [unhide HS]; exact he)⟩
          case measure => simp [intOf]; omega
      · obtain rfl : k = fs.length := by omega
        rw [List.take_length] at HN
        have HF : Hid (getF fs n = none) := hide (getF_none fun hm => by
          obtain ⟨q, hq, e⟩ := List.mem_map.1 hm
          exact unhide HN q hq e)
        go_wp2
        go_ret
        exact ⟨_, rfl, rfl, Or.inr ⟨rfl, unhide HF⟩⟩
set_option maxHeartbeats 2000000 in
set_option maxRecDepth 100000 in
theorem total_any (v : Value) (fs : Fs) (w : World) (h : FlRow w v fs) (ht : total fs ≤ 1000000000) :
    Calls Try.prog 36 #[v] w fun e w' => e = .returned (.int .i64 (total fs : Int)) ∧ w' = w := by
  have HH := hide h
  obtain ⟨rfl, rfl⟩ | ⟨g, cap, rfl, hc, hm⟩ := h.shape
  · clear HH h
    go_enter Try.func36, Try.ntmps36
    go_wp2
    go_loopw [3, 4] (fun n i wr => n = .int .i64 0 ∧ i = .int .i64 0 ∧ wr = w) (fun _ _ _ => 0)
    case atStart => exact ⟨rfl, rfl, rfl⟩
    case round =>
      obtain ⟨rfl, rfl, rfl⟩ := hrel
      go_wp2
      go_ret
      exact ⟨rfl, rfl⟩
  · clear h
    have hstep : ∀ k (hk : k < fs.length), total (fs.take (k + 1)) = total (fs.take k) + fs[k].2.length := fun k hk => by
      unfold total
      rw [List.take_succ_eq_append_getElem hk, List.map_append, List.sum_append]; simp
    have hle : ∀ k, total (fs.take k) ≤ total fs := fun k => by
      have : total fs = total (fs.take k) + total (fs.drop k) := by
        unfold total
        rw [← List.sum_append, ← List.map_append, List.take_append_drop]
      omega
    have HS := hide hstep
    have HL := hide hle
    clear hstep hle
    go_enter Try.func36, Try.ntmps36
    go_wp2
    go_loopw [3, 4] (fun n i wr => ∃ k : Nat, k ≤ fs.length ∧ i = .int .i64 (k : Int) ∧ n = .int .i64 (total (fs.take k) : Int) ∧ wr = w) (fun _ i _ => fs.length - (intOf i).toNat)
    case atStart => exact ⟨0, Nat.zero_le _, rfl, rfl, rfl⟩
    case round =>
      obtain ⟨k, hk, rfl, rfl, rfl⟩ := hrel
      by_cases hlt : k < fs.length
      · have hli : (k : Int) < (fs.length : Int) := by omega
        have c1 := ((unhide HH).cell k hlt).2
        have e1 := unhide HS k hlt
        have e2 := unhide HL (k + 1)
        have hsz : (⟨fs[k].2.toArray⟩ : ByteArray).size = fs[k].2.length := by simp [ByteArray.size]
        have E1 := hide e1
        have hb : total (fs.take k) + fs[k].2.length ≤ 1000000000 := by omega
        clear e1 e2
        generalize (⟨fs[k].2.toArray⟩ : ByteArray) = s at *
        rw [← hsz] at E1 hb
        generalize total (fs.take k) = T at *
        clear hsz
        go_wp2
        go_roundw
        case rel => exact ⟨k + 1, by omega, by go_num, by rw [unhide E1]; go_num, by trivial⟩
        case measure => simp [intOf]; omega
      · obtain rfl : k = fs.length := by omega
        rw [List.take_length]
        go_wp2
        go_ret
        exact ⟨rfl, rfl⟩
end Go.Proofs.Ytfnljfkgkadlaaa
