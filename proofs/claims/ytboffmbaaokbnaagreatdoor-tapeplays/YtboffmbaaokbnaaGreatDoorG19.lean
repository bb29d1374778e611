/-
  The document's disk, as it lies; a change, whatever comes of it; remove, rename, cut.
  The document's disk: cut.
  The document's disk: write.
  The document's disk: sync, fuse, read, new, as it lies.
  SameTexts of two slices that read the same texts returns true.
  The document's sum, bit by bit, is the sum by the table.
-/
import Derived.Test.YtboffmbaaokbnaaGreatDoorG18
import Derived.Test.YtboffmbaaokbnaaGreatDoorG16
import Derived.Test.YtboffmbaaokbnaaGreatDoorG10
import Derived.Test.YtboffmbaaokbnaaGreatDoorG09
namespace Go.Proofs.YtboffmbaaokbnaaGreatDoor
open Go.RowKit

def rfF (p : Nat) (vs vw vn : Value) : List Nat := p :: (vs.ownBlock.toList ++ (vw.ownBlock.toList ++ vn.ownBlock.toList))
structure RfW (w : World) (p : Nat) (d : Dk) (vs vw vn : Value) : Prop where
  box : CBox p (rfC vs vw vn d.left d.down) 50 w
  safe : FlRow w vs d.safe
  wait : ChRow w vw d.wait
  now : FlRow w vn d.now
  nes : ∀ k, vs.ownBlock = some k → k ≠ p
  new : ∀ k, vw.ownBlock = some k → k ≠ p
  nen : ∀ k, vn.ownBlock = some k → k ≠ p
/-- The document's disk lies there, with these blocks. -/
def RDk (w : World) (p : Nat) (d : Dk) (F : List Nat) : Prop := ∃ vs vw vn, RfW w p d vs vw vn ∧ F = rfF p vs vw vn
def RDid (w : World) (F : List Nat) (p : Nat) (d : Dk) (w' : World) : Prop := ∃ F', RDk w' p d F' ∧ Kp F w w' ∧ ∀ k ∈ F', k ∈ F ∨ w.heap.size ≤ k
theorem rfF_mem {p k : Nat} {vs vw vn : Value} (h : k ∈ rfF p vs vw vn) : k = p ∨ vs.ownBlock = some k ∨ vw.ownBlock = some k ∨ vn.ownBlock = some k := by
  unfold rfF at h
  rcases List.mem_cons.1 h with h | h
  · exact Or.inl h
  rcases List.mem_append.1 h with h | h
  · exact Or.inr (Or.inl (by simpa using h))
  rcases List.mem_append.1 h with h | h
  · exact Or.inr (Or.inr (Or.inl (by simpa using h)))
  · exact Or.inr (Or.inr (Or.inr (by simpa using h)))
theorem rfF_p (p : Nat) (vs vw vn : Value) : p ∈ rfF p vs vw vn := List.mem_cons_self ..
theorem rfF_s {p k : Nat} {vs vw vn : Value} (h : vs.ownBlock = some k) : k ∈ rfF p vs vw vn := by unfold rfF; simp [h]
theorem rfF_w {p k : Nat} {vs vw vn : Value} (h : vw.ownBlock = some k) : k ∈ rfF p vs vw vn := by unfold rfF; simp [h]
theorem rfF_n {p k : Nat} {vs vw vn : Value} (h : vn.ownBlock = some k) : k ∈ rfF p vs vw vn := by unfold rfF; simp [h]
section
variable {w w' : World} {p : Nat} {d : Dk} {F : List Nat}
theorem RfW.at' {vs vw vn : Value} (h : RfW w p d vs vw vn) : RfAt w p d vs vw vn := ⟨h.box, h.wait, h.now⟩
theorem RDk.lt (h : RDk w p d F) : ∀ k ∈ F, k < w.heap.size := fun k hk => by
  obtain ⟨vs, vw, vn, h, rfl⟩ := h
  rcases rfF_mem hk with rfl | hk | hk | hk
  · exact (Array.getElem?_eq_some_iff.1 h.box).1
  · exact h.safe.lt hk
  · exact h.wait.lt hk
  · exact h.now.lt hk
theorem RDk.kp {G : List Nat} (h : RDk w p d F) (hk : Kp G w w') (hF : ∀ k ∈ F, k ∉ G) : RDk w' p d F := by
  obtain ⟨vs, vw, vn, h, rfl⟩ := h
  exact ⟨vs, vw, vn, ⟨h.box.kp hk (hF _ (rfF_p _ _ _ _)), h.safe.kp hk (fun k hk => hF _ (rfF_s hk)), h.wait.kp hk (fun k hk => hF _ (rfF_w hk)), h.now.kp hk (fun k hk => hF _ (rfF_n hk)), h.nes, h.new, h.nen⟩, rfl⟩
theorem RDid.same (h : RDk w p d F) : RDid w F p d w := ⟨F, h, Kp.refl _ _, fun _ hk => Or.inl hk⟩
end
theorem made_any (v : Value) (fs : Fs) (c : Chg) (hc : Fit fs c) (hl : fs.length ≤ 1000000) (w : World) (h : FlRow w v fs) :
    Calls Tryz.prog 59 #[v, .agg (chA c)] w fun e w' => ∃ v', e = .returned v' ∧ FlRow w' v' (made fs c) ∧ Kp [] w w' ∧ ∀ k, v'.ownBlock = some k → w.heap.size ≤ k := by
  cases c with
  | wr n pos d => exact made_wr v fs n pos d hc.1 hc.2 w h hl
  | ct n len => exact made_ct v fs n len hc.1 w h hl
  | rn a b => exact made_rn v fs a b w h hl
  | rm n => exact made_rm v fs n w h hl
theorem rdo_any (c : Chg) (p : Nat) (d : Dk) (F : List Nat) (w : World) (h : RDk w p d F) (hi : Inv d) (hc : Fit d.now c) :
    Calls Tryz.prog 66 #[.pointer (some ⟨p, 0, none⟩), .agg (chA c)] w fun e w' => e = .returned (.int .i64 d.doE) ∧ RDid w F p (d.doD c) w' := by
  obtain ⟨vs, vw, vn, h, rfl⟩ := h
  have hpl : p < w.heap.size := (Array.getElem?_eq_some_iff.1 h.box).1
  unfold Dk.doE Dk.doD
  by_cases hl : 1024 ≤ d.wait.length
  · rw [if_pos hl, if_pos hl]
    refine (rdo_full c p vs vw vn d w h.at' hl).mono ?_
    rintro e w' ⟨rfl, hk⟩
    exact ⟨rfl, _, RDk.kp ⟨vs, vw, vn, h, rfl⟩ hk (by simp), hk.mono (by simp), fun _ hk => Or.inl hk⟩
  rw [if_neg hl, if_neg hl]
  obtain ⟨e1, e2, e3⟩ := ready_now d
  cases hr : d.readyB with
  | false =>
    refine (rdo_down c p vs vw vn d w h.at' hl hr hi.left0 hi.left1).mono ?_
    rintro e w' ⟨rfl, hb, hk⟩
    refine ⟨rfl, _, ⟨vs, vw, vn, ⟨hb, ?_, ?_, ?_, h.nes, h.new, h.nen⟩, rfl⟩, hk.mono (by simp [rfF]), fun _ hk => Or.inl hk⟩
    · show FlRow w' vs d.ready.safe
      rw [e2]; exact h.safe.kp hk (fun k hk => by simpa using h.nes k hk)
    · show ChRow w' vw d.ready.wait
      rw [e3]; exact h.wait.kp hk (fun k hk => by simpa using h.new k hk)
    · show FlRow w' vn d.ready.now
      rw [e1]; exact h.now.kp hk (fun k hk => by simpa using h.nen k hk)
  | true =>
    rw [if_pos rfl, if_pos rfl]
    have hln : d.now.length ≤ 1000000 := by have := hi.now.1.2; omega
    refine (rdo_ok c p vs vw vn d w h.at' hl hr hi.left0 hi.left1 (made d.now c) (fun W hW => made_any vn d.now c hc hln W hW)).mono ?_
    rintro e w' ⟨rfl, vw', vn', hb, hw, hn, hk, b1, b2⟩
    refine ⟨rfl, _, ⟨vs, vw', vn', ⟨hb, ?_, hw, hn, h.nes, fun k hk => ?_, fun k hk => ?_⟩, rfl⟩, hk.mono (by simp [rfF]), fun k hk => ?_⟩
    · show FlRow w' vs d.ready.safe
      rw [e2]; exact h.safe.kp hk (fun k hk => by simpa using h.nes k hk)
    · have := b1 k hk; omega
    · have := b2 k hk; omega
    · rcases rfF_mem hk with rfl | hk | hk | hk
      · exact Or.inl (rfF_p _ _ _ _)
      · exact Or.inl (rfF_s hk)
      · exact Or.inr (b1 k hk)
      · exact Or.inr (b2 k hk)
end Go.Proofs.YtboffmbaaokbnaaGreatDoor
namespace Go.Proofs.YtboffmbaaokbnaaGreatDoor
open Go.RowKit

theorem RfW.dk {w : World} {p : Nat} {d : Dk} {vs vw vn : Value} (h : RfW w p d vs vw vn) : RDk w p d (rfF p vs vw vn) := ⟨vs, vw, vn, h, rfl⟩
theorem RfW.c2 {w : World} {p : Nat} {d : Dk} {vs vw vn : Value} (h : RfW w p d vs vw vn) : w.cell? ⟨p, 2, none⟩ = some vn := h.box.cell rfl
set_option maxHeartbeats 1000000 in
set_option maxRecDepth 100000 in
theorem rcut_any (n : ByteArray) (len : Int) (p : Nat) (d : Dk) (F : List Nat) (w : World) (h : RDk w p d F) (hi : Inv d) (hn : n.size ≤ 9223372036854775807) :
    Calls Tryz.prog 46 #[.pointer (some ⟨p, 0, none⟩), .string n, .int .i64 len] w fun e w' => e = .returned (.int .i64 (d.ctE n len)) ∧ RDid w F p (d.ctD n len) w' := by
  obtain ⟨vs, vw, vn, hw, hF⟩ := id h
  have KN := hide (known_any n p vn d w hw.c2 hw.now hn)
  have hroom := hi.now.1.1
  have hsz : (hasF d.now n).length ≤ total d.now := hasF_le n
  have SM := hide (RDid.same h)
  unfold Dk.ctE Dk.ctD Dk.badC
  by_cases hb : d.badN n = 0
  · rw [if_pos hb]
    rw [hb] at KN
    by_cases hlo : len < 0
    · rw [if_pos (Or.inl hlo), if_neg (by decide), if_neg (by decide)]
      clear h hw hF hroom hsz
      go_enter Tryz.func46, Tryz.ntmps46
      go_wp2_with fail
      refine (unhide KN).mono ?_
      rintro e w1 ⟨z, rfl, rfl, hz⟩
      clear hz
      go_wp2
      go_ret
      exact ⟨rfl, unhide SM⟩
    · by_cases hhi : ((hasF d.now n).length : Int) < len
      · rw [if_pos (Or.inr hhi), if_neg (by decide), if_neg (by decide)]
        clear h hw hF hroom hsz
        generalize (hasF d.now n).length = L at *
        go_enter Tryz.func46, Tryz.ntmps46
        go_wp2_with fail
        refine (unhide KN).mono ?_
        rintro e w1 ⟨z, rfl, rfl, hz⟩
        obtain rfl := hz trivial
        clear hz
        go_wp2
        go_ret
        exact ⟨rfl, unhide SM⟩
      · rw [if_neg (show ¬ (len < 0 ∨ ((hasF d.now n).length : Int) < len) by omega), if_pos rfl, if_pos rfl]
        have DO := hide (rdo_any (.ct n len.toNat) p d F w h hi ⟨by omega, by omega⟩)
        have hch : chA (.ct n len.toNat) = #[.int .i64 1, .string n, .string ⟨#[]⟩, .int .i64 len, .string ⟨#[]⟩] := by
          show #[Value.int .i64 1, .string n, .string ⟨#[]⟩, .int .i64 (len.toNat : Int), .string ⟨#[]⟩] = _
          rw [Int.toNat_of_nonneg (by omega)]
        rw [hch] at DO
        clear h hw hF hroom hsz hch
        generalize (hasF d.now n).length = L at *
        go_enter Tryz.func46, Tryz.ntmps46
        go_wp2_with fail
        refine (unhide KN).mono ?_
        rintro e w1 ⟨z, rfl, rfl, hz⟩
        obtain rfl := hz trivial
        clear hz
        go_wp2_with fail
        refine (unhide DO).mono ?_
        rintro e w2 ⟨rfl, D⟩
        have HD := hide D
        clear D
        go_wp2
        go_ret
        exact ⟨rfl, unhide HD⟩
  · rw [if_neg hb, if_neg hb, if_neg hb]
    have hbb : (d.badN n == 0) = false := beq_eq_false_iff_ne.2 hb
    clear h hw hF hroom hsz
    generalize d.badN n = bn at *
    go_enter Tryz.func46, Tryz.ntmps46
    go_wp2_with fail
    refine (unhide KN).mono ?_
    rintro e w1 ⟨z, rfl, rfl, hz⟩
    clear hz
    go_wp2
    go_ret
    exact ⟨rfl, unhide SM⟩
end Go.Proofs.YtboffmbaaokbnaaGreatDoor
namespace Go.Proofs.YtboffmbaaokbnaaGreatDoor
open Go.RowKit

set_option maxHeartbeats 4000000 in
set_option maxRecDepth 100000 in
theorem rwrite_any (n : ByteArray) (m : Int) (s : ByteArray) (p : Nat) (d : Dk) (F : List Nat) (w : World) (h : RDk w p d F) (hi : Inv d) (hn : n.size ≤ 9223372036854775807) (hs : s.size ≤ 140737488355328) :
    Calls Tryz.prog 29 #[.pointer (some ⟨p, 0, none⟩), .string n, .int .i64 m, .string s] w fun e w' => e = .returned (.int .i64 (d.wrE n m s)) ∧ RDid w F p (d.wrD n m s) w' := by
  obtain ⟨vs, vw, vn, hw, hF⟩ := id h
  have hT := hi.now.1.1
  have hN := hi.now.1.2
  have NM := hide (named_any n w hn)
  have FI := hide (find_any vn d.now n w hw.now)
  have TT := hide (total_any vn d.now w hw.now (by omega))
  have SM := hide (RDid.same h)
  have HH := hide hw.now
  have c2 := hw.c2
  have hle := hasF_le (fs := d.now) n
  have hLL : (hasF d.now n).length = (hasS d.now n).size := by simp [hasS, ByteArray.size]
  cases hd : dnm n with
  | false =>
    have hbc : d.badW n m s = 30 := by unfold Dk.badW; rw [if_pos hd]
    rw [show d.wrE n m s = 30 by simp [Dk.wrE, hbc], show d.wrD n m s = d by simp [Dk.wrD, hbc]]
    rw [hd] at NM
    clear h hw hF hd hbc FI TT HH hT hN hle hLL
    go_enter Tryz.func29, Tryz.ntmps29
    go_wp2_with fail
    refine (unhide NM).mono ?_
    rintro e w1 ⟨rfl, rfl⟩
    go_wp2
    go_ret
    exact ⟨rfl, unhide SM⟩
  | true =>
  rw [hd] at NM
  by_cases hlo : m < 0
  · have hbc : d.badW n m s = 1 := by unfold Dk.badW; rw [if_neg (by simp [hd]), if_pos (by omega)]
    rw [show d.wrE n m s = 1 by simp [Dk.wrE, hbc], show d.wrD n m s = d by simp [Dk.wrD, hbc]]
    clear h hw hF hd hbc TT hT hle hLL
    go_enter Tryz.func29, Tryz.ntmps29
    go_wp2_with fail
    refine (unhide NM).mono ?_
    rintro e w1 ⟨rfl, rfl⟩
    go_wp2_with fail
    refine (unhide FI).mono ?_
    rintro e w2 ⟨r, rfl, rfl, hr⟩
    obtain ⟨k, hk, rfl, hkn, hg⟩ | ⟨rfl, hg⟩ := hr
    · obtain ⟨_, hLn⟩ | ⟨g, cap, rfl, hcp, hm⟩ := (unhide HH).shape
      · rw [hLn] at hk; exact absurd hk (by simp)
      have cH := ((unhide HH).cell k hk).2
      have HHS : Hid ((⟨d.now[k].2.toArray⟩ : ByteArray) = hasS d.now n) := hide (by unfold hasS hasF; rw [hg]; rfl)
      rw [unhide HHS] at cH
      have hki : (k : Int) < (d.now.length : Int) := by omega
      clear hkn hg HHS HH FI
      generalize hasS d.now n = hs1 at *
      generalize total d.now = T at *
      generalize d.now.length = NL at *
      go_wp2
      go_ret
      exact ⟨rfl, unhide SM⟩
    · have hz : (hasS d.now n).size = 0 := by unfold hasS hasF; rw [hg]; rfl
      obtain ⟨an, cn, hvn⟩ : ∃ an cn, vn = .slice an d.now.length cn := by
        obtain ⟨rfl, h0⟩ | ⟨g, cap, rfl, hcp, hm⟩ := (unhide HH).shape
        · exact ⟨_, _, by rw [h0]; rfl⟩
        · exact ⟨_, _, rfl⟩
      subst hvn
      clear hg HH FI
      rw [hz] at *
      clear hz
      generalize total d.now = T at *
      generalize d.now.length = NL at *
      go_wp2
      go_ret
      exact ⟨rfl, unhide SM⟩
  by_cases hhi : ((hasF d.now n).length : Int) < m
  · have hbc : d.badW n m s = 1 := by unfold Dk.badW; rw [if_neg (by simp [hd]), if_pos (by omega)]
    rw [show d.wrE n m s = 1 by simp [Dk.wrE, hbc], show d.wrD n m s = d by simp [Dk.wrD, hbc]]
    rw [hLL] at hhi
    clear h hw hF hd hbc TT hT hle hLL
    go_enter Tryz.func29, Tryz.ntmps29
    go_wp2_with fail
    refine (unhide NM).mono ?_
    rintro e w1 ⟨rfl, rfl⟩
    go_wp2_with fail
    refine (unhide FI).mono ?_
    rintro e w2 ⟨r, rfl, rfl, hr⟩
    obtain ⟨k, hk, rfl, hkn, hg⟩ | ⟨rfl, hg⟩ := hr
    · obtain ⟨_, hLn⟩ | ⟨g, cap, rfl, hcp, hm⟩ := (unhide HH).shape
      · rw [hLn] at hk; exact absurd hk (by simp)
      have cH := ((unhide HH).cell k hk).2
      have HHS : Hid ((⟨d.now[k].2.toArray⟩ : ByteArray) = hasS d.now n) := hide (by unfold hasS hasF; rw [hg]; rfl)
      rw [unhide HHS] at cH
      have hki : (k : Int) < (d.now.length : Int) := by omega
      clear hkn hg HHS HH FI
      generalize hasS d.now n = hs1 at *
      generalize total d.now = T at *
      generalize d.now.length = NL at *
      go_wp2
      go_ret
      exact ⟨rfl, unhide SM⟩
    · have hz : (hasS d.now n).size = 0 := by unfold hasS hasF; rw [hg]; rfl
      obtain ⟨an, cn, hvn⟩ : ∃ an cn, vn = .slice an d.now.length cn := by
        obtain ⟨rfl, h0⟩ | ⟨g, cap, rfl, hcp, hm⟩ := (unhide HH).shape
        · exact ⟨_, _, by rw [h0]; rfl⟩
        · exact ⟨_, _, rfl⟩
      subst hvn
      clear hg HH FI
      rw [hz] at *
      clear hz
      generalize total d.now = T at *
      generalize d.now.length = NL at *
      go_wp2
      go_ret
      exact ⟨rfl, unhide SM⟩
  by_cases hG : 262144 - (total d.now : Int) < max 0 ((s.size : Int) - (((hasF d.now n).length : Int) - m))
  · have hbc : d.badW n m s = 32 := by unfold Dk.badW; rw [if_neg (by simp [hd]), if_neg (by omega), if_pos (by unfold Dk.fullW Dk.grows; simp [hG])]
    rw [show d.wrE n m s = 32 by simp [Dk.wrE, hbc], show d.wrD n m s = d by simp [Dk.wrD, hbc]]
    rw [hLL] at hhi hG hle
    clear h hw hF hd hbc hLL
    go_enter Tryz.func29, Tryz.ntmps29
    go_wp2_with fail
    refine (unhide NM).mono ?_
    rintro e w1 ⟨rfl, rfl⟩
    go_wp2_with fail
    refine (unhide FI).mono ?_
    rintro e w2 ⟨r, rfl, rfl, hr⟩
    obtain ⟨k, hk, rfl, hkn, hg⟩ | ⟨rfl, hg⟩ := hr
    · obtain ⟨_, hLn⟩ | ⟨g, cap, rfl, hcp, hm⟩ := (unhide HH).shape
      · rw [hLn] at hk; exact absurd hk (by simp)
      have cH := ((unhide HH).cell k hk).2
      have HHS : Hid ((⟨d.now[k].2.toArray⟩ : ByteArray) = hasS d.now n) := hide (by unfold hasS hasF; rw [hg]; rfl)
      rw [unhide HHS] at cH
      have hki : (k : Int) < (d.now.length : Int) := by omega
      clear hkn hg HHS HH FI
      generalize hasS d.now n = hs1 at *
      generalize total d.now = T at *
      generalize d.now.length = NL at *
      go_wp2_with fail
      refine (unhide TT).mono ?_
      rintro e w3 ⟨rfl, rfl⟩
      go_wp2
      go_ret
      exact ⟨rfl, unhide SM⟩
    · have hz : (hasS d.now n).size = 0 := by unfold hasS hasF; rw [hg]; rfl
      obtain ⟨an, cn, hvn⟩ : ∃ an cn, vn = .slice an d.now.length cn := by
        obtain ⟨rfl, h0⟩ | ⟨g, cap, rfl, hcp, hm⟩ := (unhide HH).shape
        · exact ⟨_, _, by rw [h0]; rfl⟩
        · exact ⟨_, _, rfl⟩
      subst hvn
      clear hg HH FI
      rw [hz] at hhi hG hle
      clear hz
      obtain rfl : m = 0 := by omega
      generalize total d.now = T at *
      generalize d.now.length = NL at *
      go_wp2_with fail
      refine (unhide TT).mono ?_
      rintro e w3 ⟨rfl, rfl⟩
      go_wp2
      go_ret
      exact ⟨rfl, unhide SM⟩
  by_cases hM : (getF d.now n).isSome = false ∧ d.now.length = 64
  · have hbc : d.badW n m s = 32 := by unfold Dk.badW; rw [if_neg (by simp [hd]), if_neg (by omega), if_pos (by unfold Dk.fullW Dk.grows; simp [hM])]
    rw [show d.wrE n m s = 32 by simp [Dk.wrE, hbc], show d.wrD n m s = d by simp [Dk.wrD, hbc]]
    rw [hLL] at hhi hG hle
    clear h hw hF hd hbc hLL
    go_enter Tryz.func29, Tryz.ntmps29
    go_wp2_with fail
    refine (unhide NM).mono ?_
    rintro e w1 ⟨rfl, rfl⟩
    go_wp2_with fail
    refine (unhide FI).mono ?_
    rintro e w2 ⟨r, rfl, rfl, hr⟩
    obtain ⟨k, hk, rfl, hkn, hg⟩ | ⟨rfl, hg⟩ := hr
    · exact absurd hM.1 (by rw [hg]; simp)
    · have hz : (hasS d.now n).size = 0 := by unfold hasS hasF; rw [hg]; rfl
      obtain ⟨an, cn, hvn⟩ : ∃ an cn, vn = .slice an d.now.length cn := by
        obtain ⟨rfl, h0⟩ | ⟨g, cap, rfl, hcp, hm⟩ := (unhide HH).shape
        · exact ⟨_, _, by rw [h0]; rfl⟩
        · exact ⟨_, _, rfl⟩
      subst hvn
      clear hg HH FI
      have hM1 : (64 : Int) ≤ (d.now.length : Int) := by have := hM.2; omega
      clear hM
      rw [hz] at hhi hG hle
      clear hz
      obtain rfl : m = 0 := by omega
      generalize total d.now = T at *
      generalize d.now.length = NL at *
      go_wp2_with fail
      refine (unhide TT).mono ?_
      rintro e w3 ⟨rfl, rfl⟩
      go_wp2
      go_ret
      exact ⟨rfl, unhide SM⟩
  have hbc : d.badW n m s = 0 := by unfold Dk.badW; rw [if_neg (by simp [hd]), if_neg (by omega), if_neg (fun hf => by unfold Dk.fullW Dk.grows at hf; rw [decide_eq_false hG, Bool.false_or, Bool.and_eq_true, Bool.not_eq_true', decide_eq_true_eq] at hf; exact hM hf)]
  rw [show d.wrE n m s = d.doE by simp [Dk.wrE, hbc], show d.wrD n m s = d.doD (.wr n m.toNat s) by simp [Dk.wrD, hbc]]
  have DO := hide (rdo_any (.wr n m.toNat s) p d F w h hi ⟨by omega, by omega⟩)
  have hch : chA (.wr n m.toNat s) = #[.int .i64 0, .string n, .string ⟨#[]⟩, .int .i64 m, .string s] := by
    show #[Value.int .i64 0, .string n, .string ⟨#[]⟩, .int .i64 (m.toNat : Int), .string s] = _
    rw [Int.toNat_of_nonneg (by omega)]
  rw [hch] at DO
  rw [hLL] at hhi hG hle
  clear h hw hF hd hbc hLL hch
  go_enter Tryz.func29, Tryz.ntmps29
  go_wp2_with fail
  refine (unhide NM).mono ?_
  rintro e w1 ⟨rfl, rfl⟩
  go_wp2_with fail
  refine (unhide FI).mono ?_
  rintro e w2 ⟨r, rfl, rfl, hr⟩
  obtain ⟨k, hk, rfl, hkn, hg⟩ | ⟨rfl, hg⟩ := hr
  · obtain ⟨_, hLn⟩ | ⟨g, cap, rfl, hcp, hm⟩ := (unhide HH).shape
    · rw [hLn] at hk; exact absurd hk (by simp)
    have cH := ((unhide HH).cell k hk).2
    have HHS : Hid ((⟨d.now[k].2.toArray⟩ : ByteArray) = hasS d.now n) := hide (by unfold hasS hasF; rw [hg]; rfl)
    rw [unhide HHS] at cH
    have hki : (k : Int) < (d.now.length : Int) := by omega
    clear hkn hg HHS HH FI hM
    generalize hasS d.now n = hs1 at *
    generalize total d.now = T at *
    generalize d.now.length = NL at *
    go_wp2_with fail
    refine (unhide TT).mono ?_
    rintro e w3 ⟨rfl, rfl⟩
    go_wp2_with fail
    refine (unhide DO).mono ?_
    rintro e w4 ⟨rfl, D⟩
    have HD := hide D
    clear D
    go_wp2
    go_ret
    exact ⟨rfl, unhide HD⟩
  · have hz : (hasS d.now n).size = 0 := by unfold hasS hasF; rw [hg]; rfl
    obtain ⟨an, cn, hvn⟩ : ∃ an cn, vn = .slice an d.now.length cn := by
      obtain ⟨rfl, h0⟩ | ⟨g, cap, rfl, hcp, hm⟩ := (unhide HH).shape
      · exact ⟨_, _, by rw [h0]; rfl⟩
      · exact ⟨_, _, rfl⟩
    subst hvn
    have hM1 : d.now.length ≠ 64 := fun e => hM ⟨by rw [hg]; rfl, e⟩
    clear hg HH FI hM
    rw [hz] at hhi hG hle
    clear hz
    obtain rfl : m = 0 := by omega
    generalize total d.now = T at *
    generalize d.now.length = NL at *
    go_wp2_with fail
    refine (unhide TT).mono ?_
    rintro e w3 ⟨rfl, rfl⟩
    go_wp2_with fail
    refine (unhide DO).mono ?_
    rintro e w4 ⟨rfl, D⟩
    have HD := hide D
    clear D
    go_wp2
    go_ret
    exact ⟨rfl, unhide HD⟩
end Go.Proofs.YtboffmbaaokbnaaGreatDoor
namespace Go.Proofs.YtboffmbaaokbnaaGreatDoor
open Go.RowKit

theorem syD_safe (d : Dk) : (d.readyB = true → d.syD.safe = d.now ∧ d.syD.wait = [] ∧ d.syD.now = d.now) ∧ (d.readyB = false → d.syD.safe = d.safe ∧ d.syD.wait = d.wait ∧ d.syD.now = d.now) := by
  obtain ⟨e1, e2, e3⟩ := ready_now d
  unfold Dk.syD
  refine ⟨fun h => ?_, fun h => ?_⟩
  · rw [if_pos h]; exact ⟨rfl, rfl, e1⟩
  · rw [if_neg (by simp [h])]; exact ⟨e2, e3, e1⟩
theorem rsync_dk (p : Nat) (d : Dk) (F : List Nat) (w : World) (h : RDk w p d F) (hi : Inv d) :
    Calls Tryz.prog 19 #[.pointer (some ⟨p, 0, none⟩)] w fun e w' => e = .returned (.int .i64 d.syE) ∧ RDid w F p d.syD w' := by
  obtain ⟨vs, vw, vn, h, rfl⟩ := h
  have hv : ∃ ad n cap, vn = .slice ad n cap := by
    rcases h.now.shape with ⟨e, _⟩ | ⟨_, _, e, _⟩ <;> exact ⟨_, _, _, e⟩
  refine (rsync_any p vs vw vn hv d w h.box hi.left0 hi.left1).mono ?_
  rintro e w' ⟨rfl, h1, h2, hk⟩
  have np : ∀ k, k ≠ p → k ∉ [p] := fun k hk => by simpa using hk
  have hn := h.now.kp hk (fun k hb => np k (h.nen k hb))
  refine ⟨rfl, ?_⟩
  cases hr : d.readyB with
  | true =>
    obtain ⟨e1, e2, e3⟩ := (syD_safe d).1 hr
    refine ⟨_, ⟨vn, .slice none 0 0, vn, ⟨h1 hr, by rw [e1]; exact hn, by rw [e2]; exact ChRow.nil _, by rw [e3]; exact hn, h.nen, fun k hb => by simp [Value.ownBlock] at hb, h.nen⟩, rfl⟩, hk.mono (by simp [rfF]), fun k hm => ?_⟩
    rcases rfF_mem hm with rfl | hm | hm | hm
    · exact Or.inl (rfF_p _ _ _ _)
    · exact Or.inl (rfF_n hm)
    · simp [Value.ownBlock] at hm
    · exact Or.inl (rfF_n hm)
  | false =>
    obtain ⟨e1, e2, e3⟩ := (syD_safe d).2 hr
    exact ⟨_, ⟨vs, vw, vn, ⟨h2 hr, by rw [e1]; exact h.safe.kp hk (fun k hb => np k (h.nes k hb)), by rw [e2]; exact h.wait.kp hk (fun k hb => np k (h.new k hb)), by rw [e3]; exact hn, h.nes, h.new, h.nen⟩, rfl⟩, hk.mono (by simp [rfF]), fun k hm => Or.inl hm⟩
theorem fuD_same (d : Dk) (n : Int) : (d.fuD n).safe = d.safe ∧ (d.fuD n).wait = d.wait ∧ (d.fuD n).now = d.now := by
  unfold Dk.fuD
  split <;> exact ⟨rfl, rfl, rfl⟩
theorem rfuse_dk (p : Nat) (d : Dk) (n : Int) (F : List Nat) (w : World) (h : RDk w p d F) :
    Calls Tryz.prog 25 #[.pointer (some ⟨p, 0, none⟩), .int .i64 n] w fun e w' => e = .returned (.int .i64 (Dk.fuE n)) ∧ RDid w F p (d.fuD n) w' := by
  obtain ⟨vs, vw, vn, h, rfl⟩ := h
  refine (rfuse_any p vs vw vn d n w h.box).mono ?_
  rintro e w' ⟨rfl, h1, hk⟩
  have np : ∀ k, k ≠ p → k ∉ [p] := fun k hk => by simpa using hk
  obtain ⟨e1, e2, e3⟩ := fuD_same d n
  exact ⟨rfl, _, ⟨vs, vw, vn, ⟨h1, by rw [e1]; exact h.safe.kp hk (fun k hb => np k (h.nes k hb)), by rw [e2]; exact h.wait.kp hk (fun k hb => np k (h.new k hb)), by rw [e3]; exact h.now.kp hk (fun k hb => np k (h.nen k hb)), h.nes, h.new, h.nen⟩, rfl⟩, hk.mono (by simp [rfF]), fun k hm => Or.inl hm⟩
theorem rread_dk (n : ByteArray) (p : Nat) (d : Dk) (F : List Nat) (w : World) (h : RDk w p d F) (hnd : (d.now.map (·.1)).Nodup) (hn : n.size ≤ 9223372036854775807) :
    Calls Tryz.prog 43 #[.pointer (some ⟨p, 0, none⟩), .string n] w fun e w' => e = .returned (.tuple #[.string (d.rdS n), .int .i64 (d.rdE n)]) ∧ Kp [] w w' := by
  obtain ⟨vs, vw, vn, h, rfl⟩ := h
  exact rread_any n p vn d w h.c2 h.now hnd hn
theorem rnames_dk (p : Nat) (d : Dk) (F : List Nat) (w : World) (h : RDk w p d F) (hi : Inv d) :
    Calls Tryz.prog 32 #[.pointer (some ⟨p, 0, none⟩)] w fun e w' => ∃ v, e = .returned v ∧ w'.ownsRow 0 9 1 v d.now.length (nmC d.now) ∧ Kp [] w w' ∧ ∀ k, v.ownBlock = some k → w.heap.size ≤ k := by
  obtain ⟨vs, vw, vn, h, rfl⟩ := h
  exact rnames_any p vn d w h.c2 h.now (by have := hi.now.1.2; omega)
theorem rnew_dk (w : World) : Calls Tryz.prog 6 #[] w fun e w' => e = .returned (.pointer (some ⟨w.heap.size, 0, none⟩)) ∧ ∃ F, RDk w' w.heap.size Dk.new F ∧ Kp [] w w' ∧ ∀ k ∈ F, w.heap.size ≤ k := by
  refine (rnew_any w).mono ?_
  rintro e w' ⟨rfl, rfl⟩
  refine ⟨rfl, _, ⟨.slice none 0 0, .slice none 0 0, .slice none 0 0, ⟨CBox.new _ _ _, FlRow.nil _, ChRow.nil _, FlRow.nil _, fun k hb => by simp [Value.ownBlock] at hb, fun k hb => by simp [Value.ownBlock] at hb, fun k hb => by simp [Value.ownBlock] at hb⟩, rfl⟩, Kp.alloc _ _, fun k hm => ?_⟩
  rcases rfF_mem hm with rfl | hm | hm | hm
  · exact Nat.le_refl _
  all_goals simp [Value.ownBlock] at hm
end Go.Proofs.YtboffmbaaokbnaaGreatDoor
namespace Go.Proofs.YtboffmbaaokbnaaGreatDoor
open Go.RowKit

set_option maxHeartbeats 1000000 in
theorem sameTexts_true (a1 a2 : Option Addr) (c1 c2 : Nat) (l : List (List UInt8)) (w : World) (h1 : TextsAt w a1 l) (h2 : TextsAt w a2 l) (hl : l.length ≤ 9223372036854775807) :
    Calls Tryz.prog 31 #[.slice a1 l.length c1, .slice a2 l.length c2] w fun e w' => e = .returned (.bool true) ∧ ∃ n, w' = w.drewN n := by
  have H1 := hide h1
  have H2 := hide h2
  clear h1 h2
  go_enter Tryz.func31, Tryz.ntmps31
  go_wp2
  go_loopw [5] (fun i wr => ∃ k n : Nat, k ≤ l.length ∧ i = .int .i64 (k : Int) ∧ wr = w.drewN n) (fun i _ => l.length - (intOf i).toNat)
  case atStart => exact ⟨0, 0, Nat.zero_le _, rfl, rfl⟩
  case round =>
    obtain ⟨k, n, hk, rfl, rfl⟩ := hrel
    by_cases hlt : k < l.length
    · have hne : l ≠ [] := fun e => by rw [e] at hlt; simp at hlt
      obtain ⟨b1, o1, rfl, _, q1⟩ := unhide H1 hne
      obtain ⟨b2, o2, rfl, _, q2⟩ := unhide H2 hne
      have x0 := q1 k hlt
      have y0 := q2 k hlt
      have hli : (k : Int) < (l.length : Int) := by omega
      clear q1 q2 hne H1 H2
      generalize ({ data := (l[k]).toArray } : ByteArray) = x at *
      go_wp2
      go_quiet (fail)
      go_wp2
      go_roundw
      case rel => exact ⟨k + 1, _, by omega, by go_num, rfl⟩
      case measure => simp [intOf]; omega
    · go_wp2
      go_ret
      exact ⟨rfl, n, rfl⟩
end Go.Proofs.YtboffmbaaokbnaaGreatDoor
namespace Go.Proofs.YtboffmbaaokbnaaGreatDoor
open Go.RowKit

/-- One bit. -/
def bitS (s : Nat) : Nat := (s / 2) ^^^ (if s % 2 = 1 then 2197175160 else 0)
def bitN : Nat → Nat → Nat
  | 0, s => s
  | k + 1, s => bitS (bitN k s)
theorem bitS_lt {s : Nat} (h : s < 4294967296) : bitS s < 4294967296 := by
  unfold bitS
  exact Nat.xor_lt_two_pow (n := 32) (by omega) (by split <;> decide)
theorem bitN_lt (k : Nat) {s : Nat} (h : s < 4294967296) : bitN k s < 4294967296 := by
  induction k with
  | zero => exact h
  | succ k ih => exact bitS_lt ih
theorem bitS_xor (x y : Nat) : bitS (x ^^^ y) = bitS x ^^^ bitS y := by
  unfold bitS
  have h2 : (x ^^^ y) / 2 = x / 2 ^^^ y / 2 := Nat.xor_div_two_pow (n := 1)
  have hm : (x ^^^ y) % 2 = x % 2 ^^^ y % 2 := Nat.xor_mod_two_pow (n := 1)
  rw [h2, hm]
  rcases (by omega : x % 2 = 0 ∨ x % 2 = 1) with hx | hx <;> rcases (by omega : y % 2 = 0 ∨ y % 2 = 1) with hy | hy
  · rw [hx, hy]; simp
  · rw [hx, hy]; simp [Nat.xor_assoc]
  · rw [hx, hy]
    simp only [show (1 : Nat) ^^^ 0 = 1 from rfl, if_true]
    rw [if_neg (by decide), Nat.xor_zero, Nat.xor_assoc, Nat.xor_assoc, Nat.xor_comm (y / 2)]
  · rw [hx, hy]
    simp only [show (1 : Nat) ^^^ 1 = 0 from rfl, if_true]
    rw [if_neg (by decide), Nat.xor_zero, Nat.xor_assoc, ← Nat.xor_assoc 2197175160, Nat.xor_comm 2197175160 (y / 2), Nat.xor_assoc, Nat.xor_self, Nat.xor_zero]
theorem bitN_xor (k x y : Nat) : bitN k (x ^^^ y) = bitN k x ^^^ bitN k y := by
  induction k with
  | zero => rfl
  | succ k ih => show bitS (bitN k (x ^^^ y)) = _; rw [ih, bitS_xor]; rfl
theorem bitS_even (h : Nat) : bitS (2 * h) = h := by
  unfold bitS; rw [if_neg (by omega), Nat.xor_zero]; omega
theorem bitN4_16 (h : Nat) : bitN 4 (16 * h) = h := by
  show bitS (bitS (bitS (bitS (16 * h)))) = h
  rw [show 16 * h = 2 * (2 * (2 * (2 * h))) by omega, bitS_even, bitS_even, bitS_even, bitS_even]
theorem split16 (s : Nat) : s = (16 * (s / 16)) ^^^ (s % 16) := by
  apply Nat.eq_of_testBit_eq
  intro i
  rw [Nat.testBit_xor, show s % 16 = s % 2 ^ 4 from rfl, Nat.testBit_mod_two_pow, show 16 * (s / 16) = (s / 2 ^ 4) * 2 ^ 4 by omega, ← Nat.shiftLeft_eq, ← Nat.shiftRight_eq_div_pow, Nat.testBit_shiftLeft, Nat.testBit_shiftRight]
  by_cases h : 4 ≤ i
  · rw [show 4 + (i - 4) = i by omega]; simp [h, show ¬ i < 4 by omega]
  · simp [h, show i < 4 by omega]
theorem bitN4_low (r : Nat) (h : r < 16) : bitN 4 r = tabF r := by
  have : ∀ r : Fin 16, bitN 4 r.val = tabF r.val := by decide +kernel
  exact this ⟨r, h⟩
theorem bitN4 (s : Nat) : bitN 4 s = nib s := by
  have e := split16 s
  unfold nib
  conv => lhs; rw [e]
  rw [bitN_xor, bitN4_16, bitN4_low _ (by omega)]
theorem bitN_add (a b s : Nat) : bitN (a + b) s = bitN a (bitN b s) := by
  induction a with
  | zero => rw [Nat.zero_add]; rfl
  | succ a ih => rw [show a + 1 + b = (a + b) + 1 by omega]; show bitS (bitN (a + b) s) = bitS (bitN a (bitN b s)); rw [ih]
theorem bitN8 (s c : Nat) : bitN 8 (s ^^^ c) = stepB s c := by
  unfold stepB
  rw [show 8 = 4 + 4 from rfl, bitN_add, bitN4, bitN4]
theorem bit_one (S : Nat) (h : S < 4294967296) (h1 : S % 2 = 1) : bits .xor .u32 ((S : Int) / 2) 2197175160 = ((bitS S : Nat) : Int) := by
  have := u32_xor_nat (S / 2) 2197175160 (by omega) (by decide)
  unfold bitS
  rw [if_pos h1, ← this]
  congr 1
theorem bit_none (S : Nat) (h1 : ¬ S % 2 = 1) : ((S : Int) / 2) = ((bitS S : Nat) : Int) := by
  unfold bitS
  rw [if_neg h1, Nat.xor_zero]; omega
set_option maxHeartbeats 1000000 in
theorem refSum_any (b : ByteArray) (w : World) (hb : b.size ≤ 9223372036854775807) :
    Calls Tryz.prog 73 #[.string b] w fun e w' => e = .returned (.int .u32 (sumOf b.data.toList : Nat)) ∧ w' = w := by
  go_enter Tryz.func73, Tryz.ntmps73
  go_wp2
  go_loop [3, 4] (fun n i => ∃ k S : Nat, k ≤ b.size ∧ i = .int .i64 (k : Int) ∧ n = .int .u32 (S : Int) ∧ S < 4294967296 ∧ Hid (sumL 4294967295 (b.data.toList.take k) = S)) (fun _ i => b.size - (intOf i).toNat)
  case atStart => exact ⟨0, 4294967295, Nat.zero_le _, rfl, rfl, by decide, hide rfl⟩
  case round =>
    obtain ⟨k, S, hk, rfl, rfl, hS, HS⟩ := hrel
    by_cases hlt : k < b.size
    · have hN : sumL 4294967295 (b.data.toList.take (k + 1)) = bitN 8 (S ^^^ (b[k]).toNat) := by rw [take_snoc b k hlt, sumL_snoc, unhide HS, bitN8]
      have hX := Nat.xor_lt_two_pow (n := 32) hS (show (b[k]).toNat < 2 ^ 32 from Nat.lt_of_lt_of_le (b[k]).toNat_lt (by decide))
      have eX : bits .xor .u32 (S : Int) (((b[k]).toNat : Int) % 4294967296) = ((S ^^^ (b[k]).toNat : Nat) : Int) := by
        rw [show (((b[k]).toNat : Int) % 4294967296) = ((b[k]).toNat : Int) by have := (b[k]).toNat_lt; omega]
        exact u32_xor_nat S _ hS (by have := (b[k]).toNat_lt; omega)
      generalize S ^^^ (b[k]).toNat = X at *
      have HN := hide hN
      clear hN HS
      go_wp2
      go_loop [3, 5] (fun n j => ∃ q Y : Nat, q ≤ 8 ∧ j = .int .i64 (q : Int) ∧ n = .int .u32 (Y : Int) ∧ Y < 4294967296 ∧ Hid (bitN q X = Y)) (fun _ j => 8 - (intOf j).toNat)
      case atStart => exact ⟨0, X, by decide, rfl, rfl, hX, hide rfl⟩
      case round =>
        obtain ⟨q, Y, hq, rfl, rfl, hY, HY⟩ := hrel
        by_cases hq8 : q < 8
        · have hnx : bitN (q + 1) X = bitS Y := by show bitS (bitN q X) = _; rw [unhide HY]
          have hlt2 := bitS_lt hY
          by_cases hodd : Y % 2 = 1
          · have e1 := bit_one Y hY hodd
            have g : (((Y : Int) % 2) == 1) = true := beq_iff_eq.2 (by omega)
            have HNX := hide hnx
            clear hnx HY
            generalize bitS Y = Z at *
            go_wp2
            go_round
            case rel => exact ⟨q + 1, Z, by omega, by go_num, rfl, hlt2, HNX⟩
            case measure => simp [intOf]; omega
          · have e1 := bit_none Y hodd
            have g : (((Y : Int) % 2) == 1) = false := beq_eq_false_iff_ne.2 (by omega)
            have HNX := hide hnx
            clear hnx HY
            generalize bitS Y = Z at *
            go_wp2
            go_round
            case rel => exact ⟨q + 1, Z, by omega, by go_num, rfl, hlt2, HNX⟩
            case measure => simp [intOf]; omega
        · obtain rfl : q = 8 := by omega
          go_wp2
          go_round
          case rel => exact ⟨k + 1, Y, by omega, by go_num, rfl, hY, hide (by rw [unhide HN, unhide HY])⟩
          case measure => simp [intOf]; omega
    · have hfin : ((sumOf b.data.toList : Nat) : Int) = ((4294967295 - S : Nat) : Int) := by
        unfold sumOf
        have := unhide HS
        rw [List.take_of_length_le (by simp; omega)] at this
        rw [this]
      have hn : bits .xor .u32 (S : Int) 4294967295 = ((4294967295 - S : Nat) : Int) := by
        have e := u32_xor_nat S 4294967295 hS (by omega)
        rw [Nat.xor_comm, show (4294967295 : Nat) ^^^ S = 4294967295 - S from xor_ones 32 S hS] at e
        exact e
      have HF := hide hfin
      clear hfin HS
      go_wp2
      all_goals go_ret
      all_goals exact ⟨ret_int (by rw [unhide HF]), rfl⟩
end Go.Proofs.YtboffmbaaokbnaaGreatDoor
