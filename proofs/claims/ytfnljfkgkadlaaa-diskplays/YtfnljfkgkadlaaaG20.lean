/-
  The document's disk, as it lies; a change, whatever comes of it; remove, rename, cut.
  The document's disk: remove, rename, cut.
-/
import Derived.Test.YtfnljfkgkadlaaaG19
namespace Go.Proofs.Ytfnljfkgkadlaaa
open Go.RowKit

def rfF (p : Nat) (vs vw vn : Value) : List Nat := p :: (vs.ownBlock.toList ++ (vw.ownBlock.toList ++ vn.ownBlock.toList))
structure RfW (w : World) (p : Nat) (d : Dk) (vs vw vn : Value) : Prop where
  box : CBox p (rfC vs vw vn d.left d.down) 41 w
  safe : FlRow w vs d.safe
  wait : ChRow w vw d.wait
  now : FlRow w vn d.now
  nes : ∀ k, vs.ownBlock = some k → k ≠ p
  new : ∀ k, vw.ownBlock = some k → k ≠ p
  nen : ∀ k, vn.ownBlock = some k → k ≠ p
/-- The document's disk lies there, with these blocks. -/
def RDk (w : World) (p : Nat) (d : Dk) (F : List Nat) : Prop := ∃ vs vw vn, RfW w p d vs vw vn ∧ F = rfF p vs vw vn
def RDid (w : World) (F : List Nat) (p : Nat) (d : Dk) (w' : World) : Prop := ∃ F', RDk w' p d F' ∧ Kp F w w' ∧ ∀ k ∈ F', k ∈ F ∨ w.heap.size ≤ k
theorem rfF_mem {p k : Nat} {vs vw vn : Value} (h : k ∈ rfF p vs vw vn) : k = p ∨ vs.ownBlock = some k ∨ vw.ownBlock = some k ∨ vn.ownBlock = some k := by
  unfold rfF at h
  rcases List.mem_cons.1 h with h | h
  · exact Or.inl h
  rcases List.mem_append.1 h with h | h
  · exact Or.inr (Or.inl (by simpa using h))
  rcases List.mem_append.1 h with h | h
  · exact Or.inr (Or.inr (Or.inl (by simpa using h)))
  · exact Or.inr (Or.inr (Or.inr (by simpa using h)))
theorem rfF_p (p : Nat) (vs vw vn : Value) : p ∈ rfF p vs vw vn := List.mem_cons_self ..
theorem rfF_s {p k : Nat} {vs vw vn : Value} (h : vs.ownBlock = some k) : k ∈ rfF p vs vw vn := by unfold rfF; simp [h]
theorem rfF_w {p k : Nat} {vs vw vn : Value} (h : vw.ownBlock = some k) : k ∈ rfF p vs vw vn := by unfold rfF; simp [h]
theorem rfF_n {p k : Nat} {vs vw vn : Value} (h : vn.ownBlock = some k) : k ∈ rfF p vs vw vn := by unfold rfF; simp [h]
section
variable {w w' : World} {p : Nat} {d : Dk} {F : List Nat}
theorem RfW.at' {vs vw vn : Value} (h : RfW w p d vs vw vn) : RfAt w p d vs vw vn := ⟨h.box, h.wait, h.now⟩
theorem RDk.lt (h : RDk w p d F) : ∀ k ∈ F, k < w.heap.size := fun k hk => by
  obtain ⟨vs, vw, vn, h, rfl⟩ := h
  rcases rfF_mem hk with rfl | hk | hk | hk
  · exact (Array.getElem?_eq_some_iff.1 h.box).1
  · exact h.safe.lt hk
  · exact h.wait.lt hk
  · exact h.now.lt hk
theorem RDk.kp {G : List Nat} (h : RDk w p d F) (hk : Kp G w w') (hF : ∀ k ∈ F, k ∉ G) : RDk w' p d F := by
  obtain ⟨vs, vw, vn, h, rfl⟩ := h
  exact ⟨vs, vw, vn, ⟨h.box.kp hk (hF _ (rfF_p _ _ _ _)), h.safe.kp hk (fun k hk => hF _ (rfF_s hk)), h.wait.kp hk (fun k hk => hF _ (rfF_w hk)), h.now.kp hk (fun k hk => hF _ (rfF_n hk)), h.nes, h.new, h.nen⟩, rfl⟩
theorem RDid.same (h : RDk w p d F) : RDid w F p d w := ⟨F, h, Kp.refl _ _, fun _ hk => Or.inl hk⟩
end
theorem made_any (v : Value) (fs : Fs) (c : Chg) (hc : Fit fs c) (hl : fs.length ≤ 1000000) (w : World) (h : FlRow w v fs) :
    Calls Try.prog 44 #[v, .agg (chA c)] w fun e w' => ∃ v', e = .returned v' ∧ FlRow w' v' (made fs c) ∧ Kp [] w w' ∧ ∀ k, v'.ownBlock = some k → w.heap.size ≤ k := by
  cases c with
  | wr n pos d => exact made_wr v fs n pos d hc.1 hc.2 w h hl
  | ct n len => exact made_ct v fs n len hc.1 w h hl
  | rn a b => exact made_rn v fs a b w h hl
  | rm n => exact made_rm v fs n w h hl
theorem rdo_any (c : Chg) (p : Nat) (d : Dk) (F : List Nat) (w : World) (h : RDk w p d F) (hi : Inv d) (hc : Fit d.now c) :
    Calls Try.prog 37 #[.pointer (some ⟨p, 0, none⟩), .agg (chA c)] w fun e w' => e = .returned (.int .i64 d.doE) ∧ RDid w F p (d.doD c) w' := by
  obtain ⟨vs, vw, vn, h, rfl⟩ := h
  have hpl : p < w.heap.size := (Array.getElem?_eq_some_iff.1 h.box).1
  unfold Dk.doE Dk.doD
  by_cases hl : 1024 ≤ d.wait.length
  · rw [if_pos hl, if_pos hl]
    refine (rdo_full c p vs vw vn d w h.at' hl).mono ?_
    rintro e w' ⟨rfl, hk⟩
    exact ⟨rfl, _, RDk.kp ⟨vs, vw, vn, h, rfl⟩ hk (by simp), hk.mono (by simp), fun _ hk => Or.inl hk⟩
  rw [if_neg hl, if_neg hl]
  obtain ⟨e1, e2, e3⟩ := ready_now d
  cases hr : d.readyB with
  | false =>
    refine (rdo_down c p vs vw vn d w h.at' hl hr hi.left0 hi.left1).mono ?_
    rintro e w' ⟨rfl, hb, hk⟩
    refine ⟨rfl, _, ⟨vs, vw, vn, ⟨hb, ?_, ?_, ?_, h.nes, h.new, h.nen⟩, rfl⟩, hk.mono (by simp [rfF]), fun _ hk => Or.inl hk⟩
    · show FlRow w' vs d.ready.safe
      rw [e2]; exact h.safe.kp hk (fun k hk => by simpa using h.nes k hk)
    · show ChRow w' vw d.ready.wait
      rw [e3]; exact h.wait.kp hk (fun k hk => by simpa using h.new k hk)
    · show FlRow w' vn d.ready.now
      rw [e1]; exact h.now.kp hk (fun k hk => by simpa using h.nen k hk)
  | true =>
    rw [if_pos rfl, if_pos rfl]
    have hln : d.now.length ≤ 1000000 := by have := hi.now.1.2; omega
    refine (rdo_ok c p vs vw vn d w h.at' hl hr hi.left0 hi.left1 (made d.now c) (fun W hW => made_any vn d.now c hc hln W hW)).mono ?_
    rintro e w' ⟨rfl, vw', vn', hb, hw, hn, hk, b1, b2⟩
    refine ⟨rfl, _, ⟨vs, vw', vn', ⟨hb, ?_, hw, hn, h.nes, fun k hk => ?_, fun k hk => ?_⟩, rfl⟩, hk.mono (by simp [rfF]), fun k hk => ?_⟩
    · show FlRow w' vs d.ready.safe
      rw [e2]; exact h.safe.kp hk (fun k hk => by simpa using h.nes k hk)
    · have := b1 k hk; omega
    · have := b2 k hk; omega
    · rcases rfF_mem hk with rfl | hk | hk | hk
      · exact Or.inl (rfF_p _ _ _ _)
      · exact Or.inl (rfF_s hk)
      · exact Or.inr (b1 k hk)
      · exact Or.inr (b2 k hk)
end Go.Proofs.Ytfnljfkgkadlaaa
namespace Go.Proofs.Ytfnljfkgkadlaaa
open Go.RowKit

theorem RfW.dk {w : World} {p : Nat} {d : Dk} {vs vw vn : Value} (h : RfW w p d vs vw vn) : RDk w p d (rfF p vs vw vn) := ⟨vs, vw, vn, h, rfl⟩
theorem RfW.c2 {w : World} {p : Nat} {d : Dk} {vs vw vn : Value} (h : RfW w p d vs vw vn) : w.cell? ⟨p, 2, none⟩ = some vn := h.box.cell rfl
set_option maxHeartbeats 1000000 in
set_option maxRecDepth 100000 in
theorem rremove_any (n : ByteArray) (p : Nat) (d : Dk) (F : List Nat) (w : World) (h : RDk w p d F) (hi : Inv d) (hn : n.size ≤ 9223372036854775807) :
    Calls Try.prog 17 #[.pointer (some ⟨p, 0, none⟩), .string n] w fun e w' => e = .returned (.int .i64 (d.rmE n)) ∧ RDid w F p (d.rmD n) w' := by
  obtain ⟨vs, vw, vn, hw, hF⟩ := id h
  have KN := hide (known_any n p vn d w hw.c2 hw.now hn)
  have DO := hide (rdo_any (.rm n) p d F w h hi trivial)
  have SM := hide (RDid.same h)
  unfold Dk.rmE Dk.rmD
  clear h hw hF
  by_cases hb : d.badN n = 0
  · rw [if_pos hb, if_pos hb]
    rw [hb] at KN
    clear hb
    go_enter Try.func17, Try.ntmps17
    go_wp2_with fail
    refine (unhide KN).mono ?_
    rintro e w1 ⟨z, rfl, rfl, hz⟩
    clear hz
    go_wp2_with fail
    refine (unhide DO).mono ?_
    rintro e w2 ⟨rfl, D⟩
    have HD := hide D
    clear D
    go_wp2
    go_ret
    exact ⟨rfl, unhide HD⟩
  · rw [if_neg hb, if_neg hb]
    have hbb : (d.badN n == 0) = false := beq_eq_false_iff_ne.2 hb
    clear DO
    generalize d.badN n = bn at *
    go_enter Try.func17, Try.ntmps17
    go_wp2_with fail
    refine (unhide KN).mono ?_
    rintro e w1 ⟨z, rfl, rfl, hz⟩
    clear hz
    go_wp2
    go_ret
    exact ⟨rfl, unhide SM⟩
set_option maxHeartbeats 1000000 in
set_option maxRecDepth 100000 in
theorem rrename_any (a b : ByteArray) (p : Nat) (d : Dk) (F : List Nat) (w : World) (h : RDk w p d F) (hi : Inv d) (ha : a.size ≤ 9223372036854775807) (hb : b.size ≤ 9223372036854775807) :
    Calls Try.prog 15 #[.pointer (some ⟨p, 0, none⟩), .string a, .string b] w fun e w' => e = .returned (.int .i64 (d.rnE a b)) ∧ RDid w F p (d.rnD a b) w' := by
  obtain ⟨vs, vw, vn, hw, hF⟩ := id h
  have NA := hide (named_any a w ha)
  have NB := hide (named_any b w hb)
  have KN := hide (known_any a p vn d w hw.c2 hw.now ha)
  have DO := hide (rdo_any (.rn a b) p d F w h hi trivial)
  have SM := hide (RDid.same h)
  unfold Dk.rnE Dk.rnD Dk.badR
  clear h hw hF ha hb
  cases hda : dnm a with
  | false =>
    rw [if_pos (Or.inl rfl), if_neg (by decide), if_neg (by decide)]
    rw [hda] at NA
    clear hda DO KN
    go_enter Try.func15, Try.ntmps15
    go_wp2_with fail
    refine (unhide NA).mono ?_
    rintro e w1 ⟨rfl, rfl⟩
    go_wp2
    go_ret
    exact ⟨rfl, unhide SM⟩
  | true =>
    rw [hda] at NA
    clear hda
    cases hdb : dnm b with
    | false =>
      rw [if_pos (Or.inr rfl), if_neg (by decide), if_neg (by decide)]
      rw [hdb] at NB
      clear hdb DO KN
      go_enter Try.func15, Try.ntmps15
      go_wp2_with fail
      refine (unhide NA).mono ?_
      rintro e w1 ⟨rfl, rfl⟩
      go_wp2_with fail
      refine (unhide NB).mono ?_
      rintro e w1 ⟨rfl, rfl⟩
      go_wp2
      go_ret
      exact ⟨rfl, unhide SM⟩
    | true =>
      rw [hdb] at NB
      clear hdb
      rw [if_neg (show ¬ (true = false ∨ true = false) by simp)]
      by_cases hb : d.badN a = 0
      · rw [if_pos hb, if_pos hb]
        rw [hb] at KN
        clear hb
        go_enter Try.func15, Try.ntmps15
        go_wp2_with fail
        refine (unhide NA).mono ?_
        rintro e w1 ⟨rfl, rfl⟩
        go_wp2_with fail
        refine (unhide NB).mono ?_
        rintro e w1 ⟨rfl, rfl⟩
        go_wp2_with fail
        refine (unhide KN).mono ?_
        rintro e w1 ⟨z, rfl, rfl, hz⟩
        clear hz
        go_wp2_with fail
        refine (unhide DO).mono ?_
        rintro e w2 ⟨rfl, D⟩
        have HD := hide D
        clear D
        go_wp2
        go_ret
        exact ⟨rfl, unhide HD⟩
      · rw [if_neg hb, if_neg hb]
        have hbb : (d.badN a == 0) = false := beq_eq_false_iff_ne.2 hb
        clear DO
        generalize d.badN a = bn at *
        go_enter Try.func15, Try.ntmps15
        go_wp2_with fail
        refine (unhide NA).mono ?_
        rintro e w1 ⟨rfl, rfl⟩
        go_wp2_with fail
        refine (unhide NB).mono ?_
        rintro e w1 ⟨rfl, rfl⟩
        go_wp2_with fail
        refine (unhide KN).mono ?_
        rintro e w1 ⟨z, rfl, rfl, hz⟩
        clear hz
        go_wp2
        go_ret
        exact ⟨rfl, unhide SM⟩
set_option maxHeartbeats 1000000 in
set_option maxRecDepth 100000 in
theorem rcut_any (n : ByteArray) (len : Int) (p : Nat) (d : Dk) (F : List Nat) (w : World) (h : RDk w p d F) (hi : Inv d) (hn : n.size ≤ 9223372036854775807) :
    Calls Try.prog 13 #[.pointer (some ⟨p, 0, none⟩), .string n, .int .i64 len] w fun e w' => e = .returned (.int .i64 (d.ctE n len)) ∧ RDid w F p (d.ctD n len) w' := by
  obtain ⟨vs, vw, vn, hw, hF⟩ := id h
  have KN := hide (known_any n p vn d w hw.c2 hw.now hn)
  have hroom := hi.now.1.1
  have hsz : (hasF d.now n).length ≤ total d.now := hasF_le n
  have SM := hide (RDid.same h)
  unfold Dk.ctE Dk.ctD Dk.badC
  by_cases hb : d.badN n = 0
  · rw [if_pos hb]
    rw [hb] at KN
    by_cases hlo : len < 0
    · rw [if_pos (Or.inl hlo), if_neg (by decide), if_neg (by decide)]
      clear h hw hF hroom hsz
      go_enter Try.func13, Try.ntmps13
      go_wp2_with fail
      refine (unhide KN).mono ?_
      rintro e w1 ⟨z, rfl, rfl, hz⟩
      clear hz
      go_wp2
      go_ret
      exact ⟨rfl, unhide SM⟩
    · by_cases hhi : ((hasF d.now n).length : Int) < len
      · rw [if_pos (Or.inr hhi), if_neg (by decide), if_neg (by decide)]
        clear h hw hF hroom hsz
        generalize (hasF d.now n).length = L at *
        go_enter Try.func13, Try.ntmps13
        go_wp2_with fail
        refine (unhide KN).mono ?_
        rintro e w1 ⟨z, rfl, rfl, hz⟩
        obtain rfl := hz trivial
        clear hz
        go_wp2
        go_ret
        exact ⟨rfl, unhide SM⟩
      · rw [if_neg (show ¬ (len < 0 ∨ ((hasF d.now n).length : Int) < len) by omega), if_pos rfl, if_pos rfl]
        have DO := hide (rdo_any (.ct n len.toNat) p d F w h hi ⟨by omega, by omega⟩)
        have hch : chA (.ct n len.toNat) = #[.int .i64 1, .string n, .string ⟨#[]⟩, .int .i64 len, .string ⟨#[]⟩] := by
          show #[Value.int .i64 1, .string n, .string ⟨#[]⟩, .int .i64 (len.toNat : Int), .string ⟨#[]⟩] = _
          rw [Int.toNat_of_nonneg (by omega)]
        rw [hch] at DO
        clear h hw hF hroom hsz hch
        generalize (hasF d.now n).length = L at *
        go_enter Try.func13, Try.ntmps13
        go_wp2_with fail
        refine (unhide KN).mono ?_
        rintro e w1 ⟨z, rfl, rfl, hz⟩
        obtain rfl := hz trivial
        clear hz
        go_wp2_with fail
        refine (unhide DO).mono ?_
        rintro e w2 ⟨rfl, D⟩
        have HD := hide D
        clear D
        go_wp2
        go_ret
        exact ⟨rfl, unhide HD⟩
  · rw [if_neg hb, if_neg hb, if_neg hb]
    have hbb : (d.badN n == 0) = false := beq_eq_false_iff_ne.2 hb
    clear h hw hF hroom hsz
    generalize d.badN n = bn at *
    go_enter Try.func13, Try.ntmps13
    go_wp2_with fail
    refine (unhide KN).mono ?_
    rintro e w1 ⟨z, rfl, rfl, hz⟩
    clear hz
    go_wp2
    go_ret
    exact ⟨rfl, unhide SM⟩
end Go.Proofs.Ytfnljfkgkadlaaa
