/-
  The document's disk: write.
  The document's disk: sync, fuse, read, new, as it lies.
  The document's disk: the cells of a row of changes.
  The document's disk: a crash.
  The document's disk: a crash, walked.
-/
import Derived.Test.YtfnljfkgkadlaaaG20
import Derived.Test.YtfnljfkgkadlaaaG17
import Derived.Test.YtfnljfkgkadlaaaG11
namespace Go.Proofs.Ytfnljfkgkadlaaa
open Go.RowKit

set_option maxHeartbeats 4000000 in
set_option maxRecDepth 100000 in
theorem rwrite_any (n : ByteArray) (m : Int) (s : ByteArray) (p : Nat) (d : Dk) (F : List Nat) (w : World) (h : RDk w p d F) (hi : Inv d) (hn : n.size ≤ 9223372036854775807) (hs : s.size ≤ 140737488355328) :
    Calls Try.prog 11 #[.pointer (some ⟨p, 0, none⟩), .string n, .int .i64 m, .string s] w fun e w' => e = .returned (.int .i64 (d.wrE n m s)) ∧ RDid w F p (d.wrD n m s) w' := by
  obtain ⟨vs, vw, vn, hw, hF⟩ := id h
  have hT := hi.now.1.1
  have hN := hi.now.1.2
  have NM := hide (named_any n w hn)
  have FI := hide (find_any vn d.now n w hw.now)
  have TT := hide (total_any vn d.now w hw.now (by omega))
  have SM := hide (RDid.same h)
  have HH := hide hw.now
  have c2 := hw.c2
  have hle := hasF_le (fs := d.now) n
  have hLL : (hasF d.now n).length = (hasS d.now n).size := by simp [hasS, ByteArray.size]
  cases hd : dnm n with
  | false =>
    have hbc : d.badW n m s = 30 := by unfold Dk.badW; rw [if_pos hd]
    rw [show d.wrE n m s = 30 by simp [Dk.wrE, hbc], show d.wrD n m s = d by simp [Dk.wrD, hbc]]
    rw [hd] at NM
    clear h hw hF hd hbc FI TT HH hT hN hle hLL
    go_enter Try.func11, Try.ntmps11
    go_wp2_with fail
    refine (unhide NM).mono ?_
    rintro e w1 ⟨rfl, rfl⟩
    go_wp2
    go_ret
    exact ⟨rfl, unhide SM⟩
  | true =>
  rw [hd] at NM
  by_cases hlo : m < 0
  · have hbc : d.badW n m s = 1 := by unfold Dk.badW; rw [if_neg (by simp [hd]), if_pos (by omega)]
    rw [show d.wrE n m s = 1 by simp [Dk.wrE, hbc], show d.wrD n m s = d by simp [Dk.wrD, hbc]]
    clear h hw hF hd hbc TT hT hle hLL
    go_enter Try.func11, Try.ntmps11
    go_wp2_with fail
    refine (unhide NM).mono ?_
    rintro e w1 ⟨rfl, rfl⟩
    go_wp2_with fail
    refine (unhide FI).mono ?_
    rintro e w2 ⟨r, rfl, rfl, hr⟩
    obtain ⟨k, hk, rfl, hkn, hg⟩ | ⟨rfl, hg⟩ := hr
    · obtain ⟨_, hLn⟩ | ⟨g, cap, rfl, hcp, hm⟩ := (unhide HH).shape
      · rw [hLn] at hk; exact absurd hk (by simp)
      have cH := ((unhide HH).cell k hk).2
      have HHS : Hid ((⟨d.now[k].2.toArray⟩ : ByteArray) = hasS d.now n) := hide (by unfold hasS hasF; rw [hg]; rfl)
      rw [unhide HHS] at cH
      have hki : (k : Int) < (d.now.length : Int) := by omega
      clear hkn hg HHS HH FI
      generalize hasS d.now n = hs1 at *
      generalize total d.now = T at *
      generalize d.now.length = NL at *
      go_wp2
      go_ret
      exact ⟨rfl, unhide SM⟩
    · have hz : (hasS d.now n).size = 0 := by unfold hasS hasF; rw [hg]; rfl
      obtain ⟨an, cn, hvn⟩ : ∃ an cn, vn = .slice an d.now.length cn := by
        obtain ⟨rfl, h0⟩ | ⟨g, cap, rfl, hcp, hm⟩ := (unhide HH).shape
        · exact ⟨_, _, by rw [h0]; rfl⟩
        · exact ⟨_, _, rfl⟩
      subst hvn
      clear hg HH FI
      rw [hz] at *
      clear hz
      generalize total d.now = T at *
      generalize d.now.length = NL at *
      go_wp2
      go_ret
      exact ⟨rfl, unhide SM⟩
  by_cases hhi : ((hasF d.now n).length : Int) < m
  · have hbc : d.badW n m s = 1 := by unfold Dk.badW; rw [if_neg (by simp [hd]), if_pos (by omega)]
    rw [show d.wrE n m s = 1 by simp [Dk.wrE, hbc], show d.wrD n m s = d by simp [Dk.wrD, hbc]]
    rw [hLL] at hhi
    clear h hw hF hd hbc TT hT hle hLL
    go_enter Try.func11, Try.ntmps11
    go_wp2_with fail
    refine (unhide NM).mono ?_
    rintro e w1 ⟨rfl, rfl⟩
    go_wp2_with fail
    refine (unhide FI).mono ?_
    rintro e w2 ⟨r, rfl, rfl, hr⟩
    obtain ⟨k, hk, rfl, hkn, hg⟩ | ⟨rfl, hg⟩ := hr
    · obtain ⟨_, hLn⟩ | ⟨g, cap, rfl, hcp, hm⟩ := (unhide HH).shape
      · rw [hLn] at hk; exact absurd hk (by simp)
      have cH := ((unhide HH).cell k hk).2
      have HHS : Hid ((⟨d.now[k].2.toArray⟩ : ByteArray) = hasS d.now n) := hide (by unfold hasS hasF; rw [hg]; rfl)
      rw [unhide HHS] at cH
      have hki : (k : Int) < (d.now.length : Int) := by omega
      clear hkn hg HHS HH FI
      generalize hasS d.now n = hs1 at *
      generalize total d.now = T at *
      generalize d.now.length = NL at *
      go_wp2
      go_ret
      exact ⟨rfl, unhide SM⟩
    · have hz : (hasS d.now n).size = 0 := by unfold hasS hasF; rw [hg]; rfl
      obtain ⟨an, cn, hvn⟩ : ∃ an cn, vn = .slice an d.now.length cn := by
        obtain ⟨rfl, h0⟩ | ⟨g, cap, rfl, hcp, hm⟩ := (unhide HH).shape
        · exact ⟨_, _, by rw [h0]; rfl⟩
        · exact ⟨_, _, rfl⟩
      subst hvn
      clear hg HH FI
      rw [hz] at *
      clear hz
      generalize total d.now = T at *
      generalize d.now.length = NL at *
      go_wp2
      go_ret
      exact ⟨rfl, unhide SM⟩
  by_cases hG : 262144 - (total d.now : Int) < max 0 ((s.size : Int) - (((hasF d.now n).length : Int) - m))
  · have hbc : d.badW n m s = 32 := by unfold Dk.badW; rw [if_neg (by simp [hd]), if_neg (by omega), if_pos (by unfold Dk.fullW Dk.grows; simp [hG])]
    rw [show d.wrE n m s = 32 by simp [Dk.wrE, hbc], show d.wrD n m s = d by simp [Dk.wrD, hbc]]
    rw [hLL] at hhi hG hle
    clear h hw hF hd hbc hLL
    go_enter Try.func11, Try.ntmps11
    go_wp2_with fail
    refine (unhide NM).mono ?_
    rintro e w1 ⟨rfl, rfl⟩
    go_wp2_with fail
    refine (unhide FI).mono ?_
    rintro e w2 ⟨r, rfl, rfl, hr⟩
    obtain ⟨k, hk, rfl, hkn, hg⟩ | ⟨rfl, hg⟩ := hr
    · obtain ⟨_, hLn⟩ | ⟨g, cap, rfl, hcp, hm⟩ := (unhide HH).shape
      · rw [hLn] at hk; exact absurd hk (by simp)
      have cH := ((unhide HH).cell k hk).2
      have HHS : Hid ((⟨d.now[k].2.toArray⟩ : ByteArray) = hasS d.now n) := hide (by unfold hasS hasF; rw [hg]; rfl)
      rw [unhide HHS] at cH
      have hki : (k : Int) < (d.now.length : Int) := by omega
      clear hkn hg HHS HH FI
      generalize hasS d.now n = hs1 at *
      generalize total d.now = T at *
      generalize d.now.length = NL at *
      go_wp2_with fail
      refine (unhide TT).mono ?_
      rintro e w3 ⟨rfl, rfl⟩
      go_wp2
      go_ret
      exact ⟨rfl, unhide SM⟩
    · have hz : (hasS d.now n).size = 0 := by unfold hasS hasF; rw [hg]; rfl
      obtain ⟨an, cn, hvn⟩ : ∃ an cn, vn = .slice an d.now.length cn := by
        obtain ⟨rfl, h0⟩ | ⟨g, cap, rfl, hcp, hm⟩ := (unhide HH).shape
        · exact ⟨_, _, by rw [h0]; rfl⟩
        · exact ⟨_, _, rfl⟩
      subst hvn
      clear hg HH FI
      rw [hz] at hhi hG hle
      clear hz
      obtain rfl : m = 0 := by omega
      generalize total d.now = T at *
      generalize d.now.length = NL at *
      go_wp2_with fail
      refine (unhide TT).mono ?_
      rintro e w3 ⟨rfl, rfl⟩
      go_wp2
      go_ret
      exact ⟨rfl, unhide SM⟩
  by_cases hM : (getF d.now n).isSome = false ∧ d.now.length = 64
  · have hbc : d.badW n m s = 32 := by unfold Dk.badW; rw [if_neg (by simp [hd]), if_neg (by omega), if_pos (by unfold Dk.fullW Dk.grows; simp [hM])]
    rw [show d.wrE n m s = 32 by simp [Dk.wrE, hbc], show d.wrD n m s = d by simp [Dk.wrD, hbc]]
    rw [hLL] at hhi hG hle
    clear h hw hF hd hbc hLL
    go_enter Try.func11, Try.ntmps11
    go_wp2_with fail
    refine (unhide NM).mono ?_
    rintro e w1 ⟨rfl, rfl⟩
    go_wp2_with fail
    refine (unhide FI).mono ?_
    rintro e w2 ⟨r, rfl, rfl, hr⟩
    obtain ⟨k, hk, rfl, hkn, hg⟩ | ⟨rfl, hg⟩ := hr
    · exact absurd hM.1 (by rw [hg]; simp)
    · have hz : (hasS d.now n).size = 0 := by unfold hasS hasF; rw [hg]; rfl
      obtain ⟨an, cn, hvn⟩ : ∃ an cn, vn = .slice an d.now.length cn := by
        obtain ⟨rfl, h0⟩ | ⟨g, cap, rfl, hcp, hm⟩ := (unhide HH).shape
        · exact ⟨_, _, by rw [h0]; rfl⟩
        · exact ⟨_, _, rfl⟩
      subst hvn
      clear hg HH FI
      have hM1 : (64 : Int) ≤ (d.now.length : Int) := by have := hM.2; omega
      clear hM
      rw [hz] at hhi hG hle
      clear hz
      obtain rfl : m = 0 := by omega
      generalize total d.now = T at *
      generalize d.now.length = NL at *
      go_wp2_with fail
      refine (unhide TT).mono ?_
      rintro e w3 ⟨rfl, rfl⟩
      go_wp2
      go_ret
      exact ⟨rfl, unhide SM⟩
  have hbc : d.badW n m s = 0 := by unfold Dk.badW; rw [if_neg (by simp [hd]), if_neg (by omega), if_neg (fun hf => by unfold Dk.fullW Dk.grows at hf; rw [decide_eq_false hG, Bool.false_or, Bool.and_eq_true, Bool.not_eq_true', decide_eq_true_eq] at hf; exact hM hf)]
  rw [show d.wrE n m s = d.doE by simp [Dk.wrE, hbc], show d.wrD n m s = d.doD (.wr n m.toNat s) by simp [Dk.wrD, hbc]]
  have DO := hide (rdo_any (.wr n m.toNat s) p d F w h hi ⟨by omega, by omega⟩)
  have hch : chA (.wr n m.toNat s) = #[.int .i64 0, .string n, .string ⟨#[]⟩, .int .i64 m, .string s] := by
    show #[Value.int .i64 0, .string n, .string ⟨#[]⟩, .int .i64 (m.toNat : Int), .string s] = _
    rw [Int.toNat_of_nonneg (by omega)]
  rw [hch] at DO
  rw [hLL] at hhi hG hle
  clear h hw hF hd hbc hLL hch
  go_enter Try.func11, Try.ntmps11
  go_wp2_with fail
  refine (unhide NM).mono ?_
  rintro e w1 ⟨rfl, rfl⟩
  go_wp2_with fail
  refine (unhide FI).mono ?_
  rintro e w2 ⟨r, rfl, rfl, hr⟩
  obtain ⟨k, hk, rfl, hkn, hg⟩ | ⟨rfl, hg⟩ := hr
  · obtain ⟨_, hLn⟩ | ⟨g, cap, rfl, hcp, hm⟩ := (unhide HH).shape
    · rw [hLn] at hk; exact absurd hk (by simp)
    have cH := ((unhide HH).cell k hk).2
    have HHS : Hid ((⟨d.now[k].2.toArray⟩ : ByteArray) = hasS d.now n) := hide (by unfold hasS hasF; rw [hg]; rfl)
    rw [unhide HHS] at cH
    have hki : (k : Int) < (d.now.length : Int) := by omega
    clear hkn hg HHS HH FI hM
    generalize hasS d.now n = hs1 at *
    generalize total d.now = T at *
    generalize d.now.length = NL at *
    go_wp2_with fail
    refine (unhide TT).mono ?_
    rintro e w3 ⟨rfl, rfl⟩
    go_wp2_with fail
    refine (unhide DO).mono ?_
    rintro e w4 ⟨rfl, D⟩
    have HD := hide D
    clear D
    go_wp2
    go_ret
    exact ⟨rfl, unhide HD⟩
  · have hz : (hasS d.now n).size = 0 := by unfold hasS hasF; rw [hg]; rfl
    obtain ⟨an, cn, hvn⟩ : ∃ an cn, vn = .slice an d.now.length cn := by
      obtain ⟨rfl, h0⟩ | ⟨g, cap, rfl, hcp, hm⟩ := (unhide HH).shape
      · exact ⟨_, _, by rw [h0]; rfl⟩
      · exact ⟨_, _, rfl⟩
    subst hvn
    have hM1 : d.now.length ≠ 64 := fun e => hM ⟨by rw [hg]; rfl, e⟩
    clear hg HH FI hM
    rw [hz] at hhi hG hle
    clear hz
    obtain rfl : m = 0 := by omega
    generalize total d.now = T at *
    generalize d.now.length = NL at *
    go_wp2_with fail
    refine (unhide TT).mono ?_
    rintro e w3 ⟨rfl, rfl⟩
    go_wp2_with fail
    refine (unhide DO).mono ?_
    rintro e w4 ⟨rfl, D⟩
    have HD := hide D
    clear D
    go_wp2
    go_ret
    exact ⟨rfl, unhide HD⟩
end Go.Proofs.Ytfnljfkgkadlaaa
namespace Go.Proofs.Ytfnljfkgkadlaaa
open Go.RowKit

theorem syD_safe (d : Dk) : (d.readyB = true → d.syD.safe = d.now ∧ d.syD.wait = [] ∧ d.syD.now = d.now) ∧ (d.readyB = false → d.syD.safe = d.safe ∧ d.syD.wait = d.wait ∧ d.syD.now = d.now) := by
  obtain ⟨e1, e2, e3⟩ := ready_now d
  unfold Dk.syD
  refine ⟨fun h => ?_, fun h => ?_⟩
  · rw [if_pos h]; exact ⟨rfl, rfl, e1⟩
  · rw [if_neg (by simp [h])]; exact ⟨e2, e3, e1⟩
theorem rsync_dk (p : Nat) (d : Dk) (F : List Nat) (w : World) (h : RDk w p d F) (hi : Inv d) :
    Calls Try.prog 19 #[.pointer (some ⟨p, 0, none⟩)] w fun e w' => e = .returned (.int .i64 d.syE) ∧ RDid w F p d.syD w' := by
  obtain ⟨vs, vw, vn, h, rfl⟩ := h
  have hv : ∃ ad n cap, vn = .slice ad n cap := by
    rcases h.now.shape with ⟨e, _⟩ | ⟨_, _, e, _⟩ <;> exact ⟨_, _, _, e⟩
  refine (rsync_any p vs vw vn hv d w h.box hi.left0 hi.left1).mono ?_
  rintro e w' ⟨rfl, h1, h2, hk⟩
  have np : ∀ k, k ≠ p → k ∉ [p] := fun k hk => by simpa using hk
  have hn := h.now.kp hk (fun k hb => np k (h.nen k hb))
  refine ⟨rfl, ?_⟩
  cases hr : d.readyB with
  | true =>
    obtain ⟨e1, e2, e3⟩ := (syD_safe d).1 hr
    refine ⟨_, ⟨vn, .slice none 0 0, vn, ⟨h1 hr, by rw [e1]; exact hn, by rw [e2]; exact ChRow.nil _, by rw [e3]; exact hn, h.nen, fun k hb => by simp [Value.ownBlock] at hb, h.nen⟩, rfl⟩, hk.mono (by simp [rfF]), fun k hm => ?_⟩
    rcases rfF_mem hm with rfl | hm | hm | hm
    · exact Or.inl (rfF_p _ _ _ _)
    · exact Or.inl (rfF_n hm)
    · simp [Value.ownBlock] at hm
    · exact Or.inl (rfF_n hm)
  | false =>
    obtain ⟨e1, e2, e3⟩ := (syD_safe d).2 hr
    exact ⟨_, ⟨vs, vw, vn, ⟨h2 hr, by rw [e1]; exact h.safe.kp hk (fun k hb => np k (h.nes k hb)), by rw [e2]; exact h.wait.kp hk (fun k hb => np k (h.new k hb)), by rw [e3]; exact hn, h.nes, h.new, h.nen⟩, rfl⟩, hk.mono (by simp [rfF]), fun k hm => Or.inl hm⟩
theorem fuD_same (d : Dk) (n : Int) : (d.fuD n).safe = d.safe ∧ (d.fuD n).wait = d.wait ∧ (d.fuD n).now = d.now := by
  unfold Dk.fuD
  split <;> exact ⟨rfl, rfl, rfl⟩
theorem rfuse_dk (p : Nat) (d : Dk) (n : Int) (F : List Nat) (w : World) (h : RDk w p d F) :
    Calls Try.prog 23 #[.pointer (some ⟨p, 0, none⟩), .int .i64 n] w fun e w' => e = .returned (.int .i64 (Dk.fuE n)) ∧ RDid w F p (d.fuD n) w' := by
  obtain ⟨vs, vw, vn, h, rfl⟩ := h
  refine (rfuse_any p vs vw vn d n w h.box).mono ?_
  rintro e w' ⟨rfl, h1, hk⟩
  have np : ∀ k, k ≠ p → k ∉ [p] := fun k hk => by simpa using hk
  obtain ⟨e1, e2, e3⟩ := fuD_same d n
  exact ⟨rfl, _, ⟨vs, vw, vn, ⟨h1, by rw [e1]; exact h.safe.kp hk (fun k hb => np k (h.nes k hb)), by rw [e2]; exact h.wait.kp hk (fun k hb => np k (h.new k hb)), by rw [e3]; exact h.now.kp hk (fun k hb => np k (h.nen k hb)), h.nes, h.new, h.nen⟩, rfl⟩, hk.mono (by simp [rfF]), fun k hm => Or.inl hm⟩
theorem rread_dk (n : ByteArray) (p : Nat) (d : Dk) (F : List Nat) (w : World) (h : RDk w p d F) (hnd : (d.now.map (·.1)).Nodup) (hn : n.size ≤ 9223372036854775807) :
    Calls Try.prog 21 #[.pointer (some ⟨p, 0, none⟩), .string n] w fun e w' => e = .returned (.tuple #[.string (d.rdS n), .int .i64 (d.rdE n)]) ∧ Kp [] w w' := by
  obtain ⟨vs, vw, vn, h, rfl⟩ := h
  exact rread_any n p vn d w h.c2 h.now hnd hn
theorem rnames_dk (p : Nat) (d : Dk) (F : List Nat) (w : World) (h : RDk w p d F) (hi : Inv d) :
    Calls Try.prog 28 #[.pointer (some ⟨p, 0, none⟩)] w fun e w' => ∃ v, e = .returned v ∧ w'.ownsRow 0 9 1 v d.now.length (nmC d.now) ∧ Kp [] w w' ∧ ∀ k, v.ownBlock = some k → w.heap.size ≤ k := by
  obtain ⟨vs, vw, vn, h, rfl⟩ := h
  exact rnames_any p vn d w h.c2 h.now (by have := hi.now.1.2; omega)
theorem rnew_dk (w : World) : Calls Try.prog 5 #[] w fun e w' => e = .returned (.pointer (some ⟨w.heap.size, 0, none⟩)) ∧ ∃ F, RDk w' w.heap.size Dk.new F ∧ Kp [] w w' ∧ ∀ k ∈ F, w.heap.size ≤ k := by
  refine (rnew_any w).mono ?_
  rintro e w' ⟨rfl, rfl⟩
  refine ⟨rfl, _, ⟨.slice none 0 0, .slice none 0 0, .slice none 0 0, ⟨CBox.new _ _ _, FlRow.nil _, ChRow.nil _, FlRow.nil _, fun k hb => by simp [Value.ownBlock] at hb, fun k hb => by simp [Value.ownBlock] at hb, fun k hb => by simp [Value.ownBlock] at hb⟩, rfl⟩, Kp.alloc _ _, fun k hm => ?_⟩
  rcases rfF_mem hm with rfl | hm | hm | hm
  · exact Nat.le_refl _
  all_goals simp [Value.ownBlock] at hm
end Go.Proofs.Ytfnljfkgkadlaaa
namespace Go.Proofs.Ytfnljfkgkadlaaa
open Go.RowKit

theorem chA_five (c : Chg) : (chA c).toList.length = 5 := by cases c <;> rfl
theorem chs_get : ∀ (l : List Chg) (k : Nat) (hk : k < l.length) (j : Nat), j < 5 → (l.flatMap fun c => (chA c).toList)[k * 5 + j]? = (chA l[k]).toList[j]?
  | [], k, hk, _, _ => absurd hk (by simp)
  | c :: l, 0, _, j, hj => by
    rw [List.flatMap_cons, Nat.zero_mul, Nat.zero_add, List.getElem?_append_left (by rw [chA_five]; exact hj)]
    rfl
  | c :: l, k + 1, hk, j, hj => by
    rw [List.flatMap_cons, List.getElem?_append_right (by rw [chA_five]; omega), chA_five, show (k + 1) * 5 + j - 5 = k * 5 + j by omega, chs_get l k (by simpa using hk) j hj]
    rfl
theorem ChRow.cell {w : World} {g cap : Nat} {cs : List Chg} (h : ChRow w (.slice (some ⟨g, 0, none⟩) cs.length cap) cs) (k : Nat) (hk : k < cs.length) (j : Nat) (u : Value) (hu : (chA cs[k]).toList[j]? = some u) : w.cell? ⟨g, k * 5 + j, none⟩ = some u := by
  have hj : j < 5 := by have := (List.getElem?_eq_some_iff.1 hu).1; rw [chA_five] at this; exact this
  have := (chs_src h).2.2 _ rfl (k * 5 + j) u (by rw [chs_get cs k hk j hj]; exact hu)
  rw [Go.WideShapes.add_plain, Nat.zero_add] at this
  exact this
/-- A change that was to be made, made upon part of the way. -/
theorem play_next (fs : Fs) (cs : List Chg) (k : Nat) (hk : k < cs.length) : playAll fs (cs.take (k + 1)) = made (playAll fs (cs.take k)) cs[k] := by
  rw [List.take_succ_eq_append_getElem hk, playAll_snoc]
end Go.Proofs.Ytfnljfkgkadlaaa
namespace Go.Proofs.Ytfnljfkgkadlaaa
open Go.RowKit

theorem crash_fin {w : World} {p : Nat} {d : Dk} {vs vw vn : Value} (h : RfW w p d vs vw vn) {LL : Fs} {W : World} {l : Value} (hk : Kp [] w W) (hl : FlRow W l LL) (hb : ∀ j, l.ownBlock = some j → vs.ownBlock = some j ∨ w.heap.size ≤ j) :
    RDid w (rfF p vs vw vn) p ⟨LL, LL, [], -1, false⟩ (((((W.setCell ⟨p, 0, none⟩ l).setCell ⟨p, 2, none⟩ l).setCell ⟨p, 1, none⟩ (.slice none 0 0)).setCell ⟨p, 3, none⟩ (.int .i64 (-1))).setCell ⟨p, 4, none⟩ (.bool false)) := by
  have hpl : p < w.heap.size := (Array.getElem?_eq_some_iff.1 h.box).1
  have b5 := (((((h.box.kp hk (by simp)).set 0 l).set 2 l).set 1 (.slice none 0 0)).set 3 (.int .i64 (-1))).set 4 (.bool false)
  have k5 : Kp [p] W (((((W.setCell ⟨p, 0, none⟩ l).setCell ⟨p, 2, none⟩ l).setCell ⟨p, 1, none⟩ (.slice none 0 0)).setCell ⟨p, 3, none⟩ (.int .i64 (-1))).setCell ⟨p, 4, none⟩ (.bool false)) :=
    ((((Kp.set _ _ _ _).trans (Kp.set _ _ _ _) (fun _ hx => Or.inl hx)).trans (Kp.set _ _ _ _) (fun _ hx => Or.inl hx)).trans (Kp.set _ _ _ _) (fun _ hx => Or.inl hx)).trans (Kp.set _ _ _ _) (fun _ hx => Or.inl hx)
  have ne : ∀ j, l.ownBlock = some j → j ≠ p := fun j hj => by
    rcases hb j hj with h1 | h1
    · exact h.nes j h1
    · omega
  have hl5 := hl.kp k5 (fun k hj hm => ne k hj (by simpa using hm))
  refine ⟨_, ⟨l, .slice none 0 0, l, ⟨b5, hl5, ChRow.nil _, hl5, ne, fun k hj => by simp [Value.ownBlock] at hj, ne⟩, rfl⟩, (hk.mono (by simp)).trans k5 (fun x hx => Or.inl (by simp at hx; subst hx; exact rfF_p _ _ _ _)), fun k hm => ?_⟩
  rcases rfF_mem hm with rfl | hm | hm | hm
  · exact Or.inl (rfF_p _ _ _ _)
  · rcases hb k hm with h1 | h1
    · exact Or.inl (rfF_s h1)
    · exact Or.inr h1
  · simp [Value.ownBlock] at hm
  · rcases hb k hm with h1 | h1
    · exact Or.inl (rfF_s h1)
    · exact Or.inr h1
end Go.Proofs.Ytfnljfkgkadlaaa
namespace Go.Proofs.Ytfnljfkgkadlaaa
open Go.RowKit

/-- What the five stores of a crash find. -/
theorem crash_cells {W : World} {p : Nat} {vs vw vn : Value} {L : Int} {D : Bool} (h : CBox p (rfC vs vw vn L D) 41 W) (l : Value) :
    (W.cell? ⟨p, 0, none⟩ = some vs ∧ W.frozen? ⟨p, 0, none⟩ = false) ∧ ((W.setCell ⟨p, 0, none⟩ l).cell? ⟨p, 2, none⟩ = some vn ∧ (W.setCell ⟨p, 0, none⟩ l).frozen? ⟨p, 2, none⟩ = false) ∧
    (((W.setCell ⟨p, 0, none⟩ l).setCell ⟨p, 2, none⟩ l).cell? ⟨p, 1, none⟩ = some vw ∧ ((W.setCell ⟨p, 0, none⟩ l).setCell ⟨p, 2, none⟩ l).frozen? ⟨p, 1, none⟩ = false) ∧
    ((((W.setCell ⟨p, 0, none⟩ l).setCell ⟨p, 2, none⟩ l).setCell ⟨p, 1, none⟩ (.slice none 0 0)).cell? ⟨p, 3, none⟩ = some (.int .i64 L) ∧ (((W.setCell ⟨p, 0, none⟩ l).setCell ⟨p, 2, none⟩ l).setCell ⟨p, 1, none⟩ (.slice none 0 0)).frozen? ⟨p, 3, none⟩ = false) ∧
    (((((W.setCell ⟨p, 0, none⟩ l).setCell ⟨p, 2, none⟩ l).setCell ⟨p, 1, none⟩ (.slice none 0 0)).setCell ⟨p, 3, none⟩ (.int .i64 (-1))).cell? ⟨p, 4, none⟩ = some (.bool D) ∧ ((((W.setCell ⟨p, 0, none⟩ l).setCell ⟨p, 2, none⟩ l).setCell ⟨p, 1, none⟩ (.slice none 0 0)).setCell ⟨p, 3, none⟩ (.int .i64 (-1))).frozen? ⟨p, 4, none⟩ = false) := by
  have b1 := h.set 0 l
  have b2 := b1.set 2 l
  have b3 := b2.set 1 (.slice none 0 0)
  have b4 := b3.set 3 (.int .i64 (-1))
  exact ⟨⟨h.cell rfl, h.froz 0⟩, ⟨b1.cell rfl, b1.froz 2⟩, ⟨b2.cell rfl, b2.froz 1⟩, ⟨b3.cell rfl, b3.froz 3⟩, ⟨b4.cell rfl, b4.froz 4⟩⟩
set_option maxHeartbeats 2000000 in
set_option maxRecDepth 100000 in
/-- Where no change waits. -/
theorem rcrash_nil (keep t : Int) (p : Nat) (d : Dk) (F : List Nat) (w : World) (h : RDk w p d F) (h0 : d.wait = []) :
    Calls Try.prog 25 #[.pointer (some ⟨p, 0, none⟩), .int .i64 keep, .int .i64 t] w fun e w' => e = .returned (.tuple #[]) ∧ RDid w F p (d.crash keep t) w' := by
  obtain ⟨vs, vw, vn, h, rfl⟩ := h
  obtain ⟨a9, ns, cs, hvs⟩ : ∃ a9 ns cs, vs = .slice a9 ns cs := by
    rcases h.safe.shape with ⟨e, _⟩ | ⟨_, _, e, _⟩ <;> exact ⟨_, _, _, e⟩
  subst hvs
  obtain ⟨aw, cw, hvw⟩ : ∃ aw cw, vw = .slice aw 0 cw := by
    rcases h.wait.shape with ⟨e, _⟩ | ⟨_, _, e, _⟩
    · exact ⟨_, _, e⟩
    · rw [h0] at e; exact ⟨_, _, e⟩
  subst hvw
  have hcr : d.crash keep t = ⟨d.safe, d.safe, [], -1, false⟩ := by
    have : d.left' keep t = d.safe := by
      unfold Dk.left'
      rw [h0]
      simp [playAll]
    unfold Dk.crash
    rw [this]
  rw [hcr]
  have FIN := hide (crash_fin h (Kp.refl _ _) h.safe (fun j hj => Or.inl hj))
  obtain ⟨⟨c0, f0⟩, ⟨c1, f1⟩, ⟨c2, f2⟩, ⟨c3, f3⟩, ⟨c4, f4⟩⟩ := crash_cells h.box (.slice a9 ns cs)
  have cw1 : w.cell? ⟨p, 1, none⟩ = some (.slice aw 0 cw) := h.box.cell rfl
  have hke : max 0 (min keep 0) = 0 := by omega
  clear h h0 hcr
  go_enter Try.func25, Try.ntmps25
  go_wp2
  go_loopw [6, 7] (fun l i wr => l = .slice a9 ns cs ∧ i = .int .i64 0 ∧ wr = w) (fun _ _ _ => 0)
  case atStart => exact ⟨rfl, rfl, rfl⟩
  case round =>
    obtain ⟨rfl, rfl, rfl⟩ := hrel
    go_wp2
    go_end0
    exact ⟨rfl, unhide FIN⟩
end Go.Proofs.Ytfnljfkgkadlaaa
