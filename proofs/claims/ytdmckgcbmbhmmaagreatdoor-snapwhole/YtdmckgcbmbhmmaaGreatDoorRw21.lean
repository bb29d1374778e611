/-
  Remove, Rename of a disk.
  What else stays where a disk's calls write: all cells of other types.
  Snapshots: a file is written anew; the manifest's bytes; they are placed.
-/
import Derived.Test.YtdmckgcbmbhmmaaGreatDoorRw14
import Derived.Test.YtdmckgcbmbhmmaaGreatDoorRw17
import Derived.Test.YtdmckgcbmbhmmaaGreatDoorRw20
namespace Go.Proofs.YtdmckgcbmbhmmaaGreatDoor
open Go.RowKit

set_option maxHeartbeats 1000000 in
set_option maxRecDepth 100000 in
theorem remove_any (n : ByteArray) (p : Nat) (d : Dk) (F : List Nat) (w : World) (h : DiskAt w p d F) (hn : n.size ≤ 9223372036854775807) :
    Calls Tryz.prog 60 #[.pointer (some ⟨p, 0, none⟩), .string n] w fun e w' => e = .returned (.int .i64 (d.rmE n)) ∧ Did w F p (d.rmD n) w' := by
  have nm := dname_any n w hn
  cases hd : dnm n with
  | false =>
    rw [hd] at nm
    have NM := hide nm
    have HD := hide h.did
    rw [show d.rmE n = 30 by simp [Dk.rmE, badN_30 hd], show d.rmD n = d by simp [Dk.rmD, badN_30 hd]]
    clear h nm hd
    go_enter Tryz.func60, Tryz.ntmps60
    go_wp2_with fail
    refine (unhide NM).mono ?_
    rintro e w1 ⟨rfl, rfl⟩
    go_wp2
    go_ret
    exact ⟨rfl, unhide HD⟩
  | true =>
    rw [hd] at nm
    have NM := hide nm
    have hlen := dnm_len hd
    obtain ⟨bn, l, clock, Ln, ad, cap, hW, hf, hv, hl⟩ := h.nowP n
    obtain ⟨c1, hm, _, _⟩ := hW w (Kp.refl _ _)
    have HV := hide hv
    have HF := hide hf
    cases hg : (getF d.now n).isSome with
    | false =>
      rw [hg] at HF
      rw [show d.rmE n = 5 by simp [Dk.rmE, badN_5 hd hg], show d.rmD n = d by simp [Dk.rmD, badN_5 hd hg]]
      have HD := hide h.did
      clear h nm hd hW hf hv hl hg
      generalize (hasF d.now n).length = H at *
      go_enter Tryz.func60, Tryz.ntmps60
      go_wp2_with fail
      refine (unhide NM).mono ?_
      rintro e w1 ⟨rfl, rfl⟩
      go_wp2_with (at_lookup; refine wpList_lookOk rfl _ _ rfl rfl hm _ rfl _ (unhide HV) false (unhide HF) ?_)
      go_wp2
      go_ret
      exact ⟨rfl, unhide HD⟩
    | true =>
      rw [hg] at HF
      rw [show d.rmE n = d.doE by simp [Dk.rmE, badN_0 hd hg], show d.rmD n = d.doD (.rm n) by simp [Dk.rmD, badN_0 hd hg]]
      have cl := clone_any n w (by omega)
      have ad' := fun W (hk : Kp [] w W) => add_any (.rm n) p d F W (h.kp hk (by simp)) (can_rm h.inv.now h.nodup)
      have CL := hide cl
      have AD := hide ad'
      have H0 := hide h
      clear h nm hd hW hf hv hl hg cl ad'
      generalize (hasF d.now n).length = H at *
      go_enter Tryz.func60, Tryz.ntmps60
      go_wp2_with fail
      refine (unhide NM).mono ?_
      rintro e w1 ⟨rfl, rfl⟩
      go_wp2_with (at_lookup; refine wpList_lookOk rfl _ _ rfl rfl hm _ rfl _ (unhide HV) true (unhide HF) ?_)
      refine (unhide CL).mono ?_
      rintro e w2 ⟨rfl, hb2⟩
      clear c1
      go_wp2_with fail
      refine (unhide AD w2 (Kp.ofBelow hb2)).mono ?_
      rintro e w3 ⟨rfl, hd3⟩
      have HD := hide (Did.pre (Kp.ofBelow hb2) hd3)
      clear hd3 hm
      go_wp2
      go_ret
      exact ⟨rfl, unhide HD⟩
set_option maxHeartbeats 2000000 in
set_option maxRecDepth 100000 in
theorem rename_any (a b : ByteArray) (p : Nat) (d : Dk) (F : List Nat) (w : World) (h : DiskAt w p d F) (hna : a.size ≤ 9223372036854775807) (hnb : b.size ≤ 9223372036854775807) :
    Calls Tryz.prog 64 #[.pointer (some ⟨p, 0, none⟩), .string a, .string b] w fun e w' => e = .returned (.int .i64 (d.rnE a b)) ∧ Did w F p (d.rnD a b) w' := by
  have nm := dname_any a w hna
  have nm2 := dname_any b w hnb
  cases hd : dnm a with
  | false =>
    rw [hd] at nm
    have NM := hide nm
    have HD := hide h.did
    rw [show d.rnE a b = 30 by simp [Dk.rnE, Dk.badR, hd], show d.rnD a b = d by simp [Dk.rnD, Dk.badR, hd]]
    clear h nm nm2 hd
    go_enter Tryz.func64, Tryz.ntmps64
    go_wp2_with fail
    refine (unhide NM).mono ?_
    rintro e w1 ⟨rfl, rfl⟩
    go_wp2
    go_ret
    exact ⟨rfl, unhide HD⟩
  | true =>
    rw [hd] at nm
    have NM := hide nm
    have hlen := dnm_len hd
    cases hd2 : dnm b with
    | false =>
      rw [hd2] at nm2
      have NM2 := hide nm2
      have HD := hide h.did
      rw [show d.rnE a b = 30 by simp [Dk.rnE, Dk.badR, hd2], show d.rnD a b = d by simp [Dk.rnD, Dk.badR, hd2]]
      clear h nm nm2 hd hd2
      go_enter Tryz.func64, Tryz.ntmps64
      go_wp2_with fail
      refine (unhide NM).mono ?_
      rintro e w1 ⟨rfl, rfl⟩
      go_wp2_with fail
      refine (unhide NM2).mono ?_
      rintro e w2 ⟨rfl, rfl⟩
      go_wp2
      go_ret
      exact ⟨rfl, unhide HD⟩
    | true =>
      rw [hd2] at nm2
      have NM2 := hide nm2
      have hlen2 := dnm_len hd2
      have hbr : d.badR a b = d.badN a := by unfold Dk.badR; rw [if_neg (by simp [hd, hd2])]
      obtain ⟨bn, l, clock, Ln, ad, cap, hW, hf, hv, hl⟩ := h.nowP a
      obtain ⟨c1, hm, _, _⟩ := hW w (Kp.refl _ _)
      have HV := hide hv
      have HF := hide hf
      cases hg : (getF d.now a).isSome with
      | false =>
        rw [hg] at HF
        rw [show d.rnE a b = 5 by simp [Dk.rnE, hbr, badN_5 hd hg], show d.rnD a b = d by simp [Dk.rnD, hbr, badN_5 hd hg]]
        have HD := hide h.did
        clear h nm nm2 hd hd2 hW hf hv hl hg hbr
        generalize (hasF d.now a).length = H at *
        go_enter Tryz.func64, Tryz.ntmps64
        go_wp2_with fail
        refine (unhide NM).mono ?_
        rintro e w1 ⟨rfl, rfl⟩
        go_wp2_with fail
        refine (unhide NM2).mono ?_
        rintro e w2 ⟨rfl, rfl⟩
        go_wp2_with (at_lookup; refine wpList_lookOk rfl _ _ rfl rfl hm _ rfl _ (unhide HV) false (unhide HF) ?_)
        go_wp2
        go_ret
        exact ⟨rfl, unhide HD⟩
      | true =>
        rw [hg] at HF
        rw [show d.rnE a b = d.doE by simp [Dk.rnE, hbr, badN_0 hd hg], show d.rnD a b = d.doD (.rn a b) by simp [Dk.rnD, hbr, badN_0 hd hg]]
        have cl := clone_any a w (by omega)
        have cl2 := fun W => clone_any b W (by omega)
        have ad' := fun W (hk : Kp [] w W) => add_any (.rn a b) p d F W (h.kp hk (by simp)) (can_rn h.inv.now h.nodup hg hd2)
        have CL := hide cl
        have CL2 := hide cl2
        have AD := hide ad'
        clear h nm nm2 hd hd2 hW hf hv hl hg cl cl2 ad' hbr
        generalize (hasF d.now a).length = H at *
        go_enter Tryz.func64, Tryz.ntmps64
        go_wp2_with fail
        refine (unhide NM).mono ?_
        rintro e w1 ⟨rfl, rfl⟩
        go_wp2_with fail
        refine (unhide NM2).mono ?_
        rintro e w2 ⟨rfl, rfl⟩
        go_wp2_with (at_lookup; refine wpList_lookOk rfl _ _ rfl rfl hm _ rfl _ (unhide HV) true (unhide HF) ?_)
        refine (unhide CL).mono ?_
        rintro e w3 ⟨rfl, hb3⟩
        clear c1
        go_wp2_with fail
        refine (unhide CL2 w3).mono ?_
        rintro e w4 ⟨rfl, hb4⟩
        have hk4 := (Kp.ofBelow hb3).trans (Kp.ofBelow hb4) (by simp)
        go_wp2_with fail
        refine (unhide AD w4 hk4).mono ?_
        rintro e w5 ⟨rfl, hd5⟩
        have HD := hide (Did.pre hk4 hd5)
        clear hd5 hm
        go_wp2
        go_ret
        exact ⟨rfl, unhide HD⟩
end Go.Proofs.YtdmckgcbmbhmmaaGreatDoor
namespace Go.Proofs.YtdmckgcbmbhmmaaGreatDoor
open Go.RowKit

/-- A disk's blocks are none of another type. -/
theorem DiskAt.no {w : World} {p : Nat} {d : Dk} {F : List Nat} (h : DiskAt w p d F) {k : Nat} {cur : Array Value} {t : TypeId} {f : Nat × Nat} (hk : w.heap[k]? = some (.cells cur t f)) (h1 : t ≠ 5) (h2 : t ≠ 88) (h3 : t ≠ 58) : k ∉ F := by
  obtain ⟨bs, bn, wv, Ls, Ln, ha, rfl, _⟩ := h
  intro hm
  unfold foot at hm
  rw [List.mem_cons, List.mem_cons, List.mem_cons, List.mem_append, List.mem_append] at hm
  have hb : w.heap[p]? = some (.cells (dkC bs bn wv d.left d.down) 58 (0, 0)) := ha.box
  rcases hm with rfl | rfl | rfl | hm | hm | hm
  · rw [hb] at hk; injection hk with e; injection e with _ e; exact h3 e.symm
  · obtain ⟨l, c, m, _⟩ := ha.safe
    rw [m.here] at hk; cases hk
  · obtain ⟨l, c, m, _⟩ := ha.now
    rw [m.here] at hk; cases hk
  · obtain ⟨cur', e⟩ := ha.wait.block (by simpa using hm)
    rw [e] at hk; injection hk with e; injection e with _ e; exact h2 e.symm
  · obtain ⟨_, cur', e⟩ := ha.safe.rows hm
    rw [e] at hk; injection hk with e; injection e with _ e; exact h1 e.symm
  · obtain ⟨_, cur', e⟩ := ha.now.rows hm
    rw [e] at hk; injection hk with e; injection e with _ e; exact h1 e.symm
/-- What else stays: all cells of other types, but some blocks. -/
structure Oth (X : List Nat) (w w' : World) : Prop where
  os : w'.os = w.os
  tape : w'.tape = w.tape
  output : w'.output = w.output
  size : w.heap.size ≤ w'.heap.size
  block : ∀ k cur t f, w.heap[k]? = some (.cells cur t f) → t ≠ 5 → t ≠ 88 → t ≠ 58 → k ∉ X → w'.heap[k]? = some (.cells cur t f)
theorem Oth.refl (X : List Nat) (w : World) : Oth X w w := ⟨rfl, rfl, rfl, Nat.le_refl _, fun _ _ _ _ h _ _ _ _ => h⟩
theorem Oth.trans {X : List Nat} {a b c : World} (h : Oth X a b) (k : Oth X b c) : Oth X a c :=
  ⟨k.os.trans h.os, k.tape.trans h.tape, k.output.trans h.output, Nat.le_trans h.size k.size, fun i cur t f hi h1 h2 h3 hn => k.block i cur t f (h.block i cur t f hi h1 h2 h3 hn) h1 h2 h3 hn⟩
theorem Oth.mono {X Y : List Nat} {a b : World} (h : Oth X a b) (hY : ∀ x ∈ X, x ∈ Y) : Oth Y a b := ⟨h.os, h.tape, h.output, h.size, fun i cur t f hi h1 h2 h3 hn => h.block i cur t f hi h1 h2 h3 (fun hm => hn (hY i hm))⟩
theorem Oth.of {w w' : World} (h : Kp [] w w') (X : List Nat) : Oth X w w' := ⟨h.os, h.tape, h.output, h.size, fun i _ _ _ hi _ _ _ _ => (h.block i (Array.getElem?_eq_some_iff.1 hi).1 (by simp)).trans hi⟩
theorem Oth.disk {w w' : World} {p : Nat} {d : Dk} {F X : List Nat} (hd : DiskAt w p d F) (h : Kp (X ++ F) w w') : Oth X w w' :=
  ⟨h.os, h.tape, h.output, h.size, fun i _ _ _ hi h1 h2 h3 hn => (h.block i (Array.getElem?_eq_some_iff.1 hi).1 (by
    rw [List.mem_append]
    rintro (e | e)
    · exact hn e
    · exact hd.no hi h1 h2 h3 e)).trans hi⟩
theorem CBox.oth {g : Nat} {cs : Array Value} {t : TypeId} {w w' : World} {X : List Nat} (h : CBox g cs t w) (hk : Oth X w w') (h1 : t ≠ 5) (h2 : t ≠ 88) (h3 : t ≠ 58) (hg : g ∉ X) : CBox g cs t w' := hk.block g _ _ _ h h1 h2 h3 hg
section
variable {w0 w w' : World} {p : Nat} {d d' : Dk}
theorem OwnD.did2 (h : OwnD w0 w p d) (hn : ∀ F, DiskAt w p d F → Did w F p d' w') : OwnD w0 w' p d' ∧ Oth [] w w' := by
  refine ⟨h.did hn, ?_⟩
  obtain ⟨F, hd, h1, h2⟩ := h
  obtain ⟨F', hd', hk, hF'⟩ := hn F hd
  exact Oth.disk hd hk
theorem OwnD.stp2 {f : Nat} {args : Array Value} {r : Ending} (h : OwnD w0 w p d) (hc : ∀ F, DiskAt w p d F → Calls Tryz.prog f args w fun e w' => e = r ∧ Did w F p d' w') : Calls Tryz.prog f args w fun e w' => e = r ∧ OwnD w0 w' p d' ∧ Oth [] w w' := by
  obtain ⟨F, hd, h1, h2⟩ := h
  refine (hc F hd).mono fun e w' hh => ⟨hh.1, ?_⟩
  obtain ⟨F', hd', h3, h4⟩ := hh.2
  refine ⟨⟨F', hd', h1.trans h3 (fun x hx => Or.inr (h2 x hx)), fun k hk => ?_⟩, Oth.disk hd h3⟩
  rcases h4 k hk with h5 | h5
  · exact h2 k h5
  · have := h1.size; omega
end
end Go.Proofs.YtdmckgcbmbhmmaaGreatDoor
namespace Go.Proofs.YtdmckgcbmbhmmaaGreatDoor
open Go.RowKit

section
variable {w0 w : World} {p : Nat} {d : Dk}
theorem OwnD.rm2 (h : OwnD w0 w p d) (n : ByteArray) (hn : n.size ≤ 9223372036854775807) :
    Calls Tryz.prog 60 #[.pointer (some ⟨p, 0, none⟩), .string n] w fun e w' => e = .returned (.int .i64 (d.rmE n)) ∧ OwnD w0 w' p (d.rmD n) ∧ Oth [] w w' := h.stp2 fun F hd => remove_any n p d F w hd hn
theorem OwnD.rn2 (h : OwnD w0 w p d) (a b : ByteArray) (ha : a.size ≤ 9223372036854775807) (hb : b.size ≤ 9223372036854775807) :
    Calls Tryz.prog 64 #[.pointer (some ⟨p, 0, none⟩), .string a, .string b] w fun e w' => e = .returned (.int .i64 (d.rnE a b)) ∧ OwnD w0 w' p (d.rnD a b) ∧ Oth [] w w' := h.stp2 fun F hd => rename_any a b p d F w hd ha hb
theorem OwnD.wr2 (h : OwnD w0 w p d) (n : ByteArray) (m : Int) (s : ByteArray) (hn : n.size ≤ 9223372036854775807) (hm0 : -9223372036854775808 ≤ m) (hm1 : m ≤ 9223372036854775807) (hs : s.size ≤ 9223372036854775807) :
    Calls Tryz.prog 20 #[.pointer (some ⟨p, 0, none⟩), .string n, .int .i64 m, .string s] w fun e w' => e = .returned (.int .i64 (d.wrE n m s)) ∧ OwnD w0 w' p (d.wrD n m s) ∧ Oth [] w w' := h.stp2 fun F hd => write_any n m s p d F w hd hn hm0 hm1 hs
theorem OwnD.sy2 (h : OwnD w0 w p d) : Calls Tryz.prog 42 #[.pointer (some ⟨p, 0, none⟩)] w fun e w' => e = .returned (.int .i64 d.sy.1) ∧ OwnD w0 w' p d.sy.2 ∧ Oth [] w w' := h.stp2 fun F hd => sync_any p d F w hd
set_option maxHeartbeats 1000000 in
set_option maxRecDepth 100000 in
theorem anew_any (h : OwnD w0 w p d) (n b : ByteArray) (hn : n.size ≤ 9223372036854775807) (hb : b.size ≤ 9223372036854775807) :
    Calls Tryz.prog 30 #[.pointer (some ⟨p, 0, none⟩), .string n, .string b] w fun e w' => e = .returned (.int .i64 (d.anew n b).1) ∧ OwnD w0 w' p (d.anew n b).2 ∧ Oth [] w w' := by
  have RM := hide (h.rm2 n hn)
  have WR := hide (fun W (hw : OwnD w0 W p (d.rmD n)) => hw.wr2 n 0 b hn (by decide) (by decide) hb)
  have hA : d.anew n b = if d.rmE n = 0 ∨ d.rmE n = 5 then ((d.rmD n).wrE n 0 b, (d.rmD n).wrD n 0 b) else (d.rmE n, d.rmD n) := rfl
  generalize d.anew n b = A at *
  generalize d.rmD n = d1 at *
  generalize d.rmE n = E at *
  generalize d1.wrD n 0 b = d2 at *
  generalize d1.wrE n 0 b = E2 at *
  clear h
  by_cases hE : E = 0 ∨ E = 5
  · rw [if_pos hE] at hA
    subst hA
    dsimp only
    rcases hE with rfl | rfl
    all_goals
      go_enter Tryz.func30, Tryz.ntmps30
      go_wp2_with fail
      refine (unhide RM).mono ?_
      rintro e w1 ⟨rfl, o1, t1⟩
      go_wp2_with fail
      refine (unhide WR w1 o1).mono ?_
      rintro e w2 ⟨rfl, o2, t2⟩
      have O2 := hide (And.intro o2 (t1.trans t2))
      clear o1 o2 t1 t2
      go_wp2
      go_ret
      exact ⟨rfl, unhide O2⟩
  · rw [if_neg hE] at hA
    subst hA
    dsimp only
    have n0 : (E != 0) = true := by rw [bne_iff_ne]; exact fun e => hE (Or.inl e)
    have n5 : (E != 5) = true := by rw [bne_iff_ne]; exact fun e => hE (Or.inr e)
    clear hE
    go_enter Tryz.func30, Tryz.ntmps30
    go_wp2_with fail
    refine (unhide RM).mono ?_
    rintro e w1 ⟨rfl, o1⟩
    have O1 := hide o1
    clear o1
    go_wp2
    go_ret
    exact ⟨rfl, unhide O1⟩
end
theorem encS_small (l : List It) : (encS l).size ≤ 262144 := by
  unfold encS
  split
  · rename_i h
    show (List.toArray _).size ≤ _
    rw [List.size_toArray]
    unfold encE at h
    split at h
    · cases h
    · split at h
      · cases h
      · split at h
        · cases h
        · omega
  · exact Nat.zero_le _
theorem mfI_at (w : World) (c t : Int) (s : ByteArray) : ItemsAt (w.alloc (.cells #[.bool false, .int .i64 c, .string ⟨#[]⟩, .bool false, .int .i64 t, .string ⟨#[]⟩, .bool true, .int .i64 0, .string s] 118)) (some ⟨w.heap.size, 0, none⟩) (mfI c t s) := by
  intro _
  refine ⟨_, _, rfl, by simp, fun i hi => ?_⟩
  match i, hi with
  | 0, _ => simp [mfI]
  | 1, _ => simp [mfI]
  | 2, _ => simp [mfI]
set_option maxHeartbeats 1000000 in
set_option maxRecDepth 100000 in
theorem mfFrame_any (c t : Int) (s : ByteArray) (w : World) (hT : TabW w) (hc : -9223372036854775808 ≤ c ∧ c < 9223372036854775808) (ht : -9223372036854775808 ≤ t ∧ t < 9223372036854775808) (hs : s.size ≤ 9223372036854775807) :
    Calls Tryz.prog 63 #[.agg #[.int .i64 c, .int .i64 t, .string s]] w fun e w' => e = .returned (.string (mfB c t s)) ∧ Kp [] w w' := by
  have k0 := Kp.alloc w (.cells #[.int .i64 c, .int .i64 t, .string s] 64)
  have mb := CBox.new w #[.int .i64 c, .int .i64 t, .string s] 64
  have m0 := mb.cell (i := 0) (v := .int .i64 c) rfl
  have m1 := mb.cell (i := 1) (v := .int .i64 t) rfl
  have m2 := mb.cell (i := 2) (v := .string s) rfl
  have k1 := k0.trans (Kp.alloc (w.alloc (.cells #[.int .i64 c, .int .i64 t, .string s] 64)) (.cells #[.bool false, .int .i64 c, .string ⟨#[]⟩, .bool false, .int .i64 t, .string ⟨#[]⟩, .bool true, .int .i64 0, .string s] 118)) (by simp)
  have en := (encode_any (some ⟨(w.alloc (.cells #[.int .i64 c, .int .i64 t, .string s] 64)).heap.size, 0, none⟩) 3 (mfI c t s) _ (by show (3 : Nat) ≤ _; decide) (mfI_at (w.alloc (.cells #[.int .i64 c, .int .i64 t, .string s] 64)) c t s) (fun x hx => by
    unfold mfI at hx
    simp only [List.mem_cons, List.not_mem_nil, or_false] at hx
    rcases hx with rfl | rfl | rfl
    · exact ⟨hc.1, hc.2, by show (0 : Nat) ≤ _; decide⟩
    · exact ⟨ht.1, ht.2, by show (0 : Nat) ≤ _; decide⟩
    · exact ⟨by show (_ : Int) ≤ 0; decide, by show (0 : Int) < _; decide, hs⟩))
  have hsw : (w.alloc (.cells #[.int .i64 c, .int .i64 t, .string s] 64)).heap.size = w.heap.size + 1 := by simp
  rw [hsw] at en
  have EN := hide en
  clear en hsw
  have hsz := encS_small (mfI c t s)
  have FR := hide (fun W (hw : TabW W) => frame_any (encS (mfI c t s)) W (by omega) hw)
  have hB : mfB c t s = frS (encS (mfI c t s)) := rfl
  have HT := hide hT
  have K1 := hide k1
  have hl : (mfI c t s).length = 3 := rfl
  rw [hl] at EN
  generalize mfB c t s = B at *
  generalize frS (encS (mfI c t s)) = B' at *
  subst hB
  generalize frE (encS (mfI c t s)) = fe at *
  generalize encE (mfI c t s) = ee at *
  generalize encS (mfI c t s) = es at *
  clear k0 mb k1 hT hc ht hsz hl
  go_enter Tryz.func63, Tryz.ntmps63
  go_wp2_with fail
  refine (unhide EN).mono ?_
  rintro e w1 ⟨rfl, hb⟩
  have K2 := hide ((unhide K1).trans (Kp.ofBelow hb) (by simp))
  clear hb K1 EN
  go_wp2_with fail
  refine (unhide FR w1 ((unhide HT).kp' (unhide K2))).mono ?_
  rintro e w2 ⟨rfl, hb⟩
  have K3 := hide ((unhide K2).trans (Kp.ofBelow hb) (by simp))
  clear hb
  go_wp2
  go_ret
  exact ⟨rfl, unhide K3⟩
theorem mfB_small (c t : Int) (s : ByteArray) : (mfB c t s).size ≤ 262154 := by
  have h := encS_small (mfI c t s)
  unfold mfB frS
  split
  · exact Nat.zero_le _
  · show (List.toArray _).size ≤ _
    rw [List.size_toArray, frameL_len, Array.length_toList]
    show (encS (mfI c t s)).size + 10 ≤ _
    omega
set_option maxHeartbeats 2000000 in
set_option maxRecDepth 100000 in
theorem place_any {w0 w : World} {p : Nat} {d : Dk} (h : OwnD w0 w p d) (hT : TabW w0) (c t : Int) (s : ByteArray) (hc : -9223372036854775808 ≤ c ∧ c < 9223372036854775808) (ht : -9223372036854775808 ≤ t ∧ t < 9223372036854775808) (hs : s.size ≤ 9223372036854775807) :
    Calls Tryz.prog 33 #[.pointer (some ⟨p, 0, none⟩), .agg #[.int .i64 c, .int .i64 t, .string s]] w fun e w' => e = .returned (.int .i64 (d.place (mfB c t s)).1) ∧ OwnD w0 w' p (d.place (mfB c t s)).2 ∧ Oth [] w w' := by
  have k0 := Kp.alloc w (.cells #[.int .i64 c, .int .i64 t, .string s] 64)
  have mb := CBox.new w #[.int .i64 c, .int .i64 t, .string s] 64
  have h0 := h.kp k0
  have hbs := mfB_small c t s
  have SY := hide (h0.sy2)
  have FR := hide (fun W (hw : Kp [] w0 W) => mfFrame_any c t s W (hT.kp' hw) hc ht hs)
  have AN := hide (fun W (hw : OwnD w0 W p d.sy.2) => anew_any hw mNew (mfB c t s) (by decide) (by omega))
  have MB := hide (fun W (o : Oth [] (w.alloc (.cells #[.int .i64 c, .int .i64 t, .string s] 64)) W) => mb.oth o (by decide) (by decide) (by decide) (by simp))
  have T0 := hide (Oth.of k0 [])
  clear k0 mb h0 h hT hc ht hs hbs
  unfold Dk.place
  generalize mfB c t s = B at *
  generalize d.sy = R1 at *
  obtain ⟨E1, d1⟩ := R1
  dsimp only at SY AN
  by_cases h1 : E1 = 0
  · subst h1
    rw [show bnd ((0 : Int), d1) (fun d1 => bnd (d1.anew mNew B) fun d2 => bnd d2.sy fun d3 => bnd (d3.rn mNew mNm) Dk.sy) = bnd (d1.anew mNew B) fun d2 => bnd d2.sy fun d3 => bnd (d3.rn mNew mNm) Dk.sy from rfl]
    generalize d1.anew mNew B = R2 at *
    obtain ⟨E2, d2⟩ := R2
    dsimp only at AN
    have SY2 := hide (fun W (hw : OwnD w0 W p d2) => hw.sy2)
    by_cases h2 : E2 = 0
    · subst h2
      rw [show bnd ((0 : Int), d2) (fun d2 => bnd d2.sy fun d3 => bnd (d3.rn mNew mNm) Dk.sy) = bnd d2.sy fun d3 => bnd (d3.rn mNew mNm) Dk.sy from rfl]
      generalize d2.sy = R3 at *
      obtain ⟨E3, d3⟩ := R3
      dsimp only at SY2
      have RN := hide (fun W (hw : OwnD w0 W p d3) => show Calls Tryz.prog _ _ W fun e w' => e = .returned (.int .i64 (d3.rn mNew mNm).1) ∧ OwnD w0 w' p (d3.rn mNew mNm).2 ∧ Oth [] W w' from hw.rn2 mNew mNm (by decide) (by decide))
      by_cases h3 : E3 = 0
      · subst h3
        rw [show bnd ((0 : Int), d3) (fun d3 => bnd (d3.rn mNew mNm) Dk.sy) = bnd (d3.rn mNew mNm) Dk.sy from rfl]
        generalize d3.rn mNew mNm = R4 at *
        obtain ⟨E4, d4⟩ := R4
        dsimp only at RN
        have SY3 := hide (fun W (hw : OwnD w0 W p d4) => hw.sy2)
        by_cases h4 : E4 = 0
        · subst h4
          rw [show bnd ((0 : Int), d4) Dk.sy = d4.sy from rfl]
          generalize d4.sy = R5 at *
          obtain ⟨E5, d5⟩ := R5
          dsimp only at SY3 ⊢
          go_enter Tryz.func33, Tryz.ntmps33
          go_wp2_with fail
          refine (unhide SY).mono ?_
          rintro e w1 ⟨rfl, o1, t1⟩
          have b1 := unhide MB w1 t1
          have c0 := b1.cell (i := 0) (v := .int .i64 c) rfl
          have c1 := b1.cell (i := 1) (v := .int .i64 t) rfl
          have c2 := b1.cell (i := 2) (v := .string s) rfl
          have T1 := hide ((unhide T0).trans t1)
          have O1 := hide o1
          clear b1 o1 t1 T0 SY MB
          go_wp2_with fail
          refine (unhide FR w1 (unhide O1).bel).mono ?_
          rintro e w2 ⟨rfl, k2⟩
          have T2 := hide ((unhide T1).trans (Oth.of k2 []))
          have O2 := hide ((unhide O1).kp k2)
          clear k2 T1 O1 FR c0 c1 c2
          go_wp2_with fail
          refine (unhide AN w2 (unhide O2)).mono ?_
          rintro e w3 ⟨rfl, o3, t3⟩
          have T3 := hide ((unhide T2).trans t3)
          have O3 := hide o3
          clear o3 t3 T2 O2 AN
          go_wp2_with fail
          refine (unhide SY2 w3 (unhide O3)).mono ?_
          rintro e w4 ⟨rfl, o4, t4⟩
          have T4 := hide ((unhide T3).trans t4)
          have O4 := hide o4
          clear o4 t4 T3 O3 SY2
          go_wp2_with fail
          refine (unhide RN w4 (unhide O4)).mono ?_
          rintro e w5 ⟨rfl, o5, t5⟩
          have T5 := hide ((unhide T4).trans t5)
          have O5 := hide o5
          clear o5 t5 T4 O4 RN
          go_wp2_with fail
          refine (unhide SY3 w5 (unhide O5)).mono ?_
          rintro e w6 ⟨rfl, o6, t6⟩
          have T6 := hide ((unhide T5).trans t6)
          have O6 := hide o6
          clear o6 t6 T5 O5 SY3
          go_wp2
          go_ret
          exact ⟨rfl, unhide O6, unhide T6⟩
        · rw [show bnd (E4, d4) Dk.sy = (E4, d4) from if_neg h4]
          have n4 : (E4 != 0) = true := by rw [bne_iff_ne]; exact h4
          dsimp only
          clear h4 SY3
          go_enter Tryz.func33, Tryz.ntmps33
          go_wp2_with fail
          refine (unhide SY).mono ?_
          rintro e w1 ⟨rfl, o1, t1⟩
          have b1 := unhide MB w1 t1
          have c0 := b1.cell (i := 0) (v := .int .i64 c) rfl
          have c1 := b1.cell (i := 1) (v := .int .i64 t) rfl
          have c2 := b1.cell (i := 2) (v := .string s) rfl
          have T1 := hide ((unhide T0).trans t1)
          have O1 := hide o1
          clear b1 o1 t1 T0 SY MB
          go_wp2_with fail
          refine (unhide FR w1 (unhide O1).bel).mono ?_
          rintro e w2 ⟨rfl, k2⟩
          have T2 := hide ((unhide T1).trans (Oth.of k2 []))
          have O2 := hide ((unhide O1).kp k2)
          clear k2 T1 O1 FR c0 c1 c2
          go_wp2_with fail
          refine (unhide AN w2 (unhide O2)).mono ?_
          rintro e w3 ⟨rfl, o3, t3⟩
          have T3 := hide ((unhide T2).trans t3)
          have O3 := hide o3
          clear o3 t3 T2 O2 AN
          go_wp2_with fail
          refine (unhide SY2 w3 (unhide O3)).mono ?_
          rintro e w4 ⟨rfl, o4, t4⟩
          have T4 := hide ((unhide T3).trans t4)
          have O4 := hide o4
          clear o4 t4 T3 O3 SY2
          go_wp2_with fail
          refine (unhide RN w4 (unhide O4)).mono ?_
          rintro e w5 ⟨rfl, o5, t5⟩
          have T5 := hide ((unhide T4).trans t5)
          have O5 := hide o5
          clear o5 t5 T4 O4 RN
          go_wp2
          go_ret
          exact ⟨rfl, unhide O5, unhide T5⟩
      · rw [show bnd (E3, d3) (fun d3 => bnd (d3.rn mNew mNm) Dk.sy) = (E3, d3) from if_neg h3]
        have n3 : (E3 != 0) = true := by rw [bne_iff_ne]; exact h3
        dsimp only
        clear h3 RN
        go_enter Tryz.func33, Tryz.ntmps33
        go_wp2_with fail
        refine (unhide SY).mono ?_
        rintro e w1 ⟨rfl, o1, t1⟩
        have b1 := unhide MB w1 t1
        have c0 := b1.cell (i := 0) (v := .int .i64 c) rfl
        have c1 := b1.cell (i := 1) (v := .int .i64 t) rfl
        have c2 := b1.cell (i := 2) (v := .string s) rfl
        have T1 := hide ((unhide T0).trans t1)
        have O1 := hide o1
        clear b1 o1 t1 T0 SY MB
        go_wp2_with fail
        refine (unhide FR w1 (unhide O1).bel).mono ?_
        rintro e w2 ⟨rfl, k2⟩
        have T2 := hide ((unhide T1).trans (Oth.of k2 []))
        have O2 := hide ((unhide O1).kp k2)
        clear k2 T1 O1 FR c0 c1 c2
        go_wp2_with fail
        refine (unhide AN w2 (unhide O2)).mono ?_
        rintro e w3 ⟨rfl, o3, t3⟩
        have T3 := hide ((unhide T2).trans t3)
        have O3 := hide o3
        clear o3 t3 T2 O2 AN
        go_wp2_with fail
        refine (unhide SY2 w3 (unhide O3)).mono ?_
        rintro e w4 ⟨rfl, o4, t4⟩
        have T4 := hide ((unhide T3).trans t4)
        have O4 := hide o4
        clear o4 t4 T3 O3 SY2
        go_wp2
        go_ret
        exact ⟨rfl, unhide O4, unhide T4⟩
    · rw [show bnd (E2, d2) (fun d2 => bnd d2.sy fun d3 => bnd (d3.rn mNew mNm) Dk.sy) = (E2, d2) from if_neg h2]
      have n2 : (E2 != 0) = true := by rw [bne_iff_ne]; exact h2
      dsimp only
      clear h2 SY2
      go_enter Tryz.func33, Tryz.ntmps33
      go_wp2_with fail
      refine (unhide SY).mono ?_
      rintro e w1 ⟨rfl, o1, t1⟩
      have b1 := unhide MB w1 t1
      have c0 := b1.cell (i := 0) (v := .int .i64 c) rfl
      have c1 := b1.cell (i := 1) (v := .int .i64 t) rfl
      have c2 := b1.cell (i := 2) (v := .string s) rfl
      have T1 := hide ((unhide T0).trans t1)
      have O1 := hide o1
      clear b1 o1 t1 T0 SY MB
      go_wp2_with fail
      refine (unhide FR w1 (unhide O1).bel).mono ?_
      rintro e w2 ⟨rfl, k2⟩
      have T2 := hide ((unhide T1).trans (Oth.of k2 []))
      have O2 := hide ((unhide O1).kp k2)
      clear k2 T1 O1 FR c0 c1 c2
      go_wp2_with fail
      refine (unhide AN w2 (unhide O2)).mono ?_
      rintro e w3 ⟨rfl, o3, t3⟩
      have T3 := hide ((unhide T2).trans t3)
      have O3 := hide o3
      clear o3 t3 T2 O2 AN
      go_wp2
      go_ret
      exact ⟨rfl, unhide O3, unhide T3⟩
  · rw [show bnd (E1, d1) (fun d1 => bnd (d1.anew mNew B) fun d2 => bnd d2.sy fun d3 => bnd (d3.rn mNew mNm) Dk.sy) = (E1, d1) from if_neg h1]
    have n1 : (E1 != 0) = true := by rw [bne_iff_ne]; exact h1
    dsimp only
    clear h1 AN FR MB
    go_enter Tryz.func33, Tryz.ntmps33
    go_wp2_with fail
    refine (unhide SY).mono ?_
    rintro e w1 ⟨rfl, o1, t1⟩
    have T1 := hide ((unhide T0).trans t1)
    have O1 := hide o1
    clear o1 t1 T0 SY
    go_wp2
    go_ret
    exact ⟨rfl, unhide O1, unhide T1⟩
end Go.Proofs.YtdmckgcbmbhmmaaGreatDoor
