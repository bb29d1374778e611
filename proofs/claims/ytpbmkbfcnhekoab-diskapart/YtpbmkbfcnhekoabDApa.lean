/-
  DiskApart: what happens to one file touches no other one: the law returns true, whatever the acts.
-/
import Derived.Test.YtpbmkbfcnhekoabAcIn
namespace Go.Proofs.Ytpbmkbfcnhekoab
open Go.RowKit

theorem getF_perm {a b : Fs} (hp : a.Perm b) (hn : (a.map (·.1)).Nodup) (n : ByteArray) : getF a n = getF b n := by
  have hnb : (b.map (·.1)).Nodup := (hp.map _).nodup_iff.1 hn
  cases h : getF b n with
  | none =>
    refine getF_none fun hm => ?_
    obtain ⟨q, hq, he⟩ := List.mem_map.1 hm
    have := getF_mem hnb (n := n) (d := q.2) (by rw [← he]; exact hp.mem_iff.1 hq)
    rw [h] at this; cases this
  | some d => exact getF_mem hn (hp.mem_iff.2 (getF_some h))
theorem getF_without_ne {fs : Fs} (hn : (fs.map (·.1)).Nodup) {m n : ByteArray} (hne : n ≠ m) : getF (without fs m) n = getF fs n := by
  cases h : getF fs n with
  | none =>
    refine getF_none fun hm => ?_
    obtain ⟨q, hq, he⟩ := List.mem_map.1 hm
    have := getF_mem hn (n := n) (d := q.2) (by rw [← he]; exact (List.mem_filter.1 hq).1)
    rw [h] at this; cases this
  | some d => exact getF_mem (nodup_without hn m) (List.mem_filter.2 ⟨getF_some h, by simpa using hne⟩)
theorem nodup_with {fs : Fs} (hn : (fs.map (·.1)).Nodup) (n : ByteArray) (d : List UInt8) : ((withF fs n d).map (·.1)).Nodup := nodup_made hn (.wr n 0 ⟨#[]⟩) |> fun _ => by
  refine ((withF_perm fs n d).map (·.1)).nodup_iff.2 ?_
  rw [List.map_cons, List.nodup_cons]
  refine ⟨fun hm => ?_, nodup_without hn n⟩
  obtain ⟨q, hq, he⟩ := List.mem_map.1 hm
  have := (List.mem_filter.1 hq).2
  simp [he] at this
theorem getF_with {fs : Fs} (hn : (fs.map (·.1)).Nodup) (m n : ByteArray) (d : List UInt8) : getF (withF fs m d) n = if n = m then some d else getF fs n := by
  have hw := nodup_with hn m d
  rw [getF_perm (withF_perm fs m d) hw]
  by_cases h : n = m
  · subst h
    rw [if_pos rfl]
    unfold getF
    rw [List.find?_cons_of_pos (by simp)]; rfl
  · rw [if_neg h, ← getF_without_ne hn h]
    unfold getF
    rw [List.find?_cons_of_neg (by simpa using Ne.symm h)]
/-- The names that a change touches. -/
def touch : Chg → ByteArray → Prop
  | .wr n _ _, x => x = n
  | .ct n _, x => x = n
  | .rn a b, x => x = a ∨ x = b
  | .rm n, x => x = n
theorem getF_made {fs : Fs} (hn : (fs.map (·.1)).Nodup) (c : Chg) (x : ByteArray) (hx : ¬ touch c x) : getF (made fs c) x = getF fs x := by
  cases c with
  | wr n pos d => exact (getF_with hn n x _).trans (if_neg hx)
  | ct n len => exact (getF_with hn n x _).trans (if_neg hx)
  | rn a b =>
    have h1 : x ≠ a := fun e => hx (Or.inl e)
    have h2 : x ≠ b := fun e => hx (Or.inr e)
    exact ((getF_with (nodup_without hn a) b x _).trans (if_neg h2)).trans (getF_without_ne hn h1)
  | rm n => exact getF_without_ne hn hx
theorem doD_now (d : Dk) (c : Chg) : (d.doD c).now = d.now ∨ (d.doD c).now = made d.now c := by
  unfold Dk.doD
  split
  · exact Or.inl rfl
  · split
    · exact Or.inr rfl
    · exact Or.inl (ready_now d).1
theorem doD_get {d : Dk} (hn : (d.now.map (·.1)).Nodup) (c : Chg) (x : ByteArray) (hx : ¬ touch c x) : getF (d.doD c).now x = getF d.now x := by
  rcases doD_now d c with h | h
  · rw [h]
  · rw [h]; exact getF_made hn c x hx
def sO : ByteArray := ⟨#[111, 116, 104, 101, 114]⟩
def Has (o : ByteArray) (d : Dk) : Prop := getF d.now ⟨#[111, 116, 104, 101, 114]⟩ = some o.data.toList
section
variable {d : Dk} {o : ByteArray} (h : Has o d) (hn : (d.now.map (·.1)).Nodup)
include h hn
theorem has_do (c : Chg) (hc : ¬ touch c ⟨#[111, 116, 104, 101, 114]⟩) : Has o (d.doD c) := (doD_get hn c _ hc).trans h
theorem has_wr (n : ByteArray) (m : Int) (s : ByteArray) (hne : n ≠ ⟨#[111, 116, 104, 101, 114]⟩) : Has o (d.wrD n m s) := by
  unfold Dk.wrD
  split
  · exact has_do h hn _ (fun e => hne e.symm)
  · exact h
theorem has_ct (n : ByteArray) (m : Int) (hne : n ≠ ⟨#[111, 116, 104, 101, 114]⟩) : Has o (d.ctD n m) := by
  unfold Dk.ctD
  split
  · exact has_do h hn _ (fun e => hne e.symm)
  · exact h
theorem has_rm (n : ByteArray) (hne : n ≠ ⟨#[111, 116, 104, 101, 114]⟩) : Has o (d.rmD n) := by
  unfold Dk.rmD
  split
  · exact has_do h hn _ (fun e => hne e.symm)
  · exact h
theorem has_rn (a b : ByteArray) (ha : a ≠ ⟨#[111, 116, 104, 101, 114]⟩) (hb : b ≠ ⟨#[111, 116, 104, 101, 114]⟩) : Has o (d.rnD a b) := by
  unfold Dk.rnD
  split
  · exact has_do h hn _ (fun e => e.elim (fun e => ha e.symm) (fun e => hb e.symm))
  · exact h
omit hn in
theorem has_rd : d.rdE ⟨#[111, 116, 104, 101, 114]⟩ = 0 ∧ d.rdS ⟨#[111, 116, 104, 101, 114]⟩ = o := by
  have hd : dnm ⟨#[111, 116, 104, 101, 114]⟩ = true := by decide
  have h' : getF d.now ⟨#[111, 116, 104, 101, 114]⟩ = some o.data.toList := h
  have e := badN_0 (d := d) hd (by rw [h']; rfl)
  refine ⟨e, ?_⟩
  unfold Dk.rdS hasF
  rw [if_pos e, h']
  show (⟨o.data.toList.toArray⟩ : ByteArray) = o
  apply ByteArray.ext
  simp
end
theorem has_first (o : ByteArray) (ho : o.size ≤ 1000) : Dk.new.wrE ⟨#[111, 116, 104, 101, 114]⟩ 0 o = 0 ∧ Has o (Dk.new.wrD ⟨#[111, 116, 104, 101, 114]⟩ 0 o) := by
  have hbad : Dk.new.badW ⟨#[111, 116, 104, 101, 114]⟩ 0 o = 0 := by
    unfold Dk.badW
    rw [if_neg (by decide), if_neg (by decide), if_neg]
    have h1 : (hasF Dk.new.now ⟨#[111, 116, 104, 101, 114]⟩).length = 0 := rfl
    have h2 : total Dk.new.now = 0 := rfl
    have h3 : Dk.new.now.length = 0 := rfl
    simp only [Dk.fullW, Dk.grows, h1, h2, h3]
    simp
    omega
  refine ⟨by rw [Dk.wrE, if_pos hbad]; rfl, ?_⟩
  rw [Dk.wrD, if_pos hbad]
  show some (over [] 0 o.data.toList) = _
  simp [over]
set_option maxHeartbeats 8000000 in
set_option maxRecDepth 100000 in
theorem apart_walk (ad : Option Addr) (cap : Nat) (l : List Ac) (o : ByteArray) (w : World) (hl : l.length ≤ 9223372036854775807) (hA : ActsAt w ad l) (hok : ∀ y ∈ l, y.ok) (ho : o.size ≤ 9223372036854775807) :
    Calls Try.prog 3 #[.slice ad l.length cap, .string o] w fun e w' => e = .returned (.bool true) ∧ Below w.heap.size w w' := by
  have WK := hide works_any
  by_cases hlong : 1000 < o.size
  · have g1 : (1000 : Int) < (o.size : Int) := by omega
    clear hlong hA hok
    go_enter Try.func3, Try.ntmps3
    go_wp2_with fail
    refine (new_own _).mono ?_
    rintro e w1 ⟨p, rfl, o1⟩
    go_wp2_with fail
    refine (unhide WK w1).mono ?_
    rintro e w2 ⟨rfl, hk2⟩
    have hfin : Below w.heap.size w w2 := (o1.bel.trans hk2 (by simp)).below (Nat.le_refl _) (by simp)
    clear o1 hk2
    go_wp2
    go_ret
    exact ⟨rfl, hfin⟩
  · have g1 : ¬ ((1000 : Int) < (o.size : Int)) := by omega
    have hf := has_first o (by omega)
    have s1 : ∀ W p, OwnD w W p Dk.new → Calls Try.prog 6 #[.pointer (some ⟨p, 0, none⟩), .string ⟨#[111, 116, 104, 101, 114]⟩, .int .i64 0, .string o] W fun e w' => e = .returned (.int .i64 0) ∧ ∃ d, OwnD w w' p d ∧ Has o d := fun W p h => by
      have := h.write ⟨#[111, 116, 104, 101, 114]⟩ 0 o (by decide) (by decide) (by decide) (by omega)
      rw [hf.1] at this
      exact this.mono fun e w' hh => ⟨hh.1, _, hh.2, hf.2⟩
    have S1 := hide s1
    have HA := hide hA
    have HOK := hide hok
    clear s1 hf hA hok hlong
    go_enter Try.func3, Try.ntmps3
    go_wp2_with fail
    refine (new_own _).mono ?_
    rintro e w1 ⟨p, rfl, o1⟩
    go_wp2_with fail
    refine (unhide WK w1).mono ?_
    rintro e w2 ⟨rfl, hk2⟩
    have o2 := o1.kp hk2
    clear o1 hk2
    go_wp2_with fail
    refine (unhide S1 w2 p o2).mono ?_
    rintro e w3 ⟨rfl, d3, o3, h3⟩
    have H3 := hide h3
    clear h3 o2
    go_wp2
    go_loopw [6, 7, 8, 9] (fun i _ _ _ wr => ∃ (k : Nat) (d : Dk), k ≤ l.length ∧ i = .int .i64 (k : Int) ∧ OwnD w wr p d ∧ Hid (Has o d)) (fun i _ _ _ _ => l.length - (intOf i).toNat)
    case atStart => exact ⟨0, d3, by omega, rfl, o3, H3⟩
    case round =>
      clear o3 H3
      obtain ⟨k, d, hk, rfl, ow, HH⟩ := hrel
      by_cases hlt : k < l.length
      · by_cases h60 : k < 60
        · have hli : (k : Int) < (l.length : Int) := by omega
          have h60i : (k : Int) < 60 := by omega
          have hA' := (unhide HA).kp ow.bel
          obtain ⟨b, off, rfl, hbw, hc⟩ := hA' (fun e => by rw [e] at hlt; simp at hlt)
          have hy := unhide HOK l[k] (List.getElem_mem hlt)
          have hcs := hc k hlt
          obtain ⟨⟨b1, b2⟩, b3, b4, ⟨b5, b6⟩, b7, b8⟩ := hy
          obtain ⟨ac, hac⟩ : ∃ ac, l[k] = ac := ⟨_, rfl⟩
          rw [hac] at hcs b1 b2 b3 b4 b5 b6
          clear hac hc hA'
          obtain ⟨kind, nm, to, pos, n⟩ := ac
          dsimp only at hcs b1 b2 b3 b4 b5 b6
          have hkb := Kp.alloc wr (.cells #[.int .i64 kind, .string nm, .string to, .int .i64 pos, .int .i64 n] 29)
          have bx := CBox.new wr #[.int .i64 kind, .string nm, .string to, .int .i64 pos, .int .i64 n] 29
          have ow2 := ow.kp hkb
          have hnd := ow.nodup
          clear hkb ow
          by_cases n1 : nm.toList = [111, 116, 104, 101, 114]
          · skip
            go_wp2
            go_roundw
            case rel => exact ⟨k + 1, d, by omega, by go_num, ow2, HH⟩
            case measure => simp [intOf]; omega
          by_cases n2 : to.toList = [111, 116, 104, 101, 114]
          · skip
            go_wp2
            go_roundw
            case rel => exact ⟨k + 1, d, by omega, by go_num, ow2, HH⟩
            case measure => simp [intOf]; omega
          by_cases n3 : (1000 : Int) < (to.size : Int)
          · skip
            go_wp2
            go_roundw
            case rel => exact ⟨k + 1, d, by omega, by go_num, ow2, HH⟩
            case measure => simp [intOf]; omega
          have hn1 : nm ≠ ⟨#[111, 116, 104, 101, 114]⟩ := fun e => n1 (by rw [e]; simp [ByteArray.toList_eq])
          have hn2 : to ≠ ⟨#[111, 116, 104, 101, 114]⟩ := fun e => n2 (by rw [e]; simp [ByteArray.toList_eq])
          have am := fun W => among_any kind 4 W (by decide) (by decide)
          have r0 := Int.emod_nonneg kind (by decide : (4 : Int) ≠ 0)
          have r1 := Int.emod_lt_of_pos kind (by decide : (0 : Int) < 4)
          have AM := hide am
          clear am
          have hcl : ∀ W, Kp [] (wr.alloc (.cells #[.int .i64 kind, .string nm, .string to, .int .i64 pos, .int .i64 n] 29)) W → W.cell? ⟨wr.heap.size, 0, none⟩ = some (.int .i64 kind) ∧ W.cell? ⟨wr.heap.size, 1, none⟩ = some (.string nm) ∧ W.cell? ⟨wr.heap.size, 2, none⟩ = some (.string to) ∧ W.cell? ⟨wr.heap.size, 3, none⟩ = some (.int .i64 pos) := fun W hk => by
            have b := bx.kp hk (by simp)
            exact ⟨b.cell rfl, b.cell rfl, b.cell rfl, b.cell rfl⟩
          have HCL := hide hcl
          have hfr : ∀ (d' : Dk) W', OwnD w W' p d' → Has o d' → Calls Try.prog 11 #[.pointer (some ⟨p, 0, none⟩), .string ⟨#[111, 116, 104, 101, 114]⟩] W' fun e w' => e = .returned (.tuple #[.string o, .int .i64 0]) ∧ w' = W' := fun d' W' h hh => by
            have := h.read ⟨#[111, 116, 104, 101, 114]⟩ (by decide)
            rw [(has_rd hh).1, (has_rd hh).2] at this; exact this
          have HFR := hide hfr
          clear hcl hfr bx
          have hcases : kind % 4 = 0 ∨ kind % 4 = 1 ∨ kind % 4 = 2 ∨ kind % 4 = 3 := by omega
          rcases hcases with hr | hr | hr | hr
          · rw [hr] at AM
            have OC : Hid (∀ (h : OwnD w (wr.alloc (.cells #[.int .i64 kind, .string nm, .string to, .int .i64 pos, .int .i64 n] 29)) p d), Calls Try.prog 6 #[.pointer (some ⟨p, 0, none⟩), .string nm, .int .i64 pos, .string to] (wr.alloc (.cells #[.int .i64 kind, .string nm, .string to, .int .i64 pos, .int .i64 n] 29)) fun e w' => e = .returned (.int .i64 (d.wrE nm pos to)) ∧ OwnD w w' p (d.wrD nm pos to)) := hide (fun h => h.write nm pos to b3 b5 b6 b4)
            have HN := hide (has_wr (unhide HH) hnd nm pos to hn1)
            clear hr r0 r1 hn1 hn2
            have n3' : (to.size : Int) ≤ 1000 := by omega
            have m1 : (nm.toList == [111, 116, 104, 101, 114]) = false := beq_eq_false_iff_ne.2 n1
            have m2 : (to.toList == [111, 116, 104, 101, 114]) = false := beq_eq_false_iff_ne.2 n2
            generalize (d.wrE nm pos to) = er at *
            generalize (d.wrD nm pos to) = d' at *
            go_wp2_with fail
            refine (unhide AM _).mono ?_
            rintro e w5 ⟨rfl, rfl⟩
            go_wp2_with fail
            refine (unhide OC ow2).mono ?_
            rintro e w6 ⟨rfl, o6⟩
            go_wp2_with fail
            refine (unhide HFR d' w6 o6 (unhide HN)).mono ?_
            rintro e w7 ⟨rfl, rfl⟩
            go_wp2
            go_roundw
            case rel => exact ⟨k + 1, d', by omega, by go_num, o6, HN⟩
            case measure => simp [intOf]; omega
          · rw [hr] at AM
            have OC : Hid (∀ (h : OwnD w (wr.alloc (.cells #[.int .i64 kind, .string nm, .string to, .int .i64 pos, .int .i64 n] 29)) p d), Calls Try.prog 8 #[.pointer (some ⟨p, 0, none⟩), .string nm, .int .i64 pos] (wr.alloc (.cells #[.int .i64 kind, .string nm, .string to, .int .i64 pos, .int .i64 n] 29)) fun e w' => e = .returned (.int .i64 (d.ctE nm pos)) ∧ OwnD w w' p (d.ctD nm pos)) := hide (fun h => h.cut nm pos b3 b5 b6)
            have HN := hide (has_ct (unhide HH) hnd nm pos hn1)
            clear hr r0 r1 hn1 hn2
            have n3' : (to.size : Int) ≤ 1000 := by omega
            have m1 : (nm.toList == [111, 116, 104, 101, 114]) = false := beq_eq_false_iff_ne.2 n1
            have m2 : (to.toList == [111, 116, 104, 101, 114]) = false := beq_eq_false_iff_ne.2 n2
            generalize (d.ctE nm pos) = er at *
            generalize (d.ctD nm pos) = d' at *
            go_wp2_with fail
            refine (unhide AM _).mono ?_
            rintro e w5 ⟨rfl, rfl⟩
            go_wp2_with fail
            refine (unhide OC ow2).mono ?_
            rintro e w6 ⟨rfl, o6⟩
            go_wp2_with fail
            refine (unhide HFR d' w6 o6 (unhide HN)).mono ?_
            rintro e w7 ⟨rfl, rfl⟩
            go_wp2
            go_roundw
            case rel => exact ⟨k + 1, d', by omega, by go_num, o6, HN⟩
            case measure => simp [intOf]; omega
          · rw [hr] at AM
            have OC : Hid (∀ (h : OwnD w (wr.alloc (.cells #[.int .i64 kind, .string nm, .string to, .int .i64 pos, .int .i64 n] 29)) p d), Calls Try.prog 9 #[.pointer (some ⟨p, 0, none⟩), .string nm, .string to] (wr.alloc (.cells #[.int .i64 kind, .string nm, .string to, .int .i64 pos, .int .i64 n] 29)) fun e w' => e = .returned (.int .i64 (d.rnE nm to)) ∧ OwnD w w' p (d.rnD nm to)) := hide (fun h => h.rename nm to b3 b4)
            have HN := hide (has_rn (unhide HH) hnd nm to hn1 hn2)
            clear hr r0 r1 hn1 hn2
            have n3' : (to.size : Int) ≤ 1000 := by omega
            have m1 : (nm.toList == [111, 116, 104, 101, 114]) = false := beq_eq_false_iff_ne.2 n1
            have m2 : (to.toList == [111, 116, 104, 101, 114]) = false := beq_eq_false_iff_ne.2 n2
            generalize (d.rnE nm to) = er at *
            generalize (d.rnD nm to) = d' at *
            go_wp2_with fail
            refine (unhide AM _).mono ?_
            rintro e w5 ⟨rfl, rfl⟩
            go_wp2_with fail
            refine (unhide OC ow2).mono ?_
            rintro e w6 ⟨rfl, o6⟩
            go_wp2_with fail
            refine (unhide HFR d' w6 o6 (unhide HN)).mono ?_
            rintro e w7 ⟨rfl, rfl⟩
            go_wp2
            go_roundw
            case rel => exact ⟨k + 1, d', by omega, by go_num, o6, HN⟩
            case measure => simp [intOf]; omega
          · rw [hr] at AM
            have OC : Hid (∀ (h : OwnD w (wr.alloc (.cells #[.int .i64 kind, .string nm, .string to, .int .i64 pos, .int .i64 n] 29)) p d), Calls Try.prog 10 #[.pointer (some ⟨p, 0, none⟩), .string nm] (wr.alloc (.cells #[.int .i64 kind, .string nm, .string to, .int .i64 pos, .int .i64 n] 29)) fun e w' => e = .returned (.int .i64 (d.rmE nm)) ∧ OwnD w w' p (d.rmD nm)) := hide (fun h => h.remove nm b3)
            have HN := hide (has_rm (unhide HH) hnd nm hn1)
            clear hr r0 r1 hn1 hn2
            have n3' : (to.size : Int) ≤ 1000 := by omega
            have m1 : (nm.toList == [111, 116, 104, 101, 114]) = false := beq_eq_false_iff_ne.2 n1
            have m2 : (to.toList == [111, 116, 104, 101, 114]) = false := beq_eq_false_iff_ne.2 n2
            generalize (d.rmE nm) = er at *
            generalize (d.rmD nm) = d' at *
            go_wp2_with fail
            refine (unhide AM _).mono ?_
            rintro e w5 ⟨rfl, rfl⟩
            go_wp2_with fail
            refine (unhide OC ow2).mono ?_
            rintro e w6 ⟨rfl, o6⟩
            go_wp2_with fail
            refine (unhide HFR d' w6 o6 (unhide HN)).mono ?_
            rintro e w7 ⟨rfl, rfl⟩
            go_wp2
            go_roundw
            case rel => exact ⟨k + 1, d', by omega, by go_num, o6, HN⟩
            case measure => simp [intOf]; omega
        · have h60i : ¬ ((k : Int) < 60) := by omega
          go_wp2
          go_ret
          exact ⟨rfl, ow.bel.below (Nat.le_refl _) (by simp)⟩
      · have hli : ¬ ((k : Int) < (l.length : Int)) := by omega
        go_wp2
        go_ret
        exact ⟨rfl, ow.bel.below (Nat.le_refl _) (by simp)⟩
end Go.Proofs.Ytpbmkbfcnhekoab
