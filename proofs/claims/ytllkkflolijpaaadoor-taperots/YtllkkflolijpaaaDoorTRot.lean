/-
  TapeRots: a byte of a frame behind its number that is another one is found when the tape is opened: the law returns true, whatever the texts, the place and the byte.
-/
import Derived.Test.YtllkkflolijpaaaDoorTRoP
import Derived.Deep.QuietTactic
import Derived.BigQuiet
namespace Go.Proofs.YtllkkflolijpaaaDoor
open Go.RowKit

/-- What the loop holds. -/
structure RotS (w : World) (l : List (List UInt8)) (p t k : Nat) (v : Value) (d : Dk) (ov : Value) (wr : World) : Prop where
  own : OwnT w wr p d t ⟨#[108, 111, 103]⟩ v (l.take k)
  gd : Gd d k
  file : (k = 0 ∧ d.now = []) ∨ getF d.now ⟨#[108, 111, 103]⟩ = some (allF (l.take k))
  ends : IRow wr ov (endL (l.take k))
  low : ∀ j, ov.ownBlock = some j → w.heap.size ≤ j
theorem RotS.has {w : World} {l : List (List UInt8)} {p t k : Nat} {v : Value} {d : Dk} {ov : Value} {wr : World} (h : RotS w l p t k v d ov wr) : hasF d.now ⟨#[108, 111, 103]⟩ = allF (l.take k) := by
  unfold hasF
  rcases h.file with ⟨rfl, e⟩ | e
  · rw [e]; rfl
  · rw [e]; rfl
theorem IRow.one (w : World) (x : Int) : IRow (w.alloc (.cells #[.int .i64 x] 3)) (.slice (some ⟨w.heap.size, 0, none⟩) 1 1) [x] :=
  ⟨rfl, Or.inr ⟨w.heap.size, 1, #[.int .i64 x], rfl, Nat.zero_le _, CBox.new w _ _, Nat.le_refl _, by unfold maxLen; omega, rfl, rfl⟩⟩
/-- One text more. -/
theorem RotS.next {w : World} {l : List (List UInt8)} {p t k : Nat} {v : Value} {d : Dk} {ov : Value} {wr : World} (h : RotS w l p t k v d ov wr) (hT : TabW w) (hk : k < l.length) (h8 : k < 8) (hs : l[k].length ≤ 500) :
    Calls Tryd.prog 13 #[.pointer (some ⟨t, 0, none⟩), .string ⟨l[k].toArray⟩] wr fun r w' => r = .returned (.int .i64 0) ∧ ∃ v' d', OwnT w w' p d' t ⟨#[108, 111, 103]⟩ v' (l.take (k + 1)) ∧ Gd d' (k + 1) ∧ getF d'.now ⟨#[108, 111, 103]⟩ = some (allF (l.take (k + 1))) ∧ IRow w' ov (endL (l.take k)) := by
  have hz : (⟨l[k].toArray⟩ : ByteArray).size = l[k].length := strSize _
  obtain ⟨e1, e2, e3, e4⟩ := h.gd.append (by omega) h.own.own.nodup nLog ⟨l[k].toArray⟩ (by omega)
  have ht : (l.take k).length ≤ 1000000 := by rw [List.length_take]; omega
  have e5 : l.take k ++ [(⟨l[k].toArray⟩ : ByteArray).data.toList] = l.take (k + 1) := by rw [strData, List.take_succ_eq_append_getElem hk]
  refine (h.own.appendOk ⟨l[k].toArray⟩ hT ht (by omega) e1).mono fun r w' ⟨h1, v', h2, h3, _⟩ => ⟨h1, v', _, by rw [← e5]; exact h2, e2, ?_, h.ends.oth h3 (h.ends.no h.own.at)⟩
  rw [e3, getF_with h.own.own.nodup, if_pos rfl, h.has, strData, allF_take_succ l k hk]
theorem rd_log {w0 w : World} {p : Nat} {d : Dk} {b : List UInt8} (h : OwnD w0 w p d) (hf : getF d.now ⟨#[108, 111, 103]⟩ = some b) :
    Calls Tryd.prog 16 #[.pointer (some ⟨p, 0, none⟩), .string ⟨#[108, 111, 103]⟩] w fun e w' => e = .returned (.tuple #[.string ⟨b.toArray⟩, .int .i64 0]) ∧ w' = w := by
  have := h.read ⟨#[108, 111, 103]⟩ (by decide)
  have e0 : d.badN ⟨#[108, 111, 103]⟩ = 0 := badN_0 nLog (by rw [hf]; rfl)
  unfold Dk.rdS Dk.rdE at this
  rw [e0, if_pos rfl] at this
  have e1 : hasF d.now ⟨#[108, 111, 103]⟩ = b := by unfold hasF; rw [hf]; rfl
  rw [e1] at this
  exact this
theorem log_len {w0 w : World} {p : Nat} {d : Dk} {b : List UInt8} (h : OwnD w0 w p d) (hf : getF d.now ⟨#[108, 111, 103]⟩ = some b) : b.length ≤ 262144 := by
  have e1 : hasF d.now ⟨#[108, 111, 103]⟩ = b := by unfold hasF; rw [hf]; rfl
  rw [← e1]
  exact Nat.le_trans (hasF_le _) h.inv.now.1.1
theorem rot_next {w w6 w7 : World} {l : List (List UInt8)} {p t k : Nat} {v ov : Value} {d : Dk} {S : ByteArray} {g3 cap3 : Nat} (hq : OwnT w w6 p d t ⟨#[108, 111, 103]⟩ v (l.take (k + 1))) (hg : Gd d (k + 1)) (hf : getF d.now ⟨#[108, 111, 103]⟩ = some (allF (l.take (k + 1)))) (hk : k < l.length) (hS : S.size = (allF (l.take (k + 1))).length)
    (hown : w6.ownsRow 0 3 1 ov (endL (l.take k)).length ((endL (l.take k)).map (Value.int .i64)))
    (hown' : w7.ownsRow 0 3 1 (.slice (some ⟨g3, 0, none⟩) ((endL (l.take k)).length + 1) cap3) ((endL (l.take k)).length + 1) ((endL (l.take k)).map (Value.int .i64) ++ [.int .i64 (S.size : Int)])) (hgrow : (w6.alloc (.cells #[.int .i64 (S.size : Int)] 3)).grownBy w7 ov.ownBlock) (hat : ov.ownBlock = some g3 ∨ g3 = (w6.alloc (.cells #[.int .i64 (S.size : Int)] 3)).heap.size) (hlow : ∀ j, ov.ownBlock = some j → w.heap.size ≤ j) :
    RotS w l p t (k + 1) v d (.slice (some ⟨g3, 0, none⟩) ((endL (l.take k)).length + 1) cap3) w7 := by
  have hI : IRow w6 ov (endL (l.take k)) := hown
  have hkA := Kp.alloc w6 (.cells #[.int .i64 (S.size : Int)] 3)
  have hk7 : Kp ov.ownBlock.toList w6 w7 := (hkA.mono (by simp)).trans (Kp.of hgrow) (fun x hx => Or.inl hx)
  have hsz := hq.bel.size
  have hz : (w6.alloc (.cells #[.int .i64 (S.size : Int)] 3)).heap.size = w6.heap.size + 1 := by simp
  refine ⟨?_, hg, Or.inr hf, ?_, fun j hj => ?_⟩
  · obtain ⟨F, hd, ht, h1, h2, h3⟩ := hq
    have hno := hI.no ht
    refine ⟨F, hd.kp hk7 (fun i hi hm => ?_), ht.kp hk7 (fun hm => ?_) (fun i hi hm => ?_), h1.trans hk7 (fun x hx => Or.inr (hlow x (by simpa using hx))), h2, h3⟩
    · obtain ⟨_, cur, hc⟩ := hI.block (by simpa using hm)
      exact hd.no hc (by decide) (by decide) (by decide) hi
    · exact hno t (by simpa using hm) List.mem_cons_self
    · exact hno i (by simpa using hm) (List.mem_cons_of_mem _ (by simpa using hi))
  · unfold IRow
    have e : l.take (k + 1) = l.take k ++ [l[k]] := List.take_succ_eq_append_getElem hk
    rw [e, endL_snoc, List.length_append, List.map_append, ← e, ← hS]
    exact hown'
  · have e1 : g3 = j := by simpa [Value.ownBlock] using hj
    rcases hat with h1 | h1
    · exact hlow j (by rw [h1, e1])
    · omega
theorem Owns.one (w : World) (C : Nat) (h : C < 256) : Owns 0 (w.alloc (.cells #[.int .u8 (C : Int)] 5)) (.slice (some ⟨w.heap.size, 0, none⟩) 1 1) [UInt8.ofNat C] :=
  ⟨rfl, Or.inr ⟨w.heap.size, 1, #[.int .u8 (C : Int)], rfl, Nat.zero_le _, CBox.new w _ _, Nat.le_refl _, by unfold maxLen; omega, rfl, by rw [← byteC_one C h]; rfl⟩⟩
theorem rot_wr {w W : World} {p P : Nat} {d : Dk} {s : ByteArray} (h : OwnD w W p d) (hP : P ≤ 1000000) (hs : s.size ≤ 1000000) (he : d.wrE ⟨#[108, 111, 103]⟩ (P : Int) s = 0) :
    Calls Tryd.prog 17 #[.pointer (some ⟨p, 0, none⟩), .string ⟨#[108, 111, 103]⟩, .int .i64 (P : Int), .string s] W fun r w' => r = .returned (.int .i64 0) ∧ OwnD w w' p (d.wrD ⟨#[108, 111, 103]⟩ (P : Int) s) := by
  have := h.write ⟨#[108, 111, 103]⟩ (P : Int) s (by decide) (by omega) (by omega) (by omega)
  rw [he] at this
  exact this
theorem rot_op {w W : World} {p : Nat} {d : Dk} (h : OwnD w W p d) (hT : TabW w) (he : d.opE ⟨#[108, 111, 103]⟩ = 40) :
    Calls Tryd.prog 8 #[.pointer (some ⟨p, 0, none⟩), .string ⟨#[108, 111, 103]⟩] W fun r w' => r = .returned (.tuple #[.pointer none, .int .i64 40]) ∧ Kp [] w w' :=
  (h.topen (n := ⟨#[108, 111, 103]⟩) hT (by decide)).mono fun r w' hh => by
    rcases hh with ⟨h1, _⟩ | ⟨_, h2, h3, _⟩
    · rw [he] at h1; exact absurd h1 (by decide)
    · rw [he] at h2; exact ⟨h2, h3.bel⟩
set_option maxHeartbeats 4000000 in
set_option maxRecDepth 100000 in
theorem rots_walk (ad : Option Addr) (cap : Nat) (l : List (List UInt8)) (x : Int) (y : Nat) (w : World) (hl : l.length ≤ 9223372036854775807) (hA : TextsAt w ad l) (hsz : ∀ z ∈ l, z.length ≤ 9223372036854775807) (hy : y < 256) (hT : TabW w) :
    Calls Tryd.prog 4 #[.slice ad l.length cap, .int .i64 x, .int .u8 (y : Int)] w fun e w' => e = .returned (.bool true) ∧ Kp [] w w' := by
  obtain ⟨o1, o2, o3⟩ := op_whole (d := Dk.new) (n := ⟨#[108, 111, 103]⟩) (ts := []) nLog rfl (by simp)
  have st1 : ∀ W p, OwnD w W p Dk.new → Calls Tryd.prog 8 #[.pointer (some ⟨p, 0, none⟩), .string ⟨#[108, 111, 103]⟩] W fun r w' => ∃ t v, r = .returned (.tuple #[.pointer (some ⟨t, 0, none⟩), .int .i64 0]) ∧ OwnT w w' p Dk.new t ⟨#[108, 111, 103]⟩ v [] := fun W p h => by
    have := h.topenOk (n := ⟨#[108, 111, 103]⟩) hT (by decide) o1
    rw [o2, o3] at this
    exact this.mono fun r w' ⟨t, v, h1, h2, _⟩ => ⟨t, v, h1, h2⟩
  have st2 : ∀ W p t v, OwnT w W p Dk.new t ⟨#[108, 111, 103]⟩ v [] → Calls Tryd.prog 7 #[] W fun e w' => e = .returned (.bool true) ∧ OwnT w w' p Dk.new t ⟨#[108, 111, 103]⟩ v [] := fun W p t v h =>
    (works_any W (hT.kp h.bel (by simp))).mono fun e w' ⟨h1, h2⟩ => ⟨h1, h.kp h2⟩
  have S1 := hide st1
  have S2 := hide st2
  have HT := hide hT
  have HA := hide hA
  have HSZ := hide hsz
  obtain ⟨i0, hi, hz0, hz1, hz2⟩ := info_parts info_int
  clear o1 o2 o3 st1 st2 hT hA hsz
  go_enter Tryd.func4, Tryd.ntmps4
  go_wp2_with fail
  refine (new_own w).mono ?_
  rintro e w1 ⟨p, rfl, q1⟩
  go_wp2_with fail
  refine (unhide S1 w1 p q1).mono ?_
  rintro e w2 ⟨t, v, rfl, q2⟩
  go_wp2_with fail
  refine (unhide S2 w2 p t v q2).mono ?_
  rintro e w3 ⟨rfl, q3⟩
  have HR : Hid (RotS w l p t 0 v Dk.new (.slice (some ⟨w3.heap.size, 0, none⟩) 1 1) (w3.alloc (.cells #[.int .i64 0] 3))) := hide
    ⟨by simpa using q3.kp (Kp.alloc w3 (.cells #[.int .i64 0] 3)), Gd.new, Or.inl ⟨rfl, rfl⟩, IRow.one w3 0, fun j hj => by simp [Value.ownBlock] at hj; have := q3.bel.size; omega⟩
  clear q1 q2 q3
  go_wp2
  go_loopw [10, 11] (fun o i wr => ∃ (k : Nat) (v : Value) (d : Dk) (ov : Value), k ≤ l.length ∧ k ≤ 8 ∧ i = .int .i64 (k : Int) ∧ ov = o ∧ Hid (RotS w l p t k v d ov wr)) (fun _ i _ => 8 - (intOf i).toNat)
  case atStart => exact ⟨0, v, Dk.new, _, Nat.zero_le _, by omega, rfl, rfl, HR⟩
  case round =>
    clear HR
    obtain ⟨k, v, d, ov, hk, h8, rfl, rfl, HR⟩ := hrel
    by_cases hgo : k < l.length ∧ k < 8
    · obtain ⟨hlt, hl8⟩ := hgo
      have hli : (k : Int) < (l.length : Int) := by omega
      have hl8i : (k : Int) < 8 := by omega
      obtain ⟨b, off, rfl, _, hc⟩ := (unhide HA).kp (unhide HR).own.bel (by intro h; rw [h] at hlt; simp at hlt)
      have c1 := hc k hlt
      clear hc
      have NX := fun hs => (unhide HR).next (unhide HT) hlt hl8 hs
      have hss := strSize l[k]
      have hsb := unhide HSZ l[k] (List.getElem_mem hlt)
      rw [← hss] at NX hsb
      generalize hse : (⟨l[k].toArray⟩ : ByteArray) = s at *
      clear hse hss
      by_cases hbig : 500 < s.size
      · have hbi : (500 : Int) < (s.size : Int) := by omega
        have HK := hide (unhide HR).own.bel
        clear NX HR
        go_wp2
        go_ret
        exact ⟨rfl, unhide HK⟩
      · have hbi : ¬ ((500 : Int) < (s.size : Int)) := by omega
        have NX := hide (NX (by omega))
        have HLOW := hide (unhide HR).low
        have HHK := hide (unhide HR).own.bel
        clear HR
        go_wp2_with fail
        refine (unhide NX).mono ?_
        rintro r w5 ⟨rfl, v5, d5, q5, g5, f5, e5⟩
        have RD := rd_log q5.own f5
        have hSz := strSize (allF (l.take (k + 1)))
        have hSb : (allF (l.take (k + 1))).length ≤ 262144 := log_len q5.own f5
        generalize hSe : (⟨(allF (l.take (k + 1))).toArray⟩ : ByteArray) = S at *
        have HSz := hide hSz
        have hSb2 : (S.size : Int) ≤ 262144 := by omega
        have RD := hide RD
        have HQ := hide (And.intro q5 (And.intro g5 f5))
        have hown : w5.ownsRow 0 3 1 ov (endL (l.take k)).length ((endL (l.take k)).map (Value.int .i64)) := e5
        have hel : (endL (l.take k)).length ≤ 1000 := by rw [endL_len, List.length_take]; omega
        clear q5 g5 f5 e5 hSe hSz hSb
        go_wp2_with fail
        refine (unhide RD).mono ?_
        rintro r w6 ⟨rfl, rfl⟩
        go_wp2_with (at_builtin; refine wpList_append_lies _ rfl _ _ 42 rfl 0 3 i0 (.int .i64 0) 1 8 Tryd.underlying42 hi hz0 hz1 hz2 rfl (by decide) ov (endL (l.take k)).length ((endL (l.take k)).map (Value.int .i64)) rfl (hown.alloc _) ⟨w6.heap.size, 0, none⟩ 1 1 [.int .i64 (S.size : Int)] rfl rfl (one_new _ _ _) (by intro u hu; simp at hu; subst hu; rfl) (by omega) (by unfold maxLen; omega) (by omega) (by simp) _ rfl ?_; intro g3 cap3 w7 hown' hgrow hat3 hlt3; have HAT := hide hat3; clear hat3)
        have HR : Hid (RotS w l p t (k + 1) v5 d5 (.slice (some ⟨g3, 0, none⟩) ((endL (l.take k)).length + 1) cap3) w7) := hide (rot_next (unhide HQ).1 (unhide HQ).2.1 (unhide HQ).2.2 hlt (unhide HSz) hown hown' hgrow (unhide HAT) (unhide HLOW))
        clear hown hown' hgrow HAT HQ HLOW HHK RD NX
        go_wp2
        go_roundw
        case rel => exact ⟨k + 1, v5, d5, _, by omega, by omega, by go_num, rfl, HR⟩
        case measure => simp [intOf]; omega
    · have hlk : (endL (l.take k)).length = k + 1 := by rw [endL_len, List.length_take]; omega
      have hts : ∀ z ∈ l.take k, z.length ≤ 65536 := (unhide HR).own.at.small
      have htl : (l.take k).length = k := by rw [List.length_take]; omega
      obtain ⟨g, cp, hvs, _, hcp⟩ := (unhide HR).ends.shape (by intro h; rw [h] at hlk; simp at hlk)
      have HCE : Hid (∀ j, j ≤ k → wr.cell? ⟨g, j, none⟩ = some (.int .i64 ((allF ((l.take k).take j)).length : Int))) := hide (fun j hj => by
        have h1 := (unhide HR).ends
        rw [hvs] at h1
        have := h1.cell j (by omega)
        rw [endL_get] at this
        exact this)
      have HOW := hide (unhide HR).own
      have HGD := hide (unhide HR).gd
      have HFI := hide (unhide HR).file
      have HTS := hide hts
      have HTL := hide htl
      rw [hlk] at hvs
      subst hvs
      clear HR hlk hts htl
      generalize l.take k = ts at *
      rcases (by omega : ¬ ((k : Int) < (l.length : Int)) ∨ ((k : Int) < (l.length : Int) ∧ ¬ ((k : Int) < 8))) with hA1 | ⟨hA1, hA2⟩
      all_goals
        by_cases hk0 : k = 0
        · subst hk0
          have HK := hide (unhide HOW).bel
          clear HOW HCE HGD HFI HTS HTL
          first
            | (exfalso; omega)
            | (go_wp2
               go_ret
               exact ⟨rfl, unhide HK⟩)
        · have hki : ¬ ((k : Int) + 1 = 1) := by omega
          have hkb : ((k : Int) + 1 == 1) = false := beq_eq_false_iff_ne.2 hki
          have hkp : (0 : Int) < (k : Int) := by omega
          have hk8 : (k : Int) ≤ 8 := by omega
          obtain ⟨K, hK, eK⟩ : ∃ K : Nat, K < k ∧ x % (k : Int) = (K : Int) := ⟨(x % (k : Int)).toNat, by have := Int.emod_lt_of_pos x hkp; have := Int.emod_nonneg x (by omega : (k : Int) ≠ 0); omega, by have := Int.emod_nonneg x (by omega : (k : Int) ≠ 0); omega⟩
          have hFI : getF d.now ⟨#[108, 111, 103]⟩ = some (allF ts) := by
            rcases unhide HFI with ⟨h1, _⟩ | h1
            · exact absurd h1 hk0
            · exact h1
          have hKt : K < ts.length := by rw [unhide HTL]; exact hK
          have RD := rd_log (unhide HOW).own hFI
          have hSL := log_len (unhide HOW).own hFI
          have hSz := strSize (allF ts)
          have hSd := strData (allF ts)
          have hsp := allF_split ts K hKt
          have hsplen := congrArg List.length hsp
          rw [List.length_append, List.length_append] at hsplen
          have hfl := frameL_len ts[K]
          have hfb := unhide HTS ts[K] (List.getElem_mem hKt)
          have hgr := fun m c s hm hc hsd => (unhide HGD).rot (by omega) (unhide HOW).own.nodup hFI (unhide HTS) (k := K) (m := m) hKt hm c hc s hsd
          have cE0 := unhide HCE K (by omega)
          have cE1 := unhide HCE (K + 1) (by omega)
          rw [allF_take_succ ts K hKt, List.length_append] at cE1
          have hget : ∀ m, 6 + m < (frameL ts[K]).length → (allF ts)[(allF (ts.take K)).length + 6 + m]? = (frameL ts[K])[6 + m]? := fun m hm => by
            rw [hsp, List.getElem?_append_right (by omega), List.getElem?_append_left (by omega)]
            congr 1
            omega
          generalize hE : (allF (ts.take K)).length = E at *
          generalize hFR : frameL ts[K] = fr at *
          generalize hLG : fr.length = lg at *
          generalize hSe : (⟨(allF ts).toArray⟩ : ByteArray) = S at *
          have hlg10 : ¬ ((lg : Int) < 10) := by omega
          have hEb : (E : Int) ≤ 262144 := by omega
          have hlgb : (lg : Int) ≤ 70000 := by omega
          have HSUB : Hid ((E : Int) + (lg : Int) - (E : Int) = (lg : Int)) := hide (by omega)
          obtain ⟨M, hM, eM⟩ : ∃ M : Nat, 6 + M < lg ∧ x % ((lg : Int) - 6) = (M : Int) := ⟨(x % ((lg : Int) - 6)).toNat, by have := Int.emod_lt_of_pos x (by omega : (0 : Int) < (lg : Int) - 6); have := Int.emod_nonneg x (by omega : ((lg : Int) - 6) ≠ 0); omega, by have := Int.emod_nonneg x (by omega : ((lg : Int) - 6) ≠ 0); omega⟩
          have hKi : (K : Int) < (k : Int) := by omega
          have HGR := hide hgr
          have HGT := hide (hget M hM)
          have HRD := hide RD
          have AM1 := hide (fun W => among_any x (k : Int) W hkp (by omega))
          have AM2 := hide (fun W => among_any x ((lg : Int) - 6) W (by omega) (by omega))
          rw [eK] at AM1
          rw [eM] at AM2
          have hPS : E + 6 + M < S.size := by omega
          have HSD := hide hSd
          clear hgr hget RD hsp hsplen hfl hfb hE hFR hLG hSe hSd eK eM hFI hSL hSz
          go_wp2_with fail
          refine (unhide HRD).mono ?_
          rintro r w5 ⟨rfl, rfl⟩
          go_wp2_with fail
          refine (unhide AM1 _).mono ?_
          rintro r w6 ⟨rfl, rfl⟩
          go_wp2_with fail
          go_quiet (fail)
          rw [unhide HSUB]
          have hkq := Kp.drewQ w6 nq
          have cE0 := hkq.cell cE0 (by simp)
          have HOW := hide ((unhide HOW).kp hkq)
          clear hkq cE1 HCE
          generalize w6.drewN nq = W7 at *
          go_wp2_with fail
          go_quiet (first | (go_at_call 12; exact Calls.quiet_of_same (unhide AM2 _)))
          have hP : (E : Int) + 6 + (M : Int) = ((E + 6 + M : Nat) : Int) := by omega
          rw [hP]
          have hkq := Kp.drewQ W7 nq
          have HOW := hide ((unhide HOW).kp hkq)
          clear hkq cE0 hP
          generalize W7.drewN nq = W8 at *
          obtain ⟨Y, hY, hY0, HYY⟩ : ∃ Y : Nat, Y < 256 ∧ Y ≠ 0 ∧ Hid ((y = 0 ∧ Y = 1) ∨ (y ≠ 0 ∧ Y = y)) := by
            by_cases h : y = 0
            · exact ⟨1, by decide, by decide, hide (Or.inl ⟨h, rfl⟩)⟩
            · exact ⟨y, hy, h, hide (Or.inr ⟨h, rfl⟩)⟩
          obtain ⟨C, hC, hCne, eC⟩ := xor_byte (S[E + 6 + M]).toNat Y (S[E + 6 + M]).toNat_lt hY hY0
          have hne : fr[6 + M]? ≠ some (UInt8.ofNat C) := by
            rw [← unhide HGT, ← unhide HSD]
            have hl2 : E + 6 + M < S.data.toList.length := by rw [Array.length_toList]; exact hPS
            rw [List.getElem?_eq_getElem hl2]
            intro h
            have h2 : S[E + 6 + M] = UInt8.ofNat C := Option.some.inj h
            exact hCne (by rw [h2, u8_val C hC])
          obtain ⟨hw0, hw40⟩ := unhide HGR M (UInt8.ofNat C) ⟨#[UInt8.ofNat C]⟩ hM hne rfl
          have hPb : E + 6 + M ≤ 1000000 := by omega
          have hPi : ((E + 6 + M : Nat) : Int) < (S.size : Int) := by omega
          generalize hPe : E + 6 + M = P at *
          have hown := (unhide HOW).own.kp (Kp.alloc W8 (.cells #[.int .u8 (C : Int)] 5))
          have hcv : (convert 45 9 (.slice (some ⟨W8.heap.size, 0, none⟩) 1 1)).run Tryd.prog (W8.alloc (.cells #[.int .u8 (C : Int)] 5)) = .ok (.string ⟨#[UInt8.ofNat C]⟩) (W8.alloc (.cells #[.int .u8 (C : Int)] 5)) := (Owns.one W8 C hC).string
          have WR := hide (rot_wr hown hPb (by show 1 ≤ _; omega) hw0)
          have OP := hide (fun W (h : OwnD w W p (d.wrD ⟨#[108, 111, 103]⟩ (P : Int) ⟨#[UInt8.ofNat C]⟩)) => rot_op h (unhide HT) hw40)
          clear hown hw0 hw40 hne HGR HGT HSD HOW hPe hM hPb HGD HFI HTS HTL HRD AM1 AM2 HSUB hCne
          rcases unhide HYY with ⟨hy0, hYe⟩ | ⟨hy0, hYe⟩
          · subst hy0 hYe
            rw [show ((1 : Nat) : Int) = 1 from rfl] at eC
            go_wp2_with fail
            refine (unhide WR).mono ?_
            rintro r w9 ⟨rfl, o9⟩
            go_wp2_with fail
            refine (unhide OP w9 o9).mono ?_
            rintro r w10 ⟨rfl, k10⟩
            have HK := hide k10
            clear k10 o9
            go_wp2
            go_ret
            exact ⟨rfl, unhide HK⟩
          · subst hYe
            have g0 : ((Y : Int) == 0) = false := beq_eq_false_iff_ne.2 (by omega)
            go_wp2_with fail
            refine (unhide WR).mono ?_
            rintro r w9 ⟨rfl, o9⟩
            go_wp2_with fail
            refine (unhide OP w9 o9).mono ?_
            rintro r w10 ⟨rfl, k10⟩
            have HK := hide k10
            clear k10 o9
            go_wp2
            go_ret
            exact ⟨rfl, unhide HK⟩
end Go.Proofs.YtllkkflolijpaaaDoor
