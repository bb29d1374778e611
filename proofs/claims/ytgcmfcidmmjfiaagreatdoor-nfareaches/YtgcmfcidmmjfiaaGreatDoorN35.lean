/-
  Join: any tokens are joined as the plain function has it.
  What reading a text leaves: rows of tokens, of parts, and faults.
  couldBeTold: a tail of what Tokens told could be told; Parse of such a tail.
-/
import Derived.Test.YtgcmfcidmmjfiaaGreatDoorN34
import Derived.Test.YtgcmfcidmmjfiaaGreatDoorN30
import Derived.Test.YtgcmfcidmmjfiaaGreatDoorN33
import Derived.Test.YtgcmfcidmmjfiaaGreatDoorN16
namespace Go.Proofs.YtgcmfcidmmjfiaaGreatDoor
open Go.RowKit

theorem Bld.below {B b : Nat} {l : List UInt8} {w w' : World} (h : Bld B b l w) (hb : Below w.heap.size w w') : Bld B b l w' := by
  have key : ∀ p, Lib.BuilderAt 109 5 B b p (byteC l) w → Lib.BuilderAt 109 5 B b p (byteC l) w' := fun p h => by
    have hlt := h.lt
    obtain ⟨h1, v, h2, h3, h4⟩ := h
    refine ⟨h1, v, (hb.block b hlt).trans h2, ?_, h4⟩
    refine World.ownsRow.kept (row := none) h3 ⟨hb.os, hb.tape, hb.output, hb.size, fun k hk _ => hb.block k hk⟩ ?_
    cases v.ownBlock
    · exact Or.inl rfl
    · exact Or.inr (by simp)
  rcases h with h | h
  · exact Or.inl (key _ h)
  · exact Or.inr (key _ h)
theorem Bld.alloc {B b : Nat} {l : List UInt8} {w : World} (h : Bld B b l w) (o : Obj) : Bld B b l (w.alloc o) := h.below ((Below.refl _ _).alloc (Nat.le_refl _) o)
theorem tailB_len (l : List Tk) (h : ∀ t ∈ l, wrOk t = true) : (tailB l).length ≤ l.length * 259 := by
  induction l with
  | nil => simp [tailB]
  | cons t r ih =>
    have h1 := (wrOk_iff t).1 (h t (by simp))
    obtain ⟨_, hl, hsp, _, _, _, _, hn0, hn1, _⟩ := tkR_some h1.2
    have h2 := spell_len t h1.1 (by have : (t.out 0).n = t.n := rfl; omega) (by have : (t.out 0).n = t.n := rfl; omega)
    have h3 := ih (fun x hx => h x (by simp [hx]))
    rw [show tailB (t :: r) = 32 :: (spell t ++ tailB r) by unfold tailB; simp]
    simp only [List.length_cons, List.length_append]
    omega
theorem joinB_len (l : List Tk) (h : ∀ t ∈ l, wrOk t = true) : (joinB l).length ≤ l.length * 259 := by
  have := tailB_len l h
  cases l with
  | nil => simp [joinB]
  | cons t r =>
    rw [show tailB (t :: r) = 32 :: joinB (t :: r) by unfold joinB tailB; simp] at this
    simp only [List.length_cons] at this ⊢
    omega
theorem TksAt.below {w w' : World} {ad : Option Addr} {l : List Tk} {B : Nat} (h : TksAt w ad l) (hb : Below B w w') (hB : w.heap.size ≤ B) : TksAt w' ad l := h.kp ⟨hb.os, hb.tape, hb.output, hb.size, fun k hk _ => hb.block k (by omega)⟩
theorem join_next {a : List Tk} {k : Nat} (h : k < a.length) : joinB (a.take (k + 1)) = if k = 0 then spell a[k] else (joinB (a.take k) ++ [32]) ++ spell a[k] := by
  rw [List.take_succ_eq_append_getElem h, joinB_snoc]
  by_cases hk : k = 0
  · rw [if_pos hk, if_pos (by subst hk; rfl)]
  · rw [if_neg hk, if_neg (fun e => by have := congrArg List.length e; rw [List.length_take] at this; simp only [List.length_nil] at this; omega), List.append_assoc]
    rfl
theorem wr_next {a : List Tk} {k : Nat} (h : k < a.length) (h1 : ∀ t ∈ a.take k, wrOk t = true) (h2 : wrOk a[k] = true) : ∀ t ∈ a.take (k + 1), wrOk t = true := by
  rw [List.take_succ_eq_append_getElem h]
  intro t ht
  rcases List.mem_append.1 ht with h3 | h3
  · exact h1 t h3
  · simp at h3; subst h3; exact h2
theorem join_len {a : List Tk} {k : Nat} (h : k ≤ a.length) (ha : a.length ≤ 4096) (h1 : ∀ t ∈ a.take k, wrOk t = true) : (joinB (a.take k)).length ≤ 1060864 := by
  have := joinB_len _ h1
  rw [List.length_take] at this
  omega
/-- What Join tells. -/
def joR (l : List Tk) : List UInt8 × Int :=
  if 4096 < (cutL l).length then ([], 2) else if ¬ (∀ t ∈ cutL l, wrOk t = true) then ([], 100) else if ¬ ((endT l).s.size = 0 ∧ (endT l).n = 0) then ([], 100) else
  if 262144 < (joinB (cutL l)).length then ([], 2) else (joinB (cutL l), 0)
theorem endT_ok {l : List Tk} (h : ∀ t ∈ l, t.ok) : (endT l).ok := by
  unfold endT
  split
  · cases hg : l.getLast? with
    | none => exact ⟨by decide, by decide, by decide, by decide⟩
    | some t => exact h t (List.mem_of_getLast? hg)
  · exact ⟨by decide, by decide, by decide, by decide⟩
set_option maxHeartbeats 4000000 in
set_option maxRecDepth 100000 in
theorem join_any (ad : Option Addr) (cap : Nat) (l : List Tk) (w : World) (hT : TbW w) (hl : l.length ≤ 9223372036854775807) (hcap : l.length ≤ cap) (hA : TksAt w ad l) (hok : ∀ t ∈ l, t.ok) :
    Calls Tryz.prog 43 #[.slice ad l.length cap] w fun e w' => e = .returned (.tuple #[.string (txt (joR l).1), .int .i64 (joR l).2]) ∧ Below w.heap.size w w' := by
  have CE := cutEnd_any ad cap l w hl hcap hA
  have hAc := hA.cut
  have hokc : ∀ t ∈ cutL l, t.ok := fun t ht => hok t (cutL_mem ht)
  have hlc : (cutL l).length ≤ 9223372036854775807 := by
    unfold cutL
    split
    · rw [List.length_dropLast]; omega
    · exact hl
  have hlow := hT.low
  generalize hR : joR l = R
  unfold joR at hR
  generalize cutL l = a at *
  generalize endT l = E at *
  generalize l.length = nl at *
  clear hA hok hl hcap
  obtain ⟨ek, es, en, ep⟩ := E
  dsimp only [Tk.v] at CE hR
  have HCE := hide CE
  clear CE
  by_cases hbig : 4096 < a.length
  · rw [if_pos hbig] at hR
    subst hR
    clear hAc hokc
    generalize a.length = n at *
    go_enter Tryz.func43, Tryz.ntmps43
    go_wp2_with fail
    refine (unhide HCE).mono ?_
    rintro e w1 ⟨rfl, hb1⟩
    have HB : Hid (Below w.heap.size w (w1.alloc (.cells #[.int .i64 ek, .string es, .int .i64 en, .int .i64 ep] 75))) := hide (hb1.alloc hb1.size _)
    clear hb1
    go_wp2
    go_ret2
    exact ⟨rfl, unhide HB⟩
  · rw [if_neg hbig] at hR
    have HR := hide hR
    clear hR
    have HOK := hide hokc
    clear hokc
    go_enter Tryz.func43, Tryz.ntmps43
    go_wp2_with fail
    refine (unhide HCE).mono ?_
    rintro e w1 ⟨rfl, hb1⟩
    have hA1 : TksAt w1 ad a := hAc.kp (Kp.ofBelow hb1)
    have hl1 := hb1.size
    have HB1 := hide hb1
    clear hb1 HCE hAc
    go_wp2_with fail
    have hA2 : TksAt (w1.alloc (.cells #[.int .i64 ek, .string es, .int .i64 en, .int .i64 ep] 75)) ad a := hA1.kp (Kp.alloc _ _)
    have hE2 : CBox w1.heap.size #[.int .i64 ek, .string es, .int .i64 en, .int .i64 ep] 75 (w1.alloc (.cells #[.int .i64 ek, .string es, .int .i64 en, .int .i64 ep] 75)) := CBox.new _ _ _
    have hb2 : Below w.heap.size w (w1.alloc (.cells #[.int .i64 ek, .string es, .int .i64 en, .int .i64 ep] 75)) := (unhide HB1).alloc hl1 _
    have hT2 := hT.below hb2 (by omega)
    have hBl := Bld.new (w1.alloc (.cells #[.int .i64 ek, .string es, .int .i64 en, .int .i64 ep] 75))
    have hsz : (w1.alloc (.cells #[.int .i64 ek, .string es, .int .i64 en, .int .i64 ep] 75)).heap.size = w1.heap.size + 1 := by simp
    have hbw : Below (w1.alloc (.cells #[.int .i64 ek, .string es, .int .i64 en, .int .i64 ep] 75)).heap.size (w1.alloc (.cells #[.int .i64 ek, .string es, .int .i64 en, .int .i64 ep] 75)) ((w1.alloc (.cells #[.int .i64 ek, .string es, .int .i64 en, .int .i64 ep] 75)).alloc (.cells #[.pointer none, .slice none 0 0] 109)) := (Below.refl _ _).alloc (Nat.le_refl _) _
    have hlw : w.heap.size < w1.heap.size + 1 := by omega
    rw [hsz] at hBl hbw
    clear hA1 HB1
    generalize w1.alloc (.cells #[.int .i64 ek, .string es, .int .i64 en, .int .i64 ep] 75) = W1 at *
    have hbE : w1.heap.size < w1.heap.size + 1 := by omega
    generalize w1.heap.size + 1 = B at *
    generalize w1.heap.size = bE at *
    have HSZ := hide hsz
    clear hsz hl1
    have HB2 := hide hb2
    clear hb2
    go_loopw [21] (fun i wr => ∃ k : Nat, k ≤ a.length ∧ i = .int .i64 k ∧ Bld B B (joinB (a.take k)) wr ∧ Below B W1 wr ∧ Hid (∀ t ∈ a.take k, wrOk t = true)) (fun i _ => a.length - (intOf i).toNat)
    case atStart => exact ⟨0, Nat.zero_le _, rfl, hBl, hbw, hide (by simp)⟩
    case round =>
      obtain ⟨k, hk, rfl, hbl, hbe, HW⟩ := hrel
      have hBr : B ≤ wr.heap.size := by have := hbe.size; have := unhide HSZ; omega
      have hTr : TbW wr := hT2.below hbe (by omega)
      clear hBl hbw
      by_cases hlt : k < a.length
      · obtain ⟨b, off, rfl, hbl2, c0, c1, c2, c3⟩ := (hA2.below hbe (by rw [unhide HSZ]; exact Nat.le_refl _)).at k hlt
        have hokk := unhide HOK a[k] (List.getElem_mem hlt)
        have JN := join_next hlt
        have HJL := hide (join_len hk (by omega) (unhide HW))
        have WN := fun h => wr_next hlt (unhide HW) h
        have WR := tkWrite_any a[k] (wr.alloc (.cells a[k].c 75)) (hTr.alloc _) hokk.2.1 hokk.2.2.1.1 hokk.2.2.1.2
        have hbx : Bld B B (joinB (a.take k)) (wr.alloc (.cells a[k].c 75)) := hbl.alloc _
        have hbex : Below B W1 (wr.alloc (.cells a[k].c 75)) := hbe.alloc hBr _
        have hno : wrOk a[k] = false → ¬ (∀ t ∈ a, wrOk t = true) := fun h hh => by have := hh a[k] (List.getElem_mem hlt); rw [h] at this; cases this
        generalize wrOk a[k] = OK at *
        have hsl : ∀ h : OK = true, True := fun _ => trivial
        generalize hTe : a[k] = T at *
        obtain ⟨tk, ts, tn, tp⟩ := T
        unfold Tk.v at WR
        unfold Tk.c at WR hbx hbex
        dsimp only at *
        have HTE := hide hTe
        have HJN := hide JN
        have HWN := hide WN
        have HWR := hide WR
        have HNO := hide hno
        clear JN WN WR hno hTe hbl hbe hsl
        go_wp2_with fail
        refine (unhide HWR).mono ?_
        rintro e w2 ⟨bb, rfl, hbb, hb2⟩
        have hx2 := hbx.below hb2
        have hbe2 : Below B W1 w2 := hbex.trans (hb2.mono (by simp; omega))
        have hs2 : B ≤ w2.heap.size := by have := hb2.size; simp at this; omega
        clear hbx hbex hb2 HWR c0 c1 c2 c3
        cases OK with
        | false =>
          have hr := unhide HR
          rw [if_pos (unhide HNO rfl)] at hr
          subst hr
          have HB3 : Hid (Below w.heap.size w w2) := hide ((unhide HB2).trans (hbe2.mono (by omega)))
          go_wp2
          go_ret2
          exact ⟨rfl, unhide HB3⟩
        | true =>
          obtain rfl := hbb rfl
          have hall := unhide HWN rfl
          have hlen := join_len (k := k + 1) hlt (by omega) hall
          have hJL := unhide HJL
          have hjn := unhide HJN
          rw [hjn] at hlen
          have HALL := hide hall
          clear hall hbb HWN HJN HJL HNO
          generalize spell ⟨tk, ts, tn, tp⟩ = sp at *
          by_cases hk0 : 0 < k
          · rw [if_neg (by omega)] at hlen hjn
            have WB : Calls Tryz.prog 66 #[.pointer (some ⟨B, 0, none⟩), .int .u8 32] w2 fun e w' => e = .returned .nilIface ∧ Bld B B (joinB (a.take k) ++ [32]) w' ∧ Below B w2 w' := writeByte_any B B _ 32 w2 hx2 (by omega) (by omega) hs2
            have hsp : (txt sp).size ≤ 1060864 := by rw [txt_size]; simp only [List.length_append, List.length_singleton] at hlen; omega
            have hjl1 : (joinB (a.take k) ++ [32]).length ≤ 1060865 := by simp only [List.length_append, List.length_singleton]; omega
            have HJ : Hid (joinB (a.take k) ++ [32] ++ (txt sp).data.toList = joinB (a.take (k + 1))) := hide (by rw [hjn, txt_list])
            have HWB := hide WB
            clear WB hjn hlen
            go_wp2_with fail
            refine (unhide HWB).mono ?_
            rintro e w3 ⟨rfl, hx3, hb3⟩
            have hs3 : B ≤ w3.heap.size := Nat.le_trans hs2 hb3.size
            have WS := writeString_any B B (joinB (a.take k) ++ [32]) (txt sp) w3 hx3 (by omega) hs3
            have HWS := hide WS
            have hbe3 : Below B W1 w3 := hbe2.trans hb3
            clear WS hx3 hb3 hbe2 hx2 HWB
            go_wp2_with fail
            refine (unhide HWS).mono ?_
            rintro e w4 ⟨rfl, hx4, hb4⟩
            rw [unhide HJ] at hx4
            have hbe4 : Below B W1 w4 := hbe3.trans hb4
            clear hb4 hbe3 HWS HJ
            go_wp2
            go_roundw
            case rel => exact ⟨k + 1, by omega, by go_num, hx4, hbe4, HALL⟩
            case measure => simp [intOf]; omega
          · rw [if_pos (by omega)] at hlen hjn
            have hsp : (txt sp).size ≤ 1060864 := by rw [txt_size]; exact hlen
            have WS := writeString_any B B (joinB (a.take k)) (txt sp) w2 hx2 (by omega) hs2
            have HWS := hide WS
            have HJ : Hid (joinB (a.take k) ++ (txt sp).data.toList = joinB (a.take (k + 1))) := hide (by rw [hjn, txt_list, show k = 0 by omega]; rfl)
            clear WS hjn hlen hJL
            go_wp2_with fail
            refine (unhide HWS).mono ?_
            rintro e w3 ⟨rfl, hx3, hb3⟩
            rw [unhide HJ] at hx3
            have hbe3 : Below B W1 w3 := hbe2.trans hb3
            clear hb3 hx2 hbe2 HWS HJ
            go_wp2
            go_roundw
            case rel => exact ⟨k + 1, by omega, by go_num, hx3, hbe3, HALL⟩
            case measure => simp [intOf]; omega
      · have hka : k = a.length := by omega
        have hhw := unhide HW
        rw [hka, List.take_length] at hbl hhw
        have hr := unhide HR
        rw [if_neg (not_not_intro hhw)] at hr
        have hJL := joinB_len a hhw
        have q : CBox bE #[.int .i64 ek, .string es, .int .i64 en, .int .i64 ep] 75 wr := by unfold CBox; rw [hbe.block bE (by omega)]; exact hE2
        have q1 := CBox.cell (i := 1) (v := .string es) q rfl
        have q2 := CBox.cell (i := 2) (v := .int .i64 en) q rfl
        have HBW : Hid (Below w.heap.size w wr) := hide ((unhide HB2).trans (hbe.mono (by omega)))
        clear HR HW hka hhw q hbe hE2 hA2
        by_cases hes : es.size = 0
        · have g1 : es.toList.isEmpty = true := by rw [ByteArray.toList_eq, List.isEmpty_iff]; exact List.eq_nil_of_length_eq_zero (by rw [size_list]; exact hes)
          by_cases hen : en = 0
          · rw [if_neg (not_not_intro ⟨hes, hen⟩)] at hr
            have HES := hide hes
            subst hen
            clear hes
            have BL := bLen_any B B _ wr hbl
            have BS := bString_any B B _ wr hbl hBr
            generalize joinB a = J at *
            have HBL := hide BL
            have HBS := hide BS
            clear BL BS hbl
            by_cases hJ : 262144 < J.length
            · rw [if_pos hJ] at hr
              subst hr
              go_wp2_with fail
              refine (unhide HBL).mono ?_
              rintro e w3 ⟨rfl, rfl⟩
              go_wp2
              go_ret2
              exact ⟨rfl, unhide HBW⟩
            · rw [if_neg hJ] at hr
              subst hr
              go_wp2_with fail
              refine (unhide HBL).mono ?_
              rintro e w3 ⟨rfl, rfl⟩
              go_wp2_with fail
              refine (unhide HBS).mono ?_
              rintro e w3 ⟨rfl, hb3⟩
              have HB3 : Hid (Below w.heap.size w w3) := hide ((unhide HBW).trans (hb3.mono (by omega)))
              clear hb3
              go_wp2
              go_ret2
              exact ⟨rfl, unhide HB3⟩
          · rw [if_pos (fun h => hen h.2)] at hr
            subst hr
            have g2 : (en != 0) = true := by simpa using hen
            have HES := hide hes
            clear hes hbl hen
            go_wp2
            go_ret2
            exact ⟨rfl, unhide HBW⟩
        · rw [if_pos (fun h => hes h.1)] at hr
          subst hr
          have g1 : es.toList.isEmpty = false := by
            rw [ByteArray.toList_eq, List.isEmpty_eq_false_iff]
            intro e
            have := size_list es
            rw [e] at this
            simp at this
            omega
          clear hes hbl
          go_wp2
          go_ret2
          exact ⟨rfl, unhide HBW⟩
end Go.Proofs.YtgcmfcidmmjfiaaGreatDoor
namespace Go.Proofs.YtgcmfcidmmjfiaaGreatDoor
open Go.RowKit Go.Shelf

theorem OwnsK.low {B : Nat} {w : World} {v : Value} {l : List Tk} (h : OwnsK B w v l) (hl : l ≠ []) : TksLow w.heap.size w v l := by
  obtain ⟨ad, cp, rfl, ha, _⟩ := h.at
  obtain ⟨b, off, rfl, hlt, hc⟩ := ha hl
  exact ⟨b, off, cp, rfl, hlt, hc⟩
/-- What Read tells. -/
def RdT (B : Nat) (o : RO) (e : Ending) (w' : World) : Prop := ∃ v, e = .returned (.tuple #[v, .agg #[.int .i64 o.at_, .int .i64 o.c]]) ∧ OwnsP B w' v o.x
theorem RdT.nil {B : Nat} {o : RO} {a c : Int} {w' : World} (h : o = ⟨[], a, c⟩) : RdT B o (.returned (.tuple #[.slice none 0 0, .agg #[.int .i64 a, .int .i64 c]])) w' := by
  subst h
  exact ⟨_, rfl, OwnsP.nil _ _⟩
theorem RdT.parts {B : Nat} {o : RO} {x : List Pt} {v : Value} {w' : World} (h : o = ⟨x, 0, 0⟩) (ho : OwnsP B w' v x) : RdT B o (.returned (.tuple #[v, .agg #[.int .i64 0, .int .i64 0]])) w' := by
  subst h
  exact ⟨v, rfl, ho⟩
theorem tk_sz (s : ByteArray) (ts : List Tk) (h : tsR s = .good ts) : ∀ t ∈ ts ++ [endZ s.size], t.s.size ≤ 140737488351232 := by
  rcases tsR_code s with ⟨ts', h1, h2, _⟩ | ⟨_, hc⟩
  · rw [h] at h1
    cases h1
    intro t ht
    rcases List.mem_append.1 ht with h1 | h1
    · have := ((wrOk_iff t).1 ((toks_ok _ 0 0 ts h2 (by omega)).2 t h1)).1
      omega
    · simp only [List.mem_singleton] at h1
      subst h1
      have : (endZ s.size).s.size = 0 := rfl
      omega
  · rw [h] at hc
    exact absurd rfl hc
/-- Two faults beside one another: one is written. -/
theorem rd_flt {a b : Nat} {w : World} (ha : FBox a w) (hb : FBox b w) (hne : a ≠ b) (x y : Value) : (((w.setCell ⟨b, 0, none⟩ x).setCell ⟨b, 1, none⟩ y).cell? ⟨b, 0, none⟩ = some x ∧ ((w.setCell ⟨b, 0, none⟩ x).setCell ⟨b, 1, none⟩ y).cell? ⟨b, 1, none⟩ = some y) ∧ FBox a ((w.setCell ⟨b, 0, none⟩ x).setCell ⟨b, 1, none⟩ y) :=
  ⟨two_cells (hb.two x y), CBox.kp (CBox.kp ha (Kp.set _ _ _ _) (by simpa using hne)) (Kp.set _ _ _ _) (by simpa using hne)⟩
/-- Writing a fault touches no row of parts. -/
theorem OwnsP.flt {B b : Nat} {w : World} {v : Value} {l : List Pt} (h : OwnsP B w v l) (hb : FBox b w) (x y : Value) : OwnsP B ((w.setCell ⟨b, 0, none⟩ x).setCell ⟨b, 1, none⟩ y) v l := by
  refine row_kp (F := [b]) h ((Kp.set w b 0 x).trans (Kp.set (w.setCell ⟨b, 0, none⟩ x) b 1 y) (by simp)) (fun g hg => ?_)
  have := row_ne h hb (by decide)
  rw [hg] at this
  simpa using this
end Go.Proofs.YtgcmfcidmmjfiaaGreatDoor
namespace Go.Proofs.YtgcmfcidmmjfiaaGreatDoor
open Go.RowKit Go.Shelf

theorem tkEq_self (t : Tk) : tkEq t t = true := (tkEq_iff t t).2 rfl
set_option maxHeartbeats 1000000 in
set_option maxRecDepth 100000 in
theorem equalTks_any (a1 a2 : Option Addr) (c1 c2 : Nat) (l : List Tk) (w : World) (h1 : TksAt w a1 l) (h2 : TksAt w a2 l) (hl : l.length ≤ 9223372036854775807) :
    Calls Tryz.prog 158 #[.slice a1 l.length c1, .slice a2 l.length c2] w fun e w' => e = .returned (.bool true) ∧ Kp [] w w' := by
  have H1 := hide h1
  have H2 := hide h2
  clear h1 h2
  go_enter Tryz.func158, Tryz.ntmps158
  go_wp2_with fail
  go_loopw [13] (fun i wr => ∃ k : Nat, k ≤ l.length ∧ i = .int .i64 (k : Int) ∧ Kp [] w wr) (fun i _ => l.length - (intOf i).toNat)
  case atStart => exact ⟨0, Nat.zero_le _, rfl, Kp.refl _ _⟩
  case round =>
    obtain ⟨k, hk, rfl, kp⟩ := hrel
    by_cases hlt : k < l.length
    · have kp2 := kp.trans (Kp.drew wr) (by simp)
      obtain ⟨b1, o1, rfl, _, x0, x1, x2, x3⟩ := ((unhide H1).kp kp2).at k hlt
      obtain ⟨b2, o2, rfl, _, y0, y1, y2, y3⟩ := ((unhide H2).kp kp2).at k hlt
      obtain ⟨_, _, e1, _, u0, u1, u2, u3⟩ := ((unhide H1).kp kp).at k hlt
      obtain ⟨_, _, e2, _, v0, v1, v2, v3⟩ := ((unhide H2).kp kp).at k hlt
      cases e1
      cases e2
      have hli : (k : Int) < (l.length : Int) := by omega
      have KP := hide kp
      have KP2 := hide kp2
      have HEQ := fun d W => eqT d l[k] l[k] W
      clear H1 H2 kp kp2
      generalize l[k] = e at *
      rw [tkEq_self] at HEQ
      obtain ⟨ek, es, en, ep⟩ := e
      unfold Tk.v at HEQ
      dsimp only at x0 x1 x2 x3 y0 y1 y2 y3 u0 u1 u2 u3 v0 v1 v2 v3 HEQ
      go_wp2_with fail
      first
        | (go_roundw
           case rel => exact ⟨k + 1, by omega, by go_num, unhide KP⟩
           case measure => simp [intOf]; omega)
        | (have cS := And.intro x0 (And.intro x1 (And.intro x2 (And.intro x3 (And.intro y0 (And.intro y1 (And.intro y2 y3))))))
           go_region_held3 (fun W => W.cell? ⟨b1, o1 + k * 4, none⟩ = some (.int .i64 ek) ∧ W.cell? ⟨b1, o1 + k * 4 + 1, none⟩ = some (.string es) ∧ W.cell? ⟨b1, o1 + k * 4 + 2, none⟩ = some (.int .i64 en) ∧ W.cell? ⟨b1, o1 + k * 4 + 3, none⟩ = some (.int .i64 ep) ∧ W.cell? ⟨b2, o2 + k * 4, none⟩ = some (.int .i64 ek) ∧ W.cell? ⟨b2, o2 + k * 4 + 1, none⟩ = some (.string es) ∧ W.cell? ⟨b2, o2 + k * 4 + 2, none⟩ = some (.int .i64 en) ∧ W.cell? ⟨b2, o2 + k * 4 + 3, none⟩ = some (.int .i64 ep))
             (first | with_reducible exact cS)
             (first | fail)
           go_wp2
           go_roundw
           case rel => exact ⟨k + 1, by omega, by go_num, unhide KP2⟩
           case measure => simp [intOf]; omega)
    · go_wp2
      go_ret
      exact ⟨rfl, kp⟩
theorem rep32 (n : Nat) : Lib.repeatL [32] n = List.replicate n 32 := by
  induction n with
  | zero => rfl
  | succ n ih => rw [Lib.repeatL, ih, List.replicate_succ]; rfl
theorem repeat32_any (n : Nat) (w : World) (hn : n ≤ 262144) : Calls Tryz.prog 157 #[.string ⟨#[32]⟩, .int .i64 (n : Int)] w fun e w' => e = .returned (.string (txt (List.replicate n 32))) ∧ Below w.heap.size w w' := by
  have := Tryz.strings_Repeat ⟨#[32]⟩ n w (by omega) (by show 1 * n ≤ _; omega)
  have e : (⟨#[32]⟩ : ByteArray).data.toList = [32] := rfl
  rw [e, rep32] at this
  exact this
theorem joR_tok {t : Tk} (h : wrOk t = true ∨ ∃ n, t = endZ n) : joR [t] = (spell t, 0) := by
  rcases h with h | ⟨n, rfl⟩
  · obtain ⟨h0, _, _, _, h4⟩ := wr_facts h
    have e : isEnd [t] = false := by unfold isEnd; simpa using h0
    have e1 : cutL [t] = [t] := by unfold cutL; rw [e]; rfl
    have e2 : endT [t] = ⟨0, ⟨#[]⟩, 0, 0⟩ := by unfold endT; rw [e]; rfl
    have e3 : joinB [t] = spell t := by unfold joinB tailB; simp
    unfold joR
    rw [e1, e2, e3, if_neg (by simp), if_neg (not_not_intro (by simpa using h)), if_neg (not_not_intro ⟨rfl, rfl⟩), if_neg (by omega)]
  · have e : isEnd [endZ n] = true := rfl
    have e1 : cutL [endZ n] = [] := by unfold cutL; rw [e]; rfl
    have e2 : endT [endZ n] = endZ n := by unfold endT; rw [e]; rfl
    unfold joR
    rw [e1, e2, if_neg (by simp), if_neg (not_not_intro (by simp)), if_neg (not_not_intro ⟨rfl, rfl⟩), if_neg (by simp [joinB]), spell_end]
    rfl
end Go.Proofs.YtgcmfcidmmjfiaaGreatDoor
