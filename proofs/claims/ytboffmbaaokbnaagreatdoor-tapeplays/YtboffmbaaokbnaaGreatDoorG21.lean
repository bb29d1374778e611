/-
  The document's tape: as it lies; Read, Last.
  The document's tape: Open.
  Texts put at the end of a row of the call's own.
  The document's tape: Append.
  The document's disk: the cells of a row of changes.
-/
import Derived.Test.YtboffmbaaokbnaaGreatDoorG13
import Derived.Test.YtboffmbaaokbnaaGreatDoorG19
import Derived.Test.YtboffmbaaokbnaaGreatDoorG20
import Derived.Test.YtboffmbaaokbnaaGreatDoorG11
import Derived.Laws.AppendOwnNone
import Derived.Deep.RegionHeld3
import Derived.Deep.DeepCutAuto
namespace Go.Proofs.YtboffmbaaokbnaaGreatDoor
open Go.RowKit

/-- The document's tape lies there. -/
structure RqAt (w : World) (m q : Nat) (n : ByteArray) (v : Value) (ts : List (List UInt8)) (E : Nat) : Prop where
  box : CBox m #[.pointer (some ⟨q, 0, none⟩), .string n, v, .int .i64 (E : Int)] 70 w
  row : Txs w v ts
theorem RqAt.kp {G : List Nat} {w w' : World} {m q : Nat} {n : ByteArray} {v : Value} {ts : List (List UInt8)} {E : Nat} (h : RqAt w m q n v ts E) (hk : Kp G w w') (hm : m ∉ G) (hv : ∀ k, v.ownBlock = some k → k ∉ G) : RqAt w' m q n v ts E := ⟨h.box.kp hk hm, h.row.kp hk hv⟩
theorem RqAt.cells {w : World} {m q : Nat} {n : ByteArray} {v : Value} {ts : List (List UInt8)} {E : Nat} (h : RqAt w m q n v ts E) : w.cell? ⟨m, 0, none⟩ = some (.pointer (some ⟨q, 0, none⟩)) ∧ w.cell? ⟨m, 1, none⟩ = some (.string n) ∧ w.cell? ⟨m, 2, none⟩ = some v ∧ w.cell? ⟨m, 3, none⟩ = some (.int .i64 (E : Int)) := ⟨h.box.cell rfl, h.box.cell rfl, h.box.cell rfl, h.box.cell rfl⟩
theorem Txs.form {w : World} {v : Value} {ts : List (List UInt8)} (h : Txs w v ts) : ∃ ad cap, v = .slice ad ts.length cap := by
  rcases h.shape with ⟨rfl, rfl⟩ | ⟨g, cap, rfl, _⟩
  · exact ⟨none, 0, rfl⟩
  · exact ⟨_, cap, rfl⟩
theorem Txs.at0 {w : World} {ad : Option Addr} {n cap : Nat} {ts : List (List UInt8)} (h : Txs w (.slice ad n cap) ts) (i : Nat) (hi : i < ts.length) : ∃ g, ad = some ⟨g, 0, none⟩ ∧ w.cell? ⟨g, i, none⟩ = some (.string ⟨ts[i].toArray⟩) := by
  rcases h.shape with ⟨e, rfl⟩ | ⟨g, cap', e, _⟩
  · simp at hi
  · simp only [Value.slice.injEq] at e
    obtain ⟨rfl, rfl, rfl⟩ := e
    exact ⟨g, rfl, OwnsS.cell h i hi⟩
set_option maxHeartbeats 1000000 in
theorem rqread_ok (m q : Nat) (n : ByteArray) (v : Value) (ts : List (List UInt8)) (E k : Nat) (hk : k < ts.length) (w : World) (h : RqAt w m q n v ts E) :
    Calls Tryz.prog 21 #[.pointer (some ⟨m, 0, none⟩), .int .i64 (k : Int)] w fun r w' => r = .returned (.tuple #[.string ⟨ts[k].toArray⟩, .int .i64 0]) ∧ w' = w := by
  obtain ⟨ad, cap, rfl⟩ := h.row.form
  obtain ⟨g, rfl, e1⟩ := h.row.at0 k hk
  obtain ⟨c0, c1, c2, c3⟩ := h.cells
  generalize (⟨ts[k].toArray⟩ : ByteArray) = s at *
  have h1 : (k : Int) < (ts.length : Int) := by omega
  have h0 : ¬ ((k : Int) < 0) := by omega
  clear h
  go_enter Tryz.func21, Tryz.ntmps21
  go_wp2
  go_ret2
  exact ⟨rfl, rfl⟩
theorem rqread_not (m q : Nat) (n : ByteArray) (v : Value) (ts : List (List UInt8)) (E : Nat) (i : Int) (hi : ¬ (0 ≤ i ∧ i < (ts.length : Int))) (w : World) (h : RqAt w m q n v ts E) :
    Calls Tryz.prog 21 #[.pointer (some ⟨m, 0, none⟩), .int .i64 i] w fun r w' => r = .returned (.tuple #[.string ⟨#[]⟩, .int .i64 1]) ∧ w' = w := by
  obtain ⟨ad, cap, rfl⟩ := h.row.form
  obtain ⟨c0, c1, c2, c3⟩ := h.cells
  clear h
  go_enter Tryz.func21, Tryz.ntmps21
  by_cases h0 : i < 0
  · go_wp2
    go_ret2
    exact ⟨rfl, rfl⟩
  · have h1 : (ts.length : Int) ≤ i := by omega
    go_wp2
    go_ret2
    exact ⟨rfl, rfl⟩
set_option maxHeartbeats 1000000 in
theorem rqlast_ok (m q : Nat) (n : ByteArray) (v : Value) (ts : List (List UInt8)) (E k : Nat) (hk : ts.length = k + 1) (hl : ts.length ≤ 1000000) (w : World) (h : RqAt w m q n v ts E) :
    Calls Tryz.prog 23 #[.pointer (some ⟨m, 0, none⟩)] w fun r w' => r = .returned (.tuple #[.string ⟨(ts.getD k []).toArray⟩, .int .i64 0]) ∧ Kp [] w w' := by
  obtain ⟨ad, cap, rfl⟩ := h.row.form
  obtain ⟨g, rfl, e1⟩ := h.row.at0 k (by omega)
  obtain ⟨c0, c1, c2, c3⟩ := h.cells
  have eg : ts.getD k [] = ts[k] := by rw [List.getD_eq_getElem?_getD, List.getElem?_eq_getElem (by omega)]; rfl
  rw [eg]
  generalize (⟨ts[k].toArray⟩ : ByteArray) = s at *
  rw [hk] at c2
  clear h eg
  have hne : ¬ (((k + 1 : Nat) : Int) = 0) := by omega
  have hk1 : ((k + 1 : Nat) : Int) - 1 = (k : Int) := by omega
  have hk2 : ((k : Int) + 1) - 1 = (k : Int) := by omega
  have hk3 : IntKind.i64.wrap (((k : Int) + 1) - 1) = (k : Int) := by rw [IntKind.wrap_i64]; omega
  have hk4 : (k : Int) < (k : Int) + 1 := by omega
  go_enter Tryz.func23, Tryz.ntmps23
  go_wp2_with fail
  go_region
  go_wp2
  go_ret2
  exact ⟨rfl, Kp.drew _⟩
theorem rqlast_not (m q : Nat) (n : ByteArray) (v : Value) (E : Nat) (w : World) (h : RqAt w m q n v [] E) :
    Calls Tryz.prog 23 #[.pointer (some ⟨m, 0, none⟩)] w fun r w' => r = .returned (.tuple #[.string ⟨#[]⟩, .int .i64 5]) ∧ w' = w := by
  obtain ⟨ad, cap, rfl⟩ := h.row.form
  obtain ⟨c0, c1, c2, c3⟩ := h.cells
  clear h
  go_enter Tryz.func23, Tryz.ntmps23
  go_wp2
  go_ret2
  exact ⟨rfl, rfl⟩
end Go.Proofs.YtboffmbaaokbnaaGreatDoor
namespace Go.Proofs.YtboffmbaaokbnaaGreatDoor
open Go.RowKit

theorem RDid.pre {w w1 w2 : World} {G : List Nat} {q : Nat} {d : Dk} (hk : Kp [] w w1) (h : RDid w1 G q d w2) : RDid w G q d w2 := by
  obtain ⟨F', h1, h2, h3⟩ := h
  exact ⟨F', h1, (hk.mono (by simp)).trans h2 (fun x hx => Or.inl hx), fun k hm => (h3 k hm).imp id (fun h => Nat.le_trans hk.size h)⟩
theorem RDid.post {w w1 w2 : World} {G : List Nat} {q : Nat} {d : Dk} (h : RDid w G q d w1) (hk : Kp [] w1 w2) : RDid w G q d w2 := by
  obtain ⟨F', h1, h2, h3⟩ := h
  exact ⟨F', h1.kp hk (by simp), h2.trans hk (by simp), h3⟩
theorem RDk.did' {w w1 : World} {G : List Nat} {q : Nat} {d : Dk} (h : RDk w q d G) (hk : Kp [] w w1) : RDid w G q d w1 := RDid.post (RDid.same h) hk
/-- What Open of the document gives. -/
def RqO (w : World) (G : List Nat) (q : Nat) (d : Dk) (n : ByteArray) (r : Ending) (w' : World) : Prop :=
  (d.opE n = 0 ∧ ∃ m v, r = .returned (.tuple #[.pointer (some ⟨m, 0, none⟩), .int .i64 0]) ∧ RDid w G q (d.opD n) w' ∧ RqAt w' m q n v (d.opL n) (d.fEnd n) ∧ w.heap.size ≤ m ∧ (∀ k, v.ownBlock = some k → w.heap.size ≤ k)) ∨
  (d.opE n ≠ 0 ∧ r = .returned (.tuple #[.pointer none, .int .i64 (d.opE n)]) ∧ RDid w G q (d.opD n) w')
theorem frs_none : frsS [] = ([], 0) := rfl
set_option maxHeartbeats 2000000 in
set_option maxRecDepth 100000 in
theorem rqopen_any (q : Nat) (n : ByteArray) (d : Dk) (G : List Nat) (w : World) (h : RDk w q d G) (hi : Inv d) (hnd : (d.now.map (·.1)).Nodup) (hs : n.size ≤ 9223372036854775807) :
    Calls Tryz.prog 14 #[.pointer (some ⟨q, 0, none⟩), .string n] w fun r w' => RqO w G q d n r w' := by
  have RD := hide (rread_dk n q d G w h hnd hs)
  have H0 := hide h
  have hE : d.opE n = if dnm n = false then 30 else if d.fEnd n < (hasF d.now n).length then (if d.fCode n = 11 then d.ctE n (d.fEnd n : Int) else 40) else 0 := rfl
  have hD : d.opD n = if dnm n = false then d else if d.fEnd n < (hasF d.now n).length then (if d.fCode n = 11 then d.ctD n (d.fEnd n : Int) else d) else d := rfl
  have hlen : (hasF d.now n).length ≤ 262144 := Nat.le_trans (hasF_le n) hi.now.1.1
  cases hd : dnm n with
  | false =>
    have e1 : d.rdE n = 30 := if_pos hd
    rw [e1] at RD
    rw [if_pos hd] at hE hD
    have HF : Hid (∀ w', Kp [] w w' → RqO w G q d n (.returned (.tuple #[.pointer none, .int .i64 30])) w') := hide (fun w' hk => Or.inr ⟨by rw [hE]; decide, by rw [hE], by rw [hD]; exact h.did' hk⟩)
    clear hE hD hd e1 hi hnd hlen h
    go_enter Tryz.func14, Tryz.ntmps14
    go_wp2_with fail
    refine (unhide RD).mono ?_
    rintro r w1 ⟨rfl, hk⟩
    have HK := hide hk
    clear hk RD
    generalize d.rdS n = b at *
    go_wp2
    go_ret2
    exact unhide HF _ (unhide HK)
  | true =>
    rw [if_neg (by simp [hd])] at hE hD
    cases hg : getF d.now n with
    | none =>
      have hh : hasF d.now n = [] := by unfold hasF; rw [hg]; rfl
      have e1 : d.rdE n = 5 := badN_5 hd (by rw [hg]; rfl)
      have e2 : d.fEnd n = 0 := by unfold Dk.fEnd; rw [hh]; rfl
      have e3 : d.opL n = [] := by unfold Dk.opL; rw [hh]; rfl
      rw [e1] at RD
      rw [e2, hh] at hE hD
      rw [if_neg (by simp)] at hE hD
      have HF : Hid (∀ w1, Kp [] w w1 → RqO w G q d n (.returned (.tuple #[.pointer (some ⟨w1.heap.size, 0, none⟩), .int .i64 0])) (w1.alloc (.cells #[.pointer (some ⟨q, 0, none⟩), .string n, .slice none 0 0, .int .i64 0] 70))) := hide (fun w1 hk => Or.inl ⟨hE, w1.heap.size, .slice none 0 0, rfl, by rw [hD]; exact h.did' (hk.trans (Kp.alloc _ _) (by simp)), by rw [e2, e3]; exact ⟨CBox.new _ _ _, OwnsS.nil _ _⟩, hk.size, fun k hk => by cases hk⟩)
      clear hE hD hd e1 e2 e3 hi hnd hlen h hh hg
      go_enter Tryz.func14, Tryz.ntmps14
      go_wp2_with fail
      refine (unhide RD).mono ?_
      rintro r w1 ⟨rfl, hk⟩
      have HK := hide hk
      clear hk RD
      generalize d.rdS n = b at *
      go_wp2
      go_ret2
      exact unhide HF _ (unhide HK)
    | some x =>
      have hsome : (getF d.now n).isSome = true := by rw [hg]; rfl
      have e1 : d.rdE n = 0 := badN_0 hd hsome
      have e2 : d.rdS n = ⟨(hasF d.now n).toArray⟩ := by unfold Dk.rdS; rw [if_pos (badN_0 hd hsome)]
      rw [e1, e2] at RD
      have hbl : (⟨(hasF d.now n).toArray⟩ : ByteArray).data.toList = hasF d.now n := by simp
      have hbs : (⟨(hasF d.now n).toArray⟩ : ByteArray).size = (hasF d.now n).length := by show (hasF d.now n).toArray.size = _; simp
      have FR := hide (fun W => refFrames_any ⟨(hasF d.now n).toArray⟩ W (by rw [hbs]; omega))
      have UF := hide (fun W => refUnframe_any ⟨(hasF d.now n).toArray⟩ (d.fEnd n : Int) W (by rw [hbs]; omega))
      rw [hbl] at FR UF
      have hfe : (frsS (hasF d.now n)).2 = d.fEnd n := rfl
      have hfl : (frsS (hasF d.now n)).1 = d.opL n := rfl
      rw [hfe, hfl] at FR
      have hle := fEnd_le d n
      have hcode := unf_code (hasF d.now n) (d.fEnd n) hle
      have hfc : (bodyS ((hasF d.now n).drop (d.fEnd n))).2 = d.fCode n := rfl
      rw [hfc] at hcode
      rw [hcode] at UF
      have CT := hide (fun W (hk : Kp [] w W) => rcut_any n (d.fEnd n : Int) q d G W (h.kp hk (by simp)) hi hs)
      have HLT := hide (fun k hk => h.lt k hk)
      have HDD := hide (fun w1 (hk : Kp [] w w1) => h.did' hk)
      generalize hB : (⟨(hasF d.now n).toArray⟩ : ByteArray) = b at *
      generalize (unfS (hasF d.now n) (d.fEnd n : Int)).1 = u1 at *
      generalize (unfS (hasF d.now n) (d.fEnd n : Int)).2.1 = u2 at *
      generalize (unfS (hasF d.now n) (d.fEnd n : Int)).2.2.1 = u3 at *
      rw [← hbs] at hE hD
      clear hB hcode hfc hfe hfl hbl e1 e2 hg hsome hi hnd hd h hle hbs hlen
      have HQ : Hid (∀ r w', (d.opE n = 0 ∧ ∃ m v, r = .returned (.tuple #[.pointer (some ⟨m, 0, none⟩), .int .i64 0]) ∧ RDid w G q (d.opD n) w' ∧ RqAt w' m q n v (d.opL n) (d.fEnd n) ∧ w.heap.size ≤ m ∧ (∀ k, v.ownBlock = some k → w.heap.size ≤ k)) ∨ (d.opE n ≠ 0 ∧ r = .returned (.tuple #[.pointer none, .int .i64 (d.opE n)]) ∧ RDid w G q (d.opD n) w') → RqO w G q d n r w') := hide (fun _ _ h => h)
      generalize d.fEnd n = E at *
      generalize d.fCode n = C at *
      generalize d.opL n = L at *
      go_enter Tryz.func14, Tryz.ntmps14
      go_wp2_with fail
      refine (unhide RD).mono ?_
      rintro r w1 ⟨rfl, hk1⟩
      have HK1 := hide hk1
      clear hk1 RD
      go_wp2_with fail
      refine (unhide FR _).mono ?_
      rintro r w2 ⟨v, rfl, ow, bl2⟩
      have HW2 := hide ow
      obtain ⟨ad, cp, hv, _⟩ := ow.texts
      have HV := hide hv
      clear hv
      have HK2 := hide ((unhide HK1).trans (Kp.ofBelow bl2) (by simp))
      clear ow bl2 FR
      go_wp2_with fail
      refine (unhide UF _).mono ?_
      rintro r w3 ⟨rfl, bl3⟩
      have k34 := (Kp.ofBelow bl3).trans (Kp.alloc w3 (.cells #[.int .i64 u3, .int .i64 C] 84)) (by simp)
      have HK4 := hide ((unhide HK2).trans k34 (by simp))
      have HR4 := hide ((unhide HW2).kp k34 (by simp))
      have hb4 := CBox.new w3 #[.int .i64 u3, .int .i64 C] 84
      obtain ⟨c0, c1⟩ : (w3.alloc (.cells #[.int .i64 u3, .int .i64 C] 84)).cell? ⟨w3.heap.size, 0, none⟩ = some (.int .i64 u3) ∧ (w3.alloc (.cells #[.int .i64 u3, .int .i64 C] 84)).cell? ⟨w3.heap.size, 1, none⟩ = some (.int .i64 C) := ⟨hb4.cell rfl, hb4.cell rfl⟩
      have HVB : Hid (∀ k, v.ownBlock = some k → w.heap.size ≤ k) := hide (fun k hk => Nat.le_trans (unhide HK1).size ((unhide HW2).block hk).1)
      have HVG : Hid (∀ k, v.ownBlock = some k → k ∉ G) := hide (fun k hk hm => by
        have h1 := ((unhide HW2).block hk).1
        have h2 := unhide HLT k hm
        have h3 := (unhide HK1).size
        omega)
      clear UF bl3 k34 hb4 HW2
      by_cases hlt : E < b.size
      · have hlt' : (E : Int) < (b.size : Int) := by omega
        rw [if_pos hlt] at hE hD
        by_cases hC : C = 11
        · subst hC
          rw [if_pos rfl] at hE hD
          have HE := hide hE
          have HD := hide hD
          clear hE hD
          go_wp2_with fail
          generalize w3.alloc (.cells #[.int .i64 u3, .int .i64 11] 84) = W4 at *
          refine (unhide CT _ (unhide HK4)).mono ?_
          rintro r w5 ⟨rfl, hd5⟩
          have H5 := hide hd5
          clear hd5 CT c0 c1
          by_cases hX : d.ctE n (E : Int) = 0
          · have FN : Hid (RqO w G q d n (.returned (.tuple #[.pointer (some ⟨w5.heap.size, 0, none⟩), .int .i64 0])) (w5.alloc (.cells #[.pointer (some ⟨q, 0, none⟩), .string n, v, .int .i64 (E : Int)] 70))) := hide (unhide HQ _ _ (Or.inl ⟨by rw [unhide HE, hX], w5.heap.size, v, rfl, by rw [unhide HD]; exact RDid.post (RDid.pre (unhide HK4) (unhide H5)) (Kp.alloc _ _), ⟨CBox.new _ _ _, OwnsS.low (((unhide HR4).kp (let ⟨_, _, h2, _⟩ := unhide H5; h2) (unhide HVG)).kp (Kp.alloc _ _) (by simp))⟩, Nat.le_trans (unhide HK4).size (let ⟨_, _, h2, _⟩ := unhide H5; h2.size), unhide HVB⟩))
            generalize d.ctE n (E : Int) = X at *
            subst hX
            have hv := unhide HV
            subst hv
            go_wp2
            go_ret2
            exact unhide FN
          · have FN : Hid (RqO w G q d n (.returned (.tuple #[.pointer none, .int .i64 (d.ctE n (E : Int))])) w5) := hide (unhide HQ _ _ (Or.inr ⟨by rw [unhide HE]; exact hX, by rw [unhide HE], by rw [unhide HD]; exact RDid.pre (unhide HK4) (unhide H5)⟩))
            generalize d.ctE n (E : Int) = X at *
            have hX2 : (X == 0) = false := by simpa using hX
            go_wp2
            go_ret2
            exact unhide FN
        · rw [if_neg hC] at hE hD
          have FN := hide (unhide HQ (.returned (.tuple #[.pointer none, .int .i64 40])) _ (Or.inr ⟨by rw [hE]; decide, by rw [hE], by rw [hD]; exact unhide HDD _ (unhide HK4)⟩))
          have hC2 : (C == 11) = false := by simpa using hC
          clear hE hD CT
          go_wp2
          go_ret2
          exact unhide FN
      · have hlt' : ¬ ((E : Int) < (b.size : Int)) := by omega
        rw [if_neg hlt] at hE hD
        have k5 := Kp.alloc (w3.alloc (.cells #[.int .i64 u3, .int .i64 C] 84)) (.cells #[.pointer (some ⟨q, 0, none⟩), .string n, v, .int .i64 (E : Int)] 70)
        have b5 := CBox.new (w3.alloc (.cells #[.int .i64 u3, .int .i64 C] 84)) #[.pointer (some ⟨q, 0, none⟩), .string n, v, .int .i64 (E : Int)] 70
        have FN := hide (unhide HQ (.returned (.tuple #[.pointer (some ⟨(w3.alloc (.cells #[.int .i64 u3, .int .i64 C] 84)).heap.size, 0, none⟩), .int .i64 0])) _ (Or.inl ⟨hE, _, v, rfl, by rw [hD]; exact unhide HDD _ ((unhide HK4).trans k5 (by simp)), ⟨b5, OwnsS.low ((unhide HR4).kp k5 (by simp))⟩, (unhide HK4).size, unhide HVB⟩))
        clear hE hD CT k5 b5
        have hz : (w3.alloc (.cells #[.int .i64 u3, .int .i64 C] 84)).heap.size = w3.heap.size + 1 := by simp
        rw [hz] at FN
        clear hz
        have hv := unhide HV
        subst hv
        go_wp2
        go_ret2
        exact unhide FN
end Go.Proofs.YtboffmbaaokbnaaGreatDoor
namespace Go.Proofs.YtboffmbaaokbnaaGreatDoor
open Go.RowKit

/-- A row of texts put at the end of another one that is the call's own. -/
theorem appHas {w : World} {hv ov : Value} {A ts : List (List UInt8)} (h : Txs w hv ts) (ho : Txs w ov A) (hov : ov ≠ .slice none 0 0) (hl : A.length + ts.length ≤ 3000000) (ty : TypeId) :
    ∃ v' w', (Builtin.append_ #[62, 62] ty #[ov, hv]).run Tryz.prog w = .ok v' w' ∧ Txs w' v' (A ++ ts) ∧ w.grownBy w' ov.ownBlock ∧ (v'.ownBlock = ov.ownBlock ∨ v'.ownBlock = some w.heap.size) ∧ v' ≠ .slice none 0 0 := by
  obtain ⟨i0, hi, hz0, hz1, hz2⟩ := info_parts info_string
  obtain ⟨e, _⟩ | ⟨g2, cap2, rfl, hc2, hm2⟩ := ho.shape
  · exact absurd e hov
  obtain ⟨rfl, rfl⟩ | ⟨g, cap, rfl, hc, hm⟩ := h.shape
  · refine ⟨_, w, run_append_owned_none (P := Tryz.prog) (w := w) 0 _ ty 9 i0 1 Tryz.underlying62 hi _ _ _ ho, by simpa using ho, World.grownBy.refl _ _, Or.inl rfl, by simp⟩
  · by_cases h0 : ts = []
    · subst h0
      refine ⟨.slice (some ⟨g2, 0, none⟩) A.length cap2, w, ?_, by simpa using ho, World.grownBy.refl _ _, Or.inl rfl, by simp⟩
      have := run_append_room_cells (P := Tryz.prog) (w := w) 62 ty 9 i0 Tryz.underlying62 hi g2 0 A.length cap2 ⟨g, 0, none⟩ 0 cap [] (by simp) (fun j u hj => by simp at hj) (fun u hu => by cases hu) (by omega) (fun j hj => absurd hj (by simp)) (fun j hj => absurd hj (by simp))
      simpa [World.setCells] using this
    · have hpos : 0 < ts.length := List.length_pos_iff.2 h0
      obtain ⟨g3, cap3, w', hr, h1, h2, h3, _⟩ := run_append_lies (P := Tryz.prog) (w := w) 62 ty 0 9 i0 (.string ⟨#[]⟩) 1 16 Tryz.underlying62 hi hz0 hz1 hz2 rfl (by decide) _ _ _ ho ⟨g, 0, none⟩ ts.length cap (textC ts) (by unfold textC; simp) (fun j u hj => World.ownsRow.cells h (g := g) rfl j u hj) (by
        intro u hu
        unfold textC at hu
        obtain ⟨x, _, rfl⟩ := List.mem_map.1 hu
        rfl) hpos (by unfold maxLen; omega) (by omega) (Nat.zero_le _) _ rfl
      refine ⟨_, w', hr, ?_, h2, ?_, by simp⟩
      · unfold Txs OwnsS
        rw [List.length_append, textC_append]
        exact h1
      · rcases h3 with h3 | h3
        · exact Or.inl h3.symm
        · exact Or.inr (by rw [h3]; rfl)
end Go.Proofs.YtboffmbaaokbnaaGreatDoor
namespace Go.Proofs.YtboffmbaaokbnaaGreatDoor
open Go.RowKit

theorem RDk.no {w : World} {q : Nat} {d : Dk} {G : List Nat} (h : RDk w q d G) {k : Nat} {cur : Array Value} {t : TypeId} {f : Nat × Nat} (hk : w.heap[k]? = some (.cells cur t f)) (h1 : t ≠ 50) (h2 : t ≠ 68) (h3 : t ≠ 96) : k ∉ G := by
  obtain ⟨vs, vw, vn, hw, rfl⟩ := h
  have row : ∀ {T : TypeId} {n sz : Nat} {xs : List Value} {v : Value}, w.ownsRow 0 T sz v n xs → v.ownBlock = some k → ∃ c, w.heap[k]? = some (.cells c T (0, 0)) := fun ho hb => by
    obtain ⟨_, ⟨rfl, _⟩ | ⟨g, cp, c, rfl, _, hh, _⟩⟩ := ho
    · cases hb
    · simp [Value.ownBlock] at hb
      subst hb
      exact ⟨c, hh⟩
  intro hm
  rcases rfF_mem hm with rfl | hm | hm | hm
  · have hb : w.heap[k]? = _ := hw.box
    rw [hk] at hb
    injection hb with e; injection e with _ e; exact h1 e
  · obtain ⟨c, hc⟩ := row hw.safe hm
    rw [hk] at hc
    injection hc with e; injection e with _ e; exact h2 e
  · obtain ⟨c, hc⟩ := row hw.wait hm
    rw [hk] at hc
    injection hc with e; injection e with _ e; exact h3 e
  · obtain ⟨c, hc⟩ := row hw.now hm
    rw [hk] at hc
    injection hc with e; injection e with _ e; exact h2 e
theorem RqAt.no {w : World} {m q : Nat} {n : ByteArray} {v : Value} {ts : List (List UInt8)} {E : Nat} {d : Dk} {G : List Nat} (h : RqAt w m q n v ts E) (hd : RDk w q d G) : m ∉ G ∧ ∀ k, v.ownBlock = some k → k ∉ G ∧ k ≠ m := by
  refine ⟨hd.no h.box (by decide) (by decide) (by decide), fun k hk => ?_⟩
  obtain ⟨_, _, cur, hc⟩ := OwnsS.block h.row hk
  refine ⟨hd.no hc (by decide) (by decide) (by decide), ?_⟩
  rintro rfl
  have hb : w.heap[k]? = _ := h.box
  rw [hc] at hb
  injection hb with e; injection e with _ e; exact absurd e (by decide)
theorem wpList_has {w : World} {ops : Array Oper} {rest : List Oper} {o : Oper} {a : Act} {Q : Exit → Act → World → Prop} (hg : o.guard = none) (s x : Operand) (hop : o.op = .call { callee := .builtin .append, args := #[s, x], argTypes := #[62, 62] })
    {hv ov : Value} {A ts : List (List UInt8)} (hs : a.eval s = ov) (hx : a.eval x = hv) (h : Txs w hv ts) (ho : Txs w ov A) (hov : ov ≠ .slice none 0 0) (hl : A.length + ts.length ≤ 3000000)
    (hK : ∀ v' w', Hid (Txs w' v' (A ++ ts)) → Hid (w.grownBy w' ov.ownBlock) → Hid (v'.ownBlock = ov.ownBlock ∨ v'.ownBlock = some w.heap.size) → Hid (v' ≠ .slice none 0 0) → wpList Tryz.prog ops Q rest (a.put o.dst v') w') : wpList Tryz.prog ops Q (o :: rest) a w := by
  refine wpList_plain hg fun K' hK' => ?_
  obtain ⟨v', w', hrun, h1, h2, h3, h4⟩ := appHas h ho hov hl o.type
  have hk := hK' _ _ (hK v' w' h1 h2 h3 h4)
  unfold Oper.wp
  simp [execOp, hop, resolve, invoke, builtin, hs, hx, hrun, Result.andThen]
  exact hk
theorem txs_one (W : World) (s : ByteArray) : Txs (W.alloc (.cells #[.string s] 9)) (.slice (some ⟨W.heap.size, 0, none⟩) 1 1) [s.data.toList] :=
  ⟨rfl, Or.inr ⟨W.heap.size, 1, #[.string s], rfl, Nat.zero_le _, CBox.new W _ _, Nat.le_refl _, by unfold maxLen; omega, rfl, by unfold textC; simp⟩⟩
theorem txs_none (W : World) : Txs (W.alloc (.cells #[] 9)) (.slice (some ⟨W.heap.size, 0, none⟩) 0 0) [] :=
  ⟨rfl, Or.inr ⟨W.heap.size, 0, #[], rfl, Nat.zero_le _, CBox.new W _ _, Nat.le_refl _, by unfold maxLen; omega, rfl, rfl⟩⟩
/-- What Append of the document leaves where all goes well. -/
def RqP (w : World) (G : List Nat) (m q : Nat) (n : ByteArray) (d : Dk) (ts : List (List UInt8)) (E : Nat) (w' : World) : Prop :=
  ∃ G' v', RDk w' q d G' ∧ RqAt w' m q n v' ts E ∧ Kp (m :: G) w w' ∧ (∀ k ∈ G', k ∈ G ∨ w.heap.size ≤ k) ∧ ∀ k, v'.ownBlock = some k → w.heap.size ≤ k
set_option maxHeartbeats 2000000 in
set_option maxRecDepth 100000 in
theorem rqappend_any (m q : Nat) (n : ByteArray) (v : Value) (ts : List (List UInt8)) (s : ByteArray) (d : Dk) (G : List Nat) (w : World) (h : RqAt w m q n v ts (hasF d.now n).length) (hd : RDk w q d G) (hi : Inv d) (hts : ts.length ≤ 1000000) (hn : n.size ≤ 9223372036854775807) (hs : s.size ≤ 9223372036854775807) :
    Calls Tryz.prog 17 #[.pointer (some ⟨m, 0, none⟩), .string s] w fun r w' =>
      (d.apE n s = 0 ∧ r = .returned (.int .i64 0) ∧ RqP w G m q n (d.apD n s) (ts ++ [s.data.toList]) ((hasF d.now n).length + (frS s).size) w') ∨ (d.apE n s ≠ 0 ∧ r = .returned (.int .i64 (d.apE n s)) ∧ RDid w G q (d.apD n s) w') := by
  have FR := hide (fun W => refFrame_any s W hs)
  have hE : d.apE n s = if 65536 < s.size then 2 else d.wrE n ((hasF d.now n).length : Int) (frS s) := rfl
  have hD : d.apD n s = if 65536 < s.size then d else d.wrD n ((hasF d.now n).length : Int) (frS s) := rfl
  unfold frE at FR
  by_cases hbig : 65536 < s.size
  · rw [if_pos hbig] at hE hD FR
    rw [hE, hD]
    have HDD := hide (fun w1 (hk : Kp [] w w1) => hd.did' hk)
    generalize frS s = f at *
    clear hE hD h hd hi hbig
    go_enter Tryz.func17, Tryz.ntmps17
    go_wp2_with fail
    refine (unhide FR _).mono ?_
    rintro r w1 ⟨rfl, bl⟩
    have HK := hide (Kp.ofBelow bl)
    clear bl FR
    go_wp2
    go_ret
    exact Or.inr ⟨by decide, rfl, unhide HDD _ (unhide HK)⟩
  · rw [if_neg hbig] at hE hD FR
    rw [hE, hD]
    have hfs := frS_size s
    have WR := hide (fun W (hk : Kp [] w W) => rwrite_any n ((hasF d.now n).length : Int) (frS s) q d G W (hd.kp hk (by simp)) hi hn (by omega))
    have hlen : (hasF d.now n).length ≤ 262144 := Nat.le_trans (hasF_le n) hi.now.1.1
    obtain ⟨hmG, hvG⟩ := h.no hd
    have HT := hide h
    have HMG := hide hmG
    have HVG := hide hvG
    have HLT := hide (fun k (hk : k ∈ G) => hd.lt k hk)
    generalize (hasF d.now n).length = E at *
    generalize frS s = f at *
    clear hE hD h hd hi hmG hvG hbig
    go_enter Tryz.func17, Tryz.ntmps17
    go_wp2_with fail
    refine (unhide FR _).mono ?_
    rintro r w1 ⟨rfl, bl⟩
    have HK := hide (Kp.ofBelow bl)
    have HT1 := hide ((unhide HT).kp (unhide HK) (by simp) (by simp))
    clear bl FR
    have cS : w1.drew.cell? ⟨m, 0, none⟩ = some (.pointer (some ⟨q, 0, none⟩)) ∧ w1.drew.cell? ⟨m, 1, none⟩ = some (.string n) ∧ w1.drew.cell? ⟨m, 2, none⟩ = some v ∧ w1.drew.cell? ⟨m, 3, none⟩ = some (.int .i64 (E : Int)) := (unhide HT1).cells
    have HKd := hide ((unhide HK).trans (Kp.drew w1) (by simp))
    go_upto_region 4 with fail
    go_cut [7] (fun x wc => x = .int .i64 (d.wrE n (E : Int) f) ∧ Hid (RDid w G q (d.wrD n (E : Int) f) wc))
    case first =>
      go_region_held3 (fun W => W.cell? ⟨m, 0, none⟩ = some (.pointer (some ⟨q, 0, none⟩)) ∧ W.cell? ⟨m, 1, none⟩ = some (.string n) ∧ W.cell? ⟨m, 2, none⟩ = some v ∧ W.cell? ⟨m, 3, none⟩ = some (.int .i64 (E : Int)))
        (first | with_reducible exact cS | with_reducible exact cS2)
        (first | (go_at_call 29; refine (unhide WR _ (unhide HKd)).mono ?_; rintro r w2 ⟨rfl, h2⟩; have H2 := hide h2; have cS2 := ((unhide HT1).kp ((Kp.drew w1).mono (by simp) |>.trans (let ⟨_, _, hk, _⟩ := h2; hk) (fun x hx => Or.inl hx) : Kp G w1 w2) (unhide HMG) (fun k hk => (unhide HVG k hk).1)).cells; clear h2))
      go_wp2
      go_meet
      exact ⟨rfl, hide (RDid.pre (unhide HKd) (unhide H2))⟩
    case rest =>
      obtain ⟨rfl, H2⟩ := hcut
      clear cS WR
      by_cases hX : d.wrE n (E : Int) f = 0
      · obtain ⟨G', r2, k2, g2⟩ := unhide H2
        have T2 := (unhide HT).kp k2 (unhide HMG) (fun k hk => (unhide HVG k hk).1)
        obtain ⟨c0, c1, c2, c3⟩ := T2.cells
        have kE := Kp.alloc wc (.cells #[] 9)
        have cE2 : (wc.alloc (.cells #[] 9)).cell? ⟨m, 2, none⟩ = some v := kE.cell c2 (by simp)
        have TV := T2.row.kp kE (by simp)
        have TE := txs_none wc
        have HT2 := hide T2
        have HR2 := hide (And.intro r2 (And.intro k2 g2))
        have hX0 : Hid (d.wrE n (E : Int) f = 0) := hide hX
        rw [hX]
        clear T2 r2 k2 g2 hX H2
        have nE : Value.slice (some ⟨wc.heap.size, 0, none⟩) 0 0 ≠ .slice none 0 0 := by simp
        go_wp2_with (at_builtin; refine wpList_has rfl _ _ rfl rfl rfl TV TE nE ?c1 ?_)
        case c1 => simp; omega
        intro v5 w5 X5 G5 B5 N5
        have k5 : Kp [] wc w5 := kE.trans (Kp.of (unhide G5)) (by simp [Value.ownBlock])
        have b5 : ∀ k, v5.ownBlock = some k → wc.heap.size ≤ k := fun k hk => by
          rcases unhide B5 with e | e
          · rw [e] at hk; simp [Value.ownBlock] at hk; omega
          · rw [e] at hk; simp at hk; omega
        have TO := txs_one w5 s
        have T5 := (unhide X5).kp (Kp.alloc w5 (.cells #[.string s] 9)) (by simp)
        have HK5 := hide k5
        have HB5 := hide b5
        have n5 := unhide N5
        clear k5 b5 G5 B5 X5 N5 TV TE kE cE2
        go_wp2_with (at_builtin; refine wpList_has rfl _ _ rfl rfl rfl TO T5 n5 ?c1 ?_)
        case c1 => simp; omega
        intro v6 w6 X6 G6 B6 N6
        have k6 : Kp [] wc w6 := ((unhide HK5).trans (Kp.alloc w5 _) (by simp)).trans (Kp.of (unhide G6)) (fun x hx => Or.inr (unhide HB5 x (by simpa using hx)))
        have b6 : ∀ k, v6.ownBlock = some k → wc.heap.size ≤ k := fun k hk => by
          rcases unhide B6 with e | e
          · rw [e] at hk; exact unhide HB5 k hk
          · rw [e] at hk
            have := (unhide HK5).size
            simp at hk
            omega
        obtain ⟨ad6, NL, cp6, hv6⟩ : ∃ ad NL cp, v6 = Value.slice ad NL cp := by
          obtain ⟨a, c, e⟩ := (unhide X6).form
          exact ⟨_, _, _, e⟩
        have T6 := (unhide HT2).box.kp k6 (by simp)
        have y0 : w6.cell? ⟨m, 2, none⟩ = some v := T6.cell rfl
        have f0 := T6.froz 2
        have T7 := T6.set 2 v6
        have y1 : (w6.setCell ⟨m, 2, none⟩ v6).cell? ⟨m, 3, none⟩ = some (.int .i64 (E : Int)) := T7.cell rfl
        have f1 := T7.froz 3
        have T8 := T7.set 3 (.int .i64 ((E : Int) + (f.size : Int)))
        have km : Kp [m] w6 ((w6.setCell ⟨m, 2, none⟩ v6).setCell ⟨m, 3, none⟩ (.int .i64 ((E : Int) + (f.size : Int)))) := (Kp.set _ _ _ _).trans (Kp.set _ _ _ _) (fun x hx => Or.inl hx)
        have hvm : ∀ k, v6.ownBlock = some k → k ∉ [m] := fun k hk hm => by
          have h1 := b6 k hk
          have h2 := (Array.getElem?_eq_some_iff.1 (unhide HT2).box).1
          simp at hm
          omega
        have hmG' := (unhide HR2).1.no (unhide HT2).box (by decide) (by decide) (by decide)
        have FN : Hid (RqP w G m q n (d.wrD n (E : Int) f) (ts ++ [s.data.toList]) (E + f.size) ((w6.setCell ⟨m, 2, none⟩ v6).setCell ⟨m, 3, none⟩ (.int .i64 ((E : Int) + (f.size : Int))))) := hide ⟨G', v6, ((unhide HR2).1.kp k6 (by simp)).kp km (fun k hk hm => by simp at hm; subst hm; exact hmG' hk), ⟨by simpa [Array.setIfInBounds] using T8, by simpa using (unhide X6).kp km hvm⟩, (((unhide HR2).2.1.mono (fun x hx => List.mem_cons_of_mem _ hx)).trans k6 (by simp)).trans km (fun x hx => Or.inl (by simp at hx; subst hx; exact List.mem_cons_self)), (unhide HR2).2.2, fun k hk => Nat.le_trans (unhide HR2).2.1.size (b6 k hk)⟩
        have hwr : IntKind.i64.wrap ((E : Int) + (f.size : Int)) = (E : Int) + (f.size : Int) := by rw [IntKind.wrap_i64]; omega
        subst hv6
        clear T6 T7 T8 km hvm hmG' k6 b6 X6 G6 B6 N6 HT2 HR2 TO T5 n5
        go_wp2
        go_ret
        exact Or.inl ⟨unhide hX0, rfl, unhide FN⟩
      · have hX2 : (d.wrE n (E : Int) f == 0) = false := by simpa using hX
        go_wp2
        go_ret
        exact Or.inr ⟨hX, rfl, unhide H2⟩
end Go.Proofs.YtboffmbaaokbnaaGreatDoor
namespace Go.Proofs.YtboffmbaaokbnaaGreatDoor
open Go.RowKit

theorem chA_five (c : Chg) : (chA c).toList.length = 5 := by cases c <;> rfl
theorem chs_get : ∀ (l : List Chg) (k : Nat) (hk : k < l.length) (j : Nat), j < 5 → (l.flatMap fun c => (chA c).toList)[k * 5 + j]? = (chA l[k]).toList[j]?
  | [], k, hk, _, _ => absurd hk (by simp)
  | c :: l, 0, _, j, hj => by
    rw [List.flatMap_cons, Nat.zero_mul, Nat.zero_add, List.getElem?_append_left (by rw [chA_five]; exact hj)]
    rfl
  | c :: l, k + 1, hk, j, hj => by
    rw [List.flatMap_cons, List.getElem?_append_right (by rw [chA_five]; omega), chA_five, show (k + 1) * 5 + j - 5 = k * 5 + j by omega, chs_get l k (by simpa using hk) j hj]
    rfl
theorem ChRow.cell {w : World} {g cap : Nat} {cs : List Chg} (h : ChRow w (.slice (some ⟨g, 0, none⟩) cs.length cap) cs) (k : Nat) (hk : k < cs.length) (j : Nat) (u : Value) (hu : (chA cs[k]).toList[j]? = some u) : w.cell? ⟨g, k * 5 + j, none⟩ = some u := by
  have hj : j < 5 := by have := (List.getElem?_eq_some_iff.1 hu).1; rw [chA_five] at this; exact this
  have := (chs_src h).2.2 _ rfl (k * 5 + j) u (by rw [chs_get cs k hk j hj]; exact hu)
  rw [Go.WideShapes.add_plain, Nat.zero_add] at this
  exact this
/-- A change that was to be made, made upon part of the way. -/
theorem play_next (fs : Fs) (cs : List Chg) (k : Nat) (hk : k < cs.length) : playAll fs (cs.take (k + 1)) = made (playAll fs (cs.take k)) cs[k] := by
  rw [List.take_succ_eq_append_getElem hk, playAll_snoc]
end Go.Proofs.YtboffmbaaokbnaaGreatDoor
