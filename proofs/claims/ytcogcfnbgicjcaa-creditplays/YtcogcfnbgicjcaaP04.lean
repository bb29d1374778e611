/-
  A number from 0 to n - 1: the plain fact.
  A store that is begun; a purse: New, Add, Spend, Has; a number from 0 to n - 1.
  A slice of strings that comes in as an argument: its strings lie where it says.
  Rows of texts of the call's own: one more text put behind; what stays; where they lie.
  Rows of texts of which the first ones may have been taken off: appended to, read, one taken out.
-/
import Derived.Test.YtcogcfnbgicjcaaP01
import Derived.Test.YtcogcfnbgicjcaaP03
import Derived.Test.YtcogcfnbgicjcaaProg
import Derived.ProofKit
import Derived.OpenShut
import Derived.SliceStrings
import Derived.Test.YtcogcfnbgicjcaaChecked
import Derived.Laws.Append
namespace Go.Proofs.Ytcogcfnbgicjcaa

theorem among_eq (x n : Int) (hn : 0 < n) : (x.tmod n + n).tmod n = x % n := by
  rcases Int.lt_or_le x 0 with h | h
  · have h1 := Int.tmod_eq_emod (a := x) (b := n)
    have h2 := Int.emod_nonneg x (by omega : n ≠ 0)
    have h3 := Int.emod_lt_of_pos x hn
    by_cases hd : n ∣ x
    · have e : x % n = 0 := Int.emod_eq_zero_of_dvd hd
      rw [h1, if_pos (Or.inr hd), e]
      simp
    · rw [h1, if_neg (by omega), show (n.natAbs : Int) = n by omega, show x % n - n + n = x % n by omega, Int.tmod_eq_emod_of_nonneg h2, Int.emod_emod_of_dvd x (Int.dvd_refl n)]
  · rw [Int.tmod_eq_emod_of_nonneg h, Int.tmod_eq_emod_of_nonneg (by have := Int.emod_nonneg x (by omega : n ≠ 0); omega)]
    simp
end Go.Proofs.Ytcogcfnbgicjcaa
namespace Go.Proofs.Ytcogcfnbgicjcaa
open Go.RowKit Cr

theorem newStore_not (c : Int) (w : World) (h : ¬ (1 ≤ c ∧ c ≤ 256)) :
    Calls Try.prog 6 #[.int .i64 c] w fun e w' => e = .returned (.tuple #[.pointer none, .int .i64 1]) ∧ w' = w := by
  by_cases h1 : c < 1
  · clear h
    go_enter Try.func6, Try.ntmps6
    go_wp2
    go_ret2
    exact ⟨rfl, rfl⟩
  · have h2 : c > 256 := by omega
    clear h
    go_enter Try.func6, Try.ntmps6
    go_wp2
    go_ret2
    exact ⟨rfl, rfl⟩
/-- The cells of a ring, and of a store, that nothing was put into. -/
def rgZ : Array Value := (List.replicate 256 (Value.string ⟨#[]⟩) ++ [Value.int .i64 0, Value.int .i64 0, Value.int .i64 0]).toArray
def srZ : Array Value := (List.replicate 256 (Value.string ⟨#[]⟩) ++ [Value.int .i64 0, Value.int .i64 0, Value.int .i64 0, Value.int .i64 0]).toArray
theorem zero_ring (W : World) : (zeroValue 58).run Try.prog W = .ok (.agg rgZ) W := by kernel_rfl
theorem zero_store (W : World) : (zeroValue 60).run Try.prog W = .ok (.agg srZ) W := by kernel_rfl
theorem rgZ_size : rgZ.size = 259 := by kernel_rfl
theorem srZ_size : srZ.size = 260 := by kernel_rfl
def srC (v : Value) : Array Value := (List.replicate 256 (Value.string ⟨#[]⟩) ++ [v, Value.int .i64 0, Value.int .i64 0, Value.int .i64 0]).toArray
theorem build_store (v : Value) : Array.foldl (fun cs (x : Value × Nat) => cs.setIfInBounds x.snd x.fst) srZ (rgZ.setIfInBounds 256 v).zipIdx 0 259 = srC v := by kernel_rfl
theorem srC_v (v : Value) : (srC v)[256]? = some v := by kernel_rfl
theorem srC_1 (v : Value) : (srC v)[257]? = some (Value.int .i64 0) := by kernel_rfl
theorem srC_2 (v : Value) : (srC v)[258]? = some (Value.int .i64 0) := by kernel_rfl
theorem srC_3 (v : Value) : (srC v)[259]? = some (Value.int .i64 0) := by kernel_rfl
theorem srC_size (v : Value) : (srC v).size = 260 := by kernel_rfl
set_option maxRecDepth 100000 in
set_option maxHeartbeats 4000000 in
theorem newStore_ok (c : Nat) (w : World) (h0 : 1 ≤ c) (h1 : c ≤ 256) :
    Calls Try.prog 6 #[.int .i64 (c : Int)] w fun e w' => e = .returned (.tuple #[.pointer (some ⟨w.heap.size, 0, none⟩), .int .i64 0]) ∧ CrAt w' w.heap.size ⟨c, 0, []⟩ ∧ Kp [] w w' := by
  have k1 : ¬ (c : Int) < 1 := by omega
  have k2 : ¬ (c : Int) > 256 := by omega
  have z1 := zero_ring
  have z2 := zero_store
  have s1 := rgZ_size
  have s2 := srZ_size
  have hb := hide (build_store (.int .i64 (c : Int)))
  generalize rgZ = Z1 at *
  generalize srZ = Z2 at *
  go_enter Try.func6, Try.ntmps6
  go_wp2
  rw [unhide hb]
  go_ret2
  exact ⟨rfl, ⟨_, 0, CBox.new w _ _, srC_size _, srC_v _, srC_1 _, srC_2 _, srC_3 _, h0, fun i hi => absurd hi (Nat.not_lt_zero i), ⟨h0, h1, by show 0 + 0 ≤ c; omega⟩⟩, Kp.alloc _ _⟩
/-- A purse lies there. -/
def PsAt (w : World) (b n : Nat) : Prop := CBox b #[.int .i64 (n : Int)] 62 w
theorem newPurse_any (w : World) :
    Calls Try.prog 8 #[] w fun e w' => e = .returned (.pointer (some ⟨w.heap.size, 0, none⟩)) ∧ PsAt w' w.heap.size 0 ∧ Kp [] w w' := by
  go_enter Try.func8, Try.ntmps8
  go_wp2
  go_ret
  exact ⟨rfl, CBox.new w _ _, Kp.alloc _ _⟩
theorem pHas_any (b n : Nat) (w : World) (h : PsAt w b n) :
    Calls Try.prog 12 #[.pointer (some ⟨b, 0, none⟩)] w fun e w' => e = .returned (.int .i64 (n : Int)) ∧ w' = w := by
  have c0 : w.cell? ⟨b, 0, none⟩ = some (.int .i64 (n : Int)) := h.cell (i := 0) rfl
  clear h
  go_enter Try.func12, Try.ntmps12
  go_wp2
  go_ret
  exact ⟨rfl, rfl⟩
def spE (n : Nat) : Int := if n = 0 then 200 else 0
def adE (n : Nat) (x : Int) : Int := if x < 0 then 1 else if x > 256 - (n : Int) then 2 else 0
def adN (n : Nat) (x : Int) : Nat := if x < 0 then n else if x > 256 - (n : Int) then n else n + x.toNat
theorem adN_le {n : Nat} (h : n ≤ 256) (x : Int) : adN n x ≤ 256 := by
  unfold adN
  split
  · exact h
  · split
    · exact h
    · omega
set_option maxHeartbeats 1000000 in
theorem pSpend_any (b n : Nat) (w : World) (h : PsAt w b n) (hn : n ≤ 256) :
    Calls Try.prog 15 #[.pointer (some ⟨b, 0, none⟩)] w fun e w' => e = .returned (.int .i64 (spE n)) ∧ PsAt w' b (n - 1) ∧ Kp [b] w w' := by
  have c0 : w.cell? ⟨b, 0, none⟩ = some (.int .i64 (n : Int)) := h.cell (i := 0) rfl
  have z0 := CBox.froz h 0
  unfold spE
  by_cases h0 : n = 0
  · subst h0
    have H := hide h
    clear h
    rw [if_pos rfl]
    go_enter Try.func15, Try.ntmps15
    go_wp2
    go_ret
    exact ⟨rfl, unhide H, Kp.refl _ _⟩
  · rw [if_neg h0]
    have hi : ¬ (n : Int) = 0 := by omega
    have H := hide (show PsAt (w.setCell ⟨b, 0, none⟩ (.int .i64 ((n : Int) - 1))) b (n - 1) from by
      have := CBox.set h 0 (.int .i64 ((n : Int) - 1))
      unfold PsAt
      rw [show (((n - 1 : Nat)) : Int) = (n : Int) - 1 by omega]
      exact this)
    have K := hide (Kp.set w b 0 (.int .i64 ((n : Int) - 1)))
    clear h
    go_enter Try.func15, Try.ntmps15
    go_wp2
    go_ret
    exact ⟨rfl, unhide H, unhide K⟩
set_option maxHeartbeats 1000000 in
theorem pAdd_any (b n : Nat) (x : Int) (w : World) (h : PsAt w b n) (hn : n ≤ 256) :
    Calls Try.prog 19 #[.pointer (some ⟨b, 0, none⟩), .int .i64 x] w fun e w' => e = .returned (.int .i64 (adE n x)) ∧ PsAt w' b (adN n x) ∧ Kp [b] w w' := by
  have c0 : w.cell? ⟨b, 0, none⟩ = some (.int .i64 (n : Int)) := h.cell (i := 0) rfl
  have z0 := CBox.froz h 0
  unfold adE adN
  by_cases h0 : x < 0
  · rw [if_pos h0, if_pos h0]
    have H := hide h
    clear h
    go_enter Try.func19, Try.ntmps19
    go_wp2
    go_ret
    exact ⟨rfl, unhide H, Kp.refl _ _⟩
  · rw [if_neg h0, if_neg h0]
    by_cases h1 : x > 256 - (n : Int)
    · rw [if_pos h1, if_pos h1]
      have H := hide h
      clear h
      go_enter Try.func19, Try.ntmps19
      go_wp2
      go_ret
      exact ⟨rfl, unhide H, Kp.refl _ _⟩
    · rw [if_neg h1, if_neg h1]
      have H := hide (show PsAt (w.setCell ⟨b, 0, none⟩ (.int .i64 ((n : Int) + x))) b (n + x.toNat) from by
        have := CBox.set h 0 (.int .i64 ((n : Int) + x))
        unfold PsAt
        rw [show (((n + x.toNat : Nat)) : Int) = (n : Int) + x by omega]
        exact this)
      have K := hide (Kp.set w b 0 (.int .i64 ((n : Int) + x)))
      clear h
      go_enter Try.func19, Try.ntmps19
      go_wp2
      go_ret
      exact ⟨rfl, unhide H, unhide K⟩
set_option maxHeartbeats 400000 in
theorem cAmong_any (x n : Int) (w : World) (hn : 0 < n) (hn1 : n ≤ 1099511627776) :
    Calls Try.prog 14 #[.int .i64 x, .int .i64 n] w fun e w' => e = .returned (.int .i64 (x % n)) ∧ w' = w := by
  have hne : (n == 0) = false := beq_eq_false_iff_ne.2 (by omega)
  have e1 := among_eq x n hn
  have b1 : -n < x.tmod n := Int.lt_tmod_of_pos x hn
  have b2 : x.tmod n < n := Int.tmod_lt_of_pos x hn
  go_enter Try.func14, Try.ntmps14
  go_wp2
  go_ret
  exact ⟨rfl, rfl⟩
end Go.Proofs.Ytcogcfnbgicjcaa
namespace Go.Proofs.Ytcogcfnbgicjcaa
open Go.RowKit Go.ChangeShapes

def StrsAt (w : World) (ad : Option Addr) (l : List ByteArray) : Prop :=
  l ≠ [] → ∃ b off, ad = some ⟨b, off, none⟩ ∧ b < w.heap.size ∧ ∀ i (h : i < l.length), w.cell? ⟨b, off + i, none⟩ = some (.string l[i])
theorem StrsAt.below {w w' : World} {B : Nat} {ad : Option Addr} {l : List ByteArray} (h : StrsAt w ad l) (hb : Below B w w') (hB : w.heap.size ≤ B) : StrsAt w' ad l := fun hl => by
  obtain ⟨b, off, e, hlt, hc⟩ := h hl
  exact ⟨b, off, e, Nat.lt_of_lt_of_le hlt hb.size, fun i hi => (hb.cell (p := ⟨b, off + i, none⟩) (Nat.lt_of_lt_of_le hlt hB)).trans (hc i hi)⟩
theorem cellsOf_strB : Try.prog.cellsOf 9 = 1 := by kernel_rfl
theorem open_strs {H : Type} {enc : TypeId × Value → H} {W : World} {fuel : Nat} {held : Bool} {v : Value} {x : DataW H × List MemPlace}
    (h : DataW.trod enc Try.prog W 0 (fun _ => true) held fuel 39 [v] = some x) :
    ∃ (ad : Option Addr) (cap : Nat) (l : List ByteArray), v = .slice ad l.length cap ∧ l.length ≤ 9223372036854775807 ∧ StrsAt W ad l ∧ ∀ y ∈ l, y.size ≤ 9223372036854775807 := by
  rcases open_strings Try.underlying39 Try.underlying9 cellsOf_strB h with ⟨hcs, _⟩ | ⟨a, len, cap, ss, hcs, hb, hl, hm, hz, _, hcell, hws⟩
  · simp only [List.cons.injEq, and_true] at hcs
    subst hcs
    exact ⟨none, 0, [], rfl, by simp, fun hne => absurd rfl hne, by simp⟩
  · simp only [List.cons.injEq, and_true] at hcs
    subst hcs
    rw [if_pos rfl] at hz
    have hlen : (ss.take len).length = len := by rw [List.length_take]; omega
    refine ⟨some a, cap, ss.take len, by rw [hlen], by rw [hlen]; unfold maxLen at hm; omega, fun hne => ?_, fun y hy => ?_⟩
    · have h0 : 0 < len := by
        rcases Nat.eq_zero_or_pos len with e | e
        · subst e; simp at hne
        · exact e
      obtain ⟨b, off, spot⟩ := a
      have hc0 := hcell 0 (by omega)
      have hspot : spot = none := by simpa [Addr.add] using World.cell?_spot hc0
      subst hspot
      refine ⟨b, off, rfl, ?_, fun i hi => ?_⟩
      · rcases Nat.lt_or_ge b W.heap.size with hlt | hge
        · exact hlt
        · exfalso
          rw [Go.WideShapes.add_plain] at hc0
          simp [World.cell?, Array.getElem?_eq_none hge] at hc0
      · rw [hlen] at hi
        have c := hcell i (by omega)
        rw [Go.WideShapes.add_plain] at c
        rw [c]
        have hi2 : i < ss.length := by omega
        simp only [List.getElem_take]
        rw [List.getD_eq_getElem?_getD, List.getElem?_eq_getElem hi2]
        rfl
    · have := hws y (List.mem_of_mem_take hy)
      unfold maxLen at this
      omega
end Go.Proofs.Ytcogcfnbgicjcaa
namespace Go.Proofs.Ytcogcfnbgicjcaa
open Go.RowKit

theorem info_txt : (Try.prog.info? 9).map (fun i => (i.zero, i.size, i.bytes)) = some (some (.string ⟨#[]⟩), 1, 16) := by kernel_rfl
/-- A row of texts of the call's own. -/
def TxO (B : Nat) (w : World) (v : Value) (ts : List ByteArray) : Prop := w.ownsRow B 9 1 v ts.length (ts.map Value.string)
theorem TxO.nil (B : Nat) (w : World) : TxO B w (.slice none 0 0) [] := World.ownsRow_nil _ _ _ _
theorem TxO.kp {F : List Nat} {B : Nat} {w w' : World} {v : Value} {l : List ByteArray} (h : TxO B w v l) (hk : Kp F w w') (hF : ∀ k, v.ownBlock = some k → k ∉ F) : TxO B w' v l := by
  obtain ⟨h1, h2 | ⟨g, cp, cur, rfl, hb, hh, r⟩⟩ := h
  · exact ⟨h1, Or.inl h2⟩
  · exact ⟨h1, Or.inr ⟨g, cp, cur, rfl, hb, (hk.block g (Array.getElem?_eq_some_iff.1 hh).1 (hF g rfl)).trans hh, r⟩⟩
theorem TxO.lower {B B' : Nat} {w : World} {v : Value} {l : List ByteArray} (h : TxO B w v l) (hB : B' ≤ B) : TxO B' w v l := by
  obtain ⟨h1, h2 | ⟨g, cp, cur, rfl, hb, r⟩⟩ := h
  · exact ⟨h1, Or.inl h2⟩
  · exact ⟨h1, Or.inr ⟨g, cp, cur, rfl, Nat.le_trans hB hb, r⟩⟩
theorem TxO.form {B : Nat} {w : World} {v : Value} {l : List ByteArray} (h : TxO B w v l) : ∃ ad cp, v = .slice ad l.length cp ∧ l.length ≤ cp ∧ l.length ≤ 9223372036854775807 ∧ cp ≤ 9223372036854775807 ∧ (ad = none → cp = 0) ∧ (∀ a, ad = some a → ∃ g, a = ⟨g, 0, none⟩) := by
  obtain ⟨_, ⟨rfl, h0⟩ | ⟨g, cp, cur, rfl, _, _, hn, hm, _⟩⟩ := h
  · exact ⟨none, 0, by rw [h0], by omega, by omega, by omega, fun _ => rfl, fun a e => (by cases e)⟩
  · unfold maxLen at hm
    exact ⟨_, cp, rfl, hn, by omega, by omega, fun e => (by cases e), fun a e => (by injection e with e; exact ⟨g, e.symm⟩)⟩
theorem TxO.block {B : Nat} {w : World} {v : Value} {l : List ByteArray} (h : TxO B w v l) {k : Nat} (hk : v.ownBlock = some k) : B ≤ k ∧ ∃ cur, w.heap[k]? = some (.cells cur 9 (0, 0)) := by
  obtain ⟨_, ⟨rfl, h0⟩ | ⟨g, cp, cur, rfl, hb, hh, _⟩⟩ := h
  · cases hk
  · simp [Value.ownBlock] at hk
    subst hk
    exact ⟨hb, cur, hh⟩
theorem TxO.lt {B : Nat} {w : World} {v : Value} {l : List ByteArray} (h : TxO B w v l) {k : Nat} (hk : v.ownBlock = some k) : k < w.heap.size := by
  obtain ⟨_, cur, hc⟩ := h.block hk
  exact (Array.getElem?_eq_some_iff.1 hc).1
theorem TxO.strs {B : Nat} {w : World} {v : Value} {l : List ByteArray} (h : TxO B w v l) : ∃ ad cp, v = .slice ad l.length cp ∧ l.length ≤ cp ∧ StrsAt w ad l := by
  obtain ⟨_, ⟨rfl, h0⟩ | ⟨g, cp, cur, rfl, r⟩⟩ := id h
  · exact ⟨none, 0, by rw [h0], by omega, fun hne => absurd (List.eq_nil_of_length_eq_zero h0) hne⟩
  · have hl := World.ownsRow.lt h g rfl
    refine ⟨_, _, rfl, r.2.2.1, fun _ => ⟨g, 0, rfl, hl.2, fun i hi => ?_⟩⟩
    rw [Nat.zero_add, World.ownsRow.cellAt h i (by omega), List.getElem?_map, List.getElem?_eq_getElem hi]
    rfl
/-- One more text. -/
theorem TxO.push {B : Nat} {w : World} {v : Value} {ts : List ByteArray} {g : Nat} {x : ByteArray} (h : TxO B w v ts) (hB : B ≤ w.heap.size) (hg : CBox g #[.string x] 9 w) (hl : ts.length ≤ 1000000) (ty : TypeId) :
    ∃ v' w', (Builtin.append_ #[39, 39] ty #[v, .slice (some ⟨g, 0, none⟩) 1 1]).run Try.prog w = .ok v' w' ∧ TxO B w' v' (ts ++ [x]) ∧ Kp v.ownBlock.toList w w' ∧ (v'.ownBlock = v.ownBlock ∨ v'.ownBlock = some w.heap.size) := by
  obtain ⟨i0, hi, hz0, hz1, hz2⟩ := info_parts info_txt
  obtain ⟨g3, cap3, w', hr, h1, h2, h3, _⟩ := run_append_lies (P := Try.prog) (w := w) 39 ty B 9 i0 (.string ⟨#[]⟩) 1 16 Try.underlying39 hi hz0 hz1 hz2 rfl (by decide) _ _ _ h ⟨g, 0, none⟩ 1 1 [.string x] rfl (fun j u hj => by
    rw [Go.WideShapes.add_plain, Nat.zero_add]
    exact hg.cell (by simpa using hj)) (fun u hu => by simp at hu; subst hu; rfl) (by decide) (by unfold maxLen; omega) (by omega) hB _ rfl
  refine ⟨_, w', hr, ?_, Kp.of h2, ?_⟩
  · unfold TxO
    rw [List.length_append, List.map_append]
    exact h1
  · rcases h3 with h3 | h3
    · exact Or.inl (by rw [h3]; rfl)
    · exact Or.inr (by rw [h3]; rfl)
end Go.Proofs.Ytcogcfnbgicjcaa
namespace Go.Proofs.Ytcogcfnbgicjcaa
open Go.RowKit

/-- A row of texts that may begin anywhere in its block. -/
def TxQ (B : Nat) (w : World) (v : Value) (l : List ByteArray) : Prop :=
  (v = .slice none 0 0 ∧ l = []) ∨ ∃ g off cap cur, v = .slice (some ⟨g, off, none⟩) l.length cap ∧ B ≤ g ∧ w.heap[g]? = some (.cells cur 9 (0, 0)) ∧ l.length ≤ cap ∧ cap ≤ 9223372036854775807 ∧ off + cap ≤ cur.size ∧ (cur.toList.drop off).take l.length = l.map Value.string
theorem TxQ.of {B : Nat} {w : World} {v : Value} {l : List ByteArray} (h : TxO B w v l) : TxQ B w v l := by
  obtain ⟨_, ⟨rfl, h0⟩ | ⟨g, cap, cur, rfl, h1, h2, h3, h4, h5, h6⟩⟩ := h
  · exact Or.inl ⟨rfl, List.eq_nil_of_length_eq_zero h0⟩
  · unfold maxLen at h4
    exact Or.inr ⟨g, 0, cap, cur, rfl, h1, h2, h3, by omega, by omega, by simpa using h6⟩
theorem TxQ.kp {B : Nat} {w w' : World} {v : Value} {l : List ByteArray} {F : List Nat} (h : TxQ B w v l) (hk : Kp F w w') (hF : ∀ g, v.ownBlock = some g → g ∉ F) : TxQ B w' v l := by
  rcases h with h | ⟨g, off, cap, cur, rfl, h1, h2, h3⟩
  · exact Or.inl h
  · exact Or.inr ⟨g, off, cap, cur, rfl, h1, CBox.kp (show CBox g cur 9 w from h2) hk (hF g rfl), h3⟩
theorem TxQ.block {B : Nat} {w : World} {v : Value} {l : List ByteArray} (h : TxQ B w v l) {k : Nat} (hk : v.ownBlock = some k) : B ≤ k ∧ ∃ cur, w.heap[k]? = some (.cells cur 9 (0, 0)) := by
  rcases h with ⟨rfl, _⟩ | ⟨g, off, cap, cur, rfl, h1, h2, _⟩
  · cases hk
  · simp [Value.ownBlock] at hk
    subst hk
    exact ⟨h1, cur, h2⟩
theorem TxQ.form {B : Nat} {w : World} {v : Value} {l : List ByteArray} (h : TxQ B w v l) : ∃ ad cp, v = .slice ad l.length cp ∧ l.length ≤ cp ∧ cp ≤ 9223372036854775807 := by
  rcases h with ⟨rfl, rfl⟩ | ⟨g, off, cap, cur, rfl, h1, h2, h3, h4, _⟩
  · exact ⟨none, 0, rfl, Nat.le_refl _, by omega⟩
  · exact ⟨_, cap, rfl, h3, h4⟩
/-- Where it has texts: its address, and each text. -/
theorem TxQ.cells {B : Nat} {w : World} {v : Value} {l : List ByteArray} (h : TxQ B w v l) (hl : 0 < l.length) : ∃ g off cap, v = .slice (some ⟨g, off, none⟩) l.length cap ∧ B ≤ g ∧ g < w.heap.size ∧ l.length ≤ cap ∧ cap ≤ 9223372036854775807 ∧ ∀ i (hi : i < l.length), w.cell? ⟨g, off + i, none⟩ = some (.string l[i]) := by
  rcases h with ⟨_, rfl⟩ | ⟨g, off, cap, cur, rfl, h1, h2, h3, h4, h5, h6⟩
  · cases hl
  · refine ⟨g, off, cap, rfl, h1, (Array.getElem?_eq_some_iff.1 h2).1, h3, h4, fun i hi => ?_⟩
    have e1 : w.cell? ⟨g, off + i, none⟩ = cur[off + i]? := by simp [World.cell?, h2]
    have e2 : ((cur.toList.drop off).take l.length)[i]? = some (.string l[i]) := by
      rw [h6, List.getElem?_map, List.getElem?_eq_getElem hi]
      rfl
    rw [List.getElem?_take_of_lt hi, List.getElem?_drop, Array.getElem?_toList] at e2
    rw [e1, e2]
/-- The first text taken off. -/
theorem TxQ.tail {B : Nat} {w : World} {g off cap : Nat} {x : ByteArray} {l : List ByteArray} (h : TxQ B w (.slice (some ⟨g, off, none⟩) (l.length + 1) cap) (x :: l)) : TxQ B w (.slice (if cap = 1 then some ⟨g, off, none⟩ else some ⟨g, off + 1, none⟩) l.length (cap - 1)) l := by
  rcases h with ⟨e, _⟩ | ⟨g', off', cap', cur, e, h1, h2, h3, h4, h5, h6⟩
  · cases e
  · injection e with e1 e2 e3
    injection e1 with e1
    injection e1 with e1 e4
    subst e1 e3 e4
    rw [List.length_cons] at h3 h6
    by_cases hc : cap = 1
    · rw [if_pos hc]
      obtain rfl : l = [] := List.eq_nil_of_length_eq_zero (by omega)
      exact Or.inr ⟨g, off, cap - 1, cur, rfl, h1, h2, by simp, by omega, by omega, rfl⟩
    · rw [if_neg hc]
      refine Or.inr ⟨g, off + 1, cap - 1, cur, rfl, h1, h2, by omega, by omega, by omega, ?_⟩
      have e := congrArg (List.drop 1) h6
      rw [List.map_cons, List.drop_take, List.drop_drop, Nat.add_sub_cancel] at e
      rw [e]
      rfl
theorem heap_setRowT {w : World} {g : Nat} {cur cs : Array Value} {t : TypeId} (h : w.heap[g]? = some (.cells cur t (0, 0))) : (w.setRow g cs).heap[g]? = some (.cells cs t (0, 0)) := by
  unfold World.setRow
  simp [Array.getElem?_modify, h]
theorem Kp.setRowT (w : World) (g : Nat) (cs : Array Value) : Kp [g] w (w.setRow g cs) := by
  refine ⟨rfl, rfl, rfl, by simp [World.setRow], fun k hk hn => ?_⟩
  unfold World.setRow
  have hg : g ≠ k := fun e => hn (by simp [e])
  simp [Array.getElem?_modify, hg]
theorem strs_one (l : List ByteArray) : ∀ u ∈ l.map Value.string, u.oneCell' = true := fun u hu => by
  obtain ⟨x, _, rfl⟩ := List.mem_map.1 hu
  rfl
/-- Texts of another row are put at its end. -/
theorem TxQ.app {B : Nat} {w : World} {v x : Value} {l ys : List ByteArray} (h : TxQ B w v l) (hB : B ≤ w.heap.size) (hx : TxO 0 w x ys) (hl : l.length + ys.length ≤ 1000000) (ty : TypeId) :
    ∃ ad cap w', (Builtin.append_ #[39, 39] ty #[v, x]).run Try.prog w = .ok (.slice ad (l.length + ys.length) cap) w' ∧ TxQ B w' (.slice ad (l.length + ys.length) cap) (l ++ ys) ∧ Kp v.ownBlock.toList w w' ∧ ((Value.slice ad (l.length + ys.length) cap).ownBlock = v.ownBlock ∨ (Value.slice ad (l.length + ys.length) cap).ownBlock = some w.heap.size) := by
  obtain ⟨i0, hi, hz0, hz1, hz2⟩ := info_parts info_txt
  have hys : (ys.map Value.string).length = ys.length := List.length_map ..
  obtain ⟨_, ⟨rfl, h0⟩ | ⟨gx, cx, curx, rfl, _, _, hnx, hmx, _⟩⟩ := id hx
  · obtain rfl : ys = [] := List.eq_nil_of_length_eq_zero h0
    simp only [List.length_nil, Nat.add_zero, List.append_nil]
    rcases h with ⟨rfl, rfl⟩ | ⟨g, off, cap, cur, rfl, h1, h2, h3, h4, h5, h6⟩
    · refine ⟨none, 0, w, ?_, Or.inl ⟨rfl, rfl⟩, Kp.refl _ _, Or.inl rfl⟩
      simp [Builtin.append_, run_underlying Try.underlying39, sizeOf, typeInfo, hi, Builtin.lenOf, Builtin.firstCells]
    · refine ⟨_, cap, w, ?_, Or.inr ⟨g, off, cap, cur, rfl, h1, h2, h3, h4, h5, h6⟩, Kp.refl _ _, Or.inl rfl⟩
      simp [Builtin.append_, run_underlying Try.underlying39, sizeOf, typeInfo, hi, Builtin.lenOf, Builtin.firstCells, h3, storeCells]
  · have hnews : ∀ j u, (ys.map Value.string)[j]? = some u → w.cell? ((⟨gx, 0, none⟩ : Addr).add j) = some u := fun j u hj => World.ownsRow.cells hx (g := gx) rfl j u hj
    rcases h with ⟨rfl, rfl⟩ | ⟨g, off, cap, cur, rfl, h1, h2, h3, h4, h5, h6⟩
    · rcases Nat.eq_zero_or_pos ys.length with h0 | h0
      · obtain rfl : ys = [] := List.eq_nil_of_length_eq_zero h0
        refine ⟨none, 0, w, ?_, Or.inl ⟨rfl, rfl⟩, Kp.refl _ _, Or.inl rfl⟩
        simp [Builtin.append_, run_underlying Try.underlying39, sizeOf, typeInfo, hi, Builtin.lenOf, Builtin.firstCells, loadCells, loadCellsFrom]
      · have hr := run_append_nil (P := Try.prog) w 39 ty 9 i0 _ Try.underlying39 hi hz0 ⟨gx, 0, none⟩ ys.length cx (ys.map Value.string) (by rw [hys, hz1, Nat.mul_one]) hnews h0 (by omega) (by rw [hz2]; omega)
        refine ⟨some ⟨w.heap.size, 0, none⟩, grownCap w ys.length 0 9, _, by simpa using hr, ?_, ?_, Or.inr rfl⟩
        · have hgc := grownCap_ge w ys.length 0 9
          have hgm : grownCap w ys.length 0 9 ≤ 9223372036854775807 := by
            have := grownCap_le_maxLen w ys.length 0 9 (by unfold maxLen; omega)
            unfold maxLen at this
            omega
          refine Or.inr ⟨w.heap.size, 0, grownCap w ys.length 0 9, _, by simp, hB, heap_alloc_new w.drew _, ?_, hgm, ?_, ?_⟩
          · simpa using hgc
          · rw [Array.size_append, size_zeroCells]
            have e3 : (Value.string ⟨#[]⟩).cells.size = 1 := rfl
            rw [e3]
            simp only [List.size_toArray, hys]
            omega
          · rw [List.nil_append, List.drop_zero, Array.toList_append, ← hys, List.take_left']
            simp
        · exact (Kp.drew w).trans (Kp.alloc _ _) (by simp)
    · by_cases hroom : l.length + ys.length ≤ cap
      · have hcl : cur.toList.length = cur.size := by simp
        have h1c := strs_one ys
        have hfa : (l ++ ys).map Value.string = l.map Value.string ++ ys.map Value.string := List.map_append
        rw [← h6] at hfa
        generalize ys.map Value.string = NS at *
        have hf := run_firstCells_some (P := Try.prog) w i0.size ys.length ⟨gx, 0, none⟩ ys.length cx NS (by rw [hys, hz1, Nat.mul_one]) hnews
        have hst := run_storeCells_at Try.prog g (off + l.length) 9 NS 0 cur w h2 (by rw [hys]; omega) h1c
        simp only [Nat.add_zero] at hst
        rw [hz1] at hf
        refine ⟨some ⟨g, off, none⟩, cap, w.setRow g (cur.toList.take (off + l.length) ++ NS ++ cur.toList.drop (off + l.length + NS.length)).toArray, ?_, Or.inr ⟨g, off, cap, (cur.toList.take (off + l.length) ++ NS ++ cur.toList.drop (off + l.length + NS.length)).toArray, by rw [List.length_append], h1, heap_setRowT h2, by rw [List.length_append]; exact hroom, h4, ?_, ?_⟩, Kp.setRowT w g _, Or.inl rfl⟩
        · simp [Builtin.append_, run_underlying Try.underlying39, sizeOf, typeInfo, hi, Builtin.lenOf, hroom, hf, hz1, Go.WideShapes.add_plain, hst]
        · simp only [List.size_toArray, List.length_append, List.length_take, List.length_drop, hcl, hys]
          omega
        · rw [hfa]
          show ((cur.toList.take (off + l.length) ++ NS ++ cur.toList.drop (off + l.length + NS.length)).drop off).take ((l ++ ys).length) = _
          have e1 : (cur.toList.take (off + l.length) ++ NS ++ cur.toList.drop (off + l.length + NS.length)).drop off = ((cur.toList.drop off).take l.length ++ NS) ++ cur.toList.drop (off + l.length + NS.length) := by
            rw [List.append_assoc, List.drop_append_of_le_length (by rw [List.length_take, hcl]; omega), List.drop_take, Nat.add_sub_cancel_left, List.append_assoc]
          rw [e1]
          refine List.take_left' ?_
          rw [List.length_append, List.length_take, List.length_drop, hcl, hys, List.length_append]
          omega
      · have hol : (l.map Value.string).length = l.length := List.length_map ..
        have holds : ∀ j u, (l.map Value.string)[j]? = some u → w.cell? ((⟨g, off, none⟩ : Addr).add j) = some u := fun j u hj => by
          have hj3 : j < l.length := by rw [← hol]; exact (List.getElem?_eq_some_iff.1 hj).1
          rw [Go.WideShapes.add_plain]
          have e1 : w.cell? ⟨g, off + j, none⟩ = cur[off + j]? := by simp [World.cell?, h2]
          rw [← h6, List.getElem?_take_of_lt hj3, List.getElem?_drop, Array.getElem?_toList] at hj
          rw [e1, hj]
        have hr := run_append_grow (P := Try.prog) w 39 ty 9 i0 _ Try.underlying39 hi hz0 ⟨g, off, none⟩ l.length cap (l.map Value.string) (by rw [hol, hz1, Nat.mul_one]) holds ⟨gx, 0, none⟩ ys.length cx (ys.map Value.string) (by rw [hys, hz1, Nat.mul_one]) hnews (by omega) (by omega) (growslice_fits (by omega) (by rw [hz2]; omega))
        refine ⟨_, _, _, hr, ?_, ?_, Or.inr rfl⟩
        · refine Or.inr ⟨w.heap.size, 0, _, _, by rw [List.length_append], hB, heap_alloc_new w.drew _, ?_, ?_, ?_, ?_⟩
          · rw [List.length_append]
            exact grownCap_ge w _ _ _
          · have := grownCap_le_maxLen w (l.length + ys.length) cap 9 (by unfold maxLen; omega)
            unfold maxLen at this
            omega
          · have := grownCap_ge w (l.length + ys.length) cap 9
            rw [Array.size_append, Array.size_append, size_zeroCells]
            have e3 : (Value.string ⟨#[]⟩).cells.size = 1 := rfl
            rw [e3]
            simp only [List.size_toArray, hys, hol]
            omega
          · rw [List.drop_zero, Array.toList_append, Array.toList_append, List.map_append]
            refine List.take_left' ?_
            simp only [List.length_append, hys, hol]
        · exact ((Kp.drew w).trans (Kp.alloc _ _) (by simp)).mono (by simp)
/-- What is put together anew: the first texts, and those behind one that is left out. -/
theorem row_raiseT {B g cap : Nat} {W : World} {n : Nat} {l : List ByteArray} (h : TxO 0 W (.slice (some ⟨g, 0, none⟩) n cap) l) (hB : B ≤ g) : TxO B W (.slice (some ⟨g, 0, none⟩) n cap) l := by
  obtain ⟨h1, ⟨e1, _⟩ | ⟨g', cap', cur, e1, _, h4⟩⟩ := h
  · cases e1
  · cases e1
    exact ⟨h1, .inr ⟨g, cap, cur, rfl, hB, h4⟩⟩
theorem TxO.empty {B : Nat} (W : World) (hB : B ≤ W.heap.size) : TxO B (W.alloc (.cells #[] 9)) (.slice (some ⟨W.heap.size, 0, none⟩) 0 0) [] :=
  ⟨rfl, Or.inr ⟨W.heap.size, 0, #[], rfl, hB, heap_alloc_new W _, Nat.le_refl _, Nat.zero_le _, rfl, rfl⟩⟩
/-- Texts that lie anywhere are put at the end of a row of the call's own. -/
theorem TxO.appAny {B : Nat} {w : World} {g cap0 n : Nat} {l ys : List ByteArray} (h : TxO B w (.slice (some ⟨g, 0, none⟩) n cap0) l) (ad : Option Addr) (c : Nat) (hnone : ad = none → ys.length = 0 ∧ c = 0) (hsp : ∀ a, ad = some a → a.spot = none) (hc : ∀ a, ad = some a → ∀ j u, (ys.map Value.string)[j]? = some u → w.cell? (a.add j) = some u) (hn : n = l.length) (hB : B ≤ w.heap.size) (hl : l.length + ys.length ≤ 1000000) (ty : TypeId) :
    ∃ g' cap w', (Builtin.append_ #[39, 39] ty #[.slice (some ⟨g, 0, none⟩) n cap0, .slice ad ys.length c]).run Try.prog w = .ok (.slice (some ⟨g', 0, none⟩) (n + ys.length) cap) w' ∧ TxO B w' (.slice (some ⟨g', 0, none⟩) (n + ys.length) cap) (l ++ ys) ∧ Kp [g] w w' := by
  obtain ⟨i0, hi, hz0, hz1, hz2⟩ := info_parts info_txt
  subst hn
  have hgB : B ≤ g := (h.block (k := g) rfl).1
  obtain ⟨g', cap, w', hr, r1, r2, r3⟩ := run_app_any (P := Try.prog) (w := w) 39 ty 9 i0 (.string ⟨#[]⟩) 1 16 Try.underlying39 hi hz0 hz1 hz2 rfl (by decide) (h.lower (Nat.zero_le _)) ad ys.length c (ys.map Value.string) (by rw [List.length_map, Nat.mul_one]) hnone hsp hc (strs_one ys) (by unfold maxLen; omega) (by omega)
  refine ⟨g', cap, w', hr, row_raiseT ?_ (by rcases r3 with r3 | r3 <;> omega), Kp.of r2⟩
  unfold TxO
  rw [List.length_append, List.map_append]
  exact r1
end Go.Proofs.Ytcogcfnbgicjcaa
