/-
  TapeBegins, plain: what is opened behind a crash; rows of texts that are copied, and their beginnings.
-/
import Derived.Test.YtllkkflolijpaaaDoorTBeP
import Derived.Deep.AppendLies
import Derived.Laws.AppendOwnNone
import Derived.ArgAppend
namespace Go.Proofs.YtllkkflolijpaaaDoor
open Go.RowKit

theorem op_torn {d : Dk} {ts : List (List UInt8)} {r : List UInt8} (hf : FileIs d.now (allF ts ++ r)) (hr : bodyS r = ([], 11)) (hs : ∀ x ∈ ts, x.length ≤ 500) (hw : d.wait = []) (hl : d.left = -1) (hd : d.down = false) :
    d.opE ⟨#[108, 111, 103]⟩ = 0 ∧ d.opL ⟨#[108, 111, 103]⟩ = ts ∧ FileIs (d.opD ⟨#[108, 111, 103]⟩).now (allF ts) ∧ (d.opD ⟨#[108, 111, 103]⟩).left = -1 ∧ (d.opD ⟨#[108, 111, 103]⟩).down = false := by
  have hs2 : ∀ x ∈ ts, x.length ≤ 65536 := fun x hx => by have := hs x hx; omega
  have e := frsS_all ts r hs2 (by rw [hr]; decide)
  have hh := hf.has
  by_cases hr0 : r = []
  · subst hr0
    rw [List.append_nil] at hf hh
    obtain ⟨o1, o2, o3⟩ := op_whole nLg hh hs2
    rw [o1, o2, o3]
    exact ⟨rfl, rfl, hf, hl, hd⟩
  · have hrl : 0 < r.length := List.length_pos_iff.2 hr0
    have hE : d.fEnd ⟨#[108, 111, 103]⟩ = (allF ts).length := by unfold Dk.fEnd; rw [hh, e]
    have hC : d.fCode ⟨#[108, 111, 103]⟩ = 11 := by unfold Dk.fCode; rw [hE, hh, List.drop_left, hr]
    have hL : d.opL ⟨#[108, 111, 103]⟩ = ts := by unfold Dk.opL; rw [hh, e]
    have hlt : d.fEnd ⟨#[108, 111, 103]⟩ < (hasF d.now ⟨#[108, 111, 103]⟩).length := by rw [hE, hh, List.length_append]; omega
    have hfs : d.now = [(⟨#[108, 111, 103]⟩, allF ts ++ r)] := by
      rcases hf with ⟨_, h2⟩ | h2
      · have := congrArg List.length h2
        rw [List.length_append] at this
        simp at this
        exact absurd this.2 hr0
      · exact h2
    have hbN : d.badN ⟨#[108, 111, 103]⟩ = 0 := badN_0 nLg (by rw [hfs]; rfl)
    have hbC : d.badC ⟨#[108, 111, 103]⟩ (d.fEnd ⟨#[108, 111, 103]⟩ : Int) = 0 := by
      unfold Dk.badC
      rw [if_pos hbN, if_neg (by omega)]
    have hrd : d.readyB = true := by unfold Dk.readyB; rw [hd, hl]; rfl
    have hwl : ¬ 1024 ≤ d.wait.length := by rw [hw]; decide
    have hct : d.ctE ⟨#[108, 111, 103]⟩ (d.fEnd ⟨#[108, 111, 103]⟩ : Int) = 0 := by unfold Dk.ctE Dk.doE; rw [if_pos hbC, if_neg hwl, if_pos hrd]
    have hcD : d.ctD ⟨#[108, 111, 103]⟩ (d.fEnd ⟨#[108, 111, 103]⟩ : Int) = { d.ready with wait := d.wait ++ [.ct ⟨#[108, 111, 103]⟩ (allF ts).length], now := made d.now (.ct ⟨#[108, 111, 103]⟩ (allF ts).length) } := by
      unfold Dk.ctD Dk.doD
      rw [if_pos hbC, if_neg hwl, if_pos hrd, hE, Int.toNat_natCast]
    have hmd : made d.now (.ct ⟨#[108, 111, 103]⟩ (allF ts).length) = [(⟨#[108, 111, 103]⟩, allF ts)] := by
      show withF _ _ _ = _
      rw [hh, hf.put, List.take_left]
    have hE0 : d.opE ⟨#[108, 111, 103]⟩ = 0 := by unfold Dk.opE; rw [if_neg (by simp [nLg]), if_pos hlt, if_pos hC, hct]
    have hD0 : d.opD ⟨#[108, 111, 103]⟩ = d.ctD ⟨#[108, 111, 103]⟩ (d.fEnd ⟨#[108, 111, 103]⟩ : Int) := by unfold Dk.opD; rw [if_neg (by simp [nLg]), if_pos hlt, if_pos hC]
    rw [hE0, hL, hD0, hcD]
    refine ⟨rfl, rfl, Or.inr hmd, ?_, ?_⟩
    · dsimp only
      unfold Dk.ready
      rw [if_pos hrd]
      dsimp only
      rw [if_pos hl]
    · dsimp only
      unfold Dk.ready
      rw [if_pos hrd]
      exact hd
/-- Between two stretches. -/
structure St (d : Dk) (ts : List (List UInt8)) (i : Nat) : Prop where
  now : FileIs d.now (allF ts)
  left : d.left = -1
  down : d.down = false
  small : ∀ x ∈ ts, x.length ≤ 500
  few : ts.length ≤ 20 * i
  zero : i = 0 → d = Dk.new ∧ ts = []
theorem St.new : St Dk.new [] 0 := ⟨Or.inl ⟨rfl, rfl⟩, rfl, rfl, by simp, by simp, fun _ => ⟨rfl, rfl⟩⟩
theorem St.open {d : Dk} {ts : List (List UInt8)} {i : Nat} (h : St d ts i) : d.opE ⟨#[108, 111, 103]⟩ = 0 ∧ d.opD ⟨#[108, 111, 103]⟩ = d ∧ d.opL ⟨#[108, 111, 103]⟩ = ts := op_whole nLg h.now.has (fun x hx => by have := h.small x hx; omega)
theorem St.sync {d : Dk} {ts : List (List UInt8)} {i : Nat} (h : St d ts i) (hi : i ≤ 12) : d.syE = 0 ∧ Bg d.syD ts [] := by
  have hrd : d.readyB = true := by unfold Dk.readyB; rw [h.down, h.left]; rfl
  obtain ⟨r1, r2, r3⟩ := ready_now d
  have hf := h.few
  unfold Dk.syE Dk.syD
  rw [if_pos hrd, if_pos hrd]
  exact ⟨rfl, h.now, rfl, by dsimp only; rw [r1, List.append_nil]; exact h.now, by dsimp only; rw [r1]; rfl, by rw [List.append_nil]; exact h.small, by rw [List.append_nil]; omega⟩
theorem St.bg0 {d : Dk} {ts : List (List UInt8)} (h : St d ts 0) : Bg d ts [] := by
  obtain ⟨rfl, rfl⟩ := h.zero rfl
  exact Bg.new
/-- A stretch's end. -/
theorem Bg.next {d : Dk} {base xs : List (List UInt8)} (h : Bg d base xs) (keep t : Int) {i : Nat} (hn : (base ++ xs).length ≤ 20 * (i + 1)) :
    ∃ k, k ≤ xs.length ∧ (d.crash keep t).opE ⟨#[108, 111, 103]⟩ = 0 ∧ (d.crash keep t).opL ⟨#[108, 111, 103]⟩ = base ++ xs.take k ∧ St ((d.crash keep t).opD ⟨#[108, 111, 103]⟩) (base ++ xs.take k) (i + 1) := by
  obtain ⟨k, r, hk, hf, hr⟩ := h.crash keep t
  have hsm : ∀ x ∈ base ++ xs.take k, x.length ≤ 500 := fun x hx => h.small x (by
    rw [List.mem_append] at hx ⊢
    rcases hx with hx | hx
    · exact Or.inl hx
    · exact Or.inr (List.mem_of_mem_take hx))
  obtain ⟨o1, o2, o3, o4, o5⟩ := op_torn hf hr hsm rfl rfl rfl
  exact ⟨k, hk, o1, o2, o3, o4, o5, hsm, by simp only [List.length_append, List.length_take] at hn ⊢; omega, fun h => by omega⟩
/-- A row of texts put at the end of another one that is the call's own. -/
theorem appHas {w : World} {hv ov : Value} {A ts : List (List UInt8)} (h : Txs w hv ts) (ho : Txs w ov A) (hov : ov ≠ .slice none 0 0) (hl : A.length + ts.length ≤ 3000000) (ty : TypeId) :
    ∃ v' w', (Builtin.append_ #[26, 26] ty #[ov, hv]).run Tryd.prog w = .ok v' w' ∧ Txs w' v' (A ++ ts) ∧ w.grownBy w' ov.ownBlock ∧ (v'.ownBlock = ov.ownBlock ∨ v'.ownBlock = some w.heap.size) ∧ v' ≠ .slice none 0 0 := by
  obtain ⟨i0, hi, hz0, hz1, hz2⟩ := info_parts info_string
  obtain ⟨e, _⟩ | ⟨g2, cap2, rfl, hc2, hm2⟩ := ho.shape
  · exact absurd e hov
  obtain ⟨rfl, rfl⟩ | ⟨g, cap, rfl, hc, hm⟩ := h.shape
  · refine ⟨_, w, run_append_owned_none (P := Tryd.prog) (w := w) 0 _ ty 9 i0 1 Tryd.underlying26 hi _ _ _ ho, by simpa using ho, World.grownBy.refl _ _, Or.inl rfl, by simp⟩
  · by_cases h0 : ts = []
    · subst h0
      refine ⟨.slice (some ⟨g2, 0, none⟩) A.length cap2, w, ?_, by simpa using ho, World.grownBy.refl _ _, Or.inl rfl, by simp⟩
      have := run_append_room_cells (P := Tryd.prog) (w := w) 26 ty 9 i0 Tryd.underlying26 hi g2 0 A.length cap2 ⟨g, 0, none⟩ 0 cap [] (by simp) (fun j u hj => by simp at hj) (fun u hu => by cases hu) (by omega) (fun j hj => absurd hj (by simp)) (fun j hj => absurd hj (by simp))
      simpa [World.setCells] using this
    · have hpos : 0 < ts.length := List.length_pos_iff.2 h0
      obtain ⟨g3, cap3, w', hr, h1, h2, h3, _⟩ := run_append_lies (P := Tryd.prog) (w := w) 26 ty 0 9 i0 (.string ⟨#[]⟩) 1 16 Tryd.underlying26 hi hz0 hz1 hz2 rfl (by decide) _ _ _ ho ⟨g, 0, none⟩ ts.length cap (textC ts) (by unfold textC; simp) (fun j u hj => World.ownsRow.cells h (g := g) rfl j u hj) (by
        intro u hu
        unfold textC at hu
        obtain ⟨x, _, rfl⟩ := List.mem_map.1 hu
        rfl) hpos (by unfold maxLen; omega) (by omega) (Nat.zero_le _) _ rfl
      refine ⟨_, w', hr, ?_, h2, ?_, by simp⟩
      · unfold Txs OwnsS
        rw [List.length_append, textC_append]
        exact h1
      · rcases h3 with h3 | h3
        · exact Or.inl h3.symm
        · exact Or.inr (by rw [h3]; rfl)
/-- The first ones of a row. -/
def preS : Value → Nat → Value
  | .slice ad _ cap, m => .slice ad m cap
  | v, _ => v
theorem runPre {w : World} {v : Value} {ts : List (List UInt8)} (h : Txs w v ts) (m : Nat) (hm : m ≤ ts.length) (W : World) :
    (Instr.slice 26 v none (some (.int .i64 (m : Int))) none).run Tryd.prog W = .ok (preS v m) W := by
  obtain ⟨i0, hi, hz0, hz1, hz2⟩ := info_parts info_string
  obtain ⟨rfl, rfl⟩ | ⟨g, cap, rfl, hc, hmx⟩ := h.shape
  · obtain rfl : m = 0 := by simpa using hm
    simp [Instr.slice, run_underlying Tryd.underlying26, Instr.sliceBounds, Instr.sliceBound, asIntOf, sizeOf, typeInfo, hi, preS, Result.andThen]
  · have : m ≤ cap := by omega
    simp [Instr.slice, run_underlying Tryd.underlying26, Instr.sliceBounds, Instr.sliceBound, asIntOf, sizeOf, typeInfo, hi, preS, Result.andThen, this, Addr.add]
theorem Txs.pre {w : World} {v : Value} {ts : List (List UInt8)} (h : Txs w v ts) (m : Nat) (hm : m ≤ ts.length) : Txs w (preS v m) (ts.take m) := by
  have hl : (ts.take m).length = m := by rw [List.length_take]; omega
  obtain ⟨h1, ⟨rfl, h0⟩ | ⟨g, cp, cur, rfl, hb, hh, hn, hmx, hcs, htk⟩⟩ := h
  · have e0 : ts = [] := List.eq_nil_of_length_eq_zero h0
    subst e0
    obtain rfl : m = 0 := by simpa using hm
    exact OwnsS.nil _ _
  · refine ⟨by unfold textC; simp, Or.inr ⟨g, cp, cur, ?_, hb, hh, by omega, hmx, hcs, ?_⟩⟩
    · show Value.slice _ m cp = _
      rw [hl]
    · rw [hl]
      have := congrArg (List.take m) htk
      rw [List.take_take] at this
      simp only [Nat.mul_one] at this ⊢
      rw [Nat.min_eq_left hm] at this
      rw [this]
      unfold textC
      rw [List.map_take]
theorem preS_block (v : Value) (m : Nat) : (preS v m).ownBlock = v.ownBlock := by
  cases v with
  | slice a n c => cases a <;> rfl
  | _ => rfl
end Go.Proofs.YtllkkflolijpaaaDoor
