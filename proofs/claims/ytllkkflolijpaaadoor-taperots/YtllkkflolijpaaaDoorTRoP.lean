/-
  TapeRots, plain: where frames end; a byte of a frame that is another one.
-/
import Derived.Test.YtllkkflolijpaaaDoorTpP
import Derived.Test.YtllkkflolijpaaaDoorTpX
import Derived.Test.YtllkkflolijpaaaDoorXorB
namespace Go.Proofs.YtllkkflolijpaaaDoor
open Go.RowKit

def sLog : ByteArray := ⟨#[108, 111, 103]⟩
theorem nLog : dnm ⟨#[108, 111, 103]⟩ = true := by decide
/-- Where the frames of texts end. -/
def endL (ts : List (List UInt8)) : List Int := (List.range (ts.length + 1)).map fun j => ((allF (ts.take j)).length : Int)
theorem endL_len (ts : List (List UInt8)) : (endL ts).length = ts.length + 1 := by unfold endL; rw [List.length_map, List.length_range]
theorem endL_get (ts : List (List UInt8)) (j : Nat) (h : j < (endL ts).length) : (endL ts)[j] = ((allF (ts.take j)).length : Int) := by simp [endL]
theorem endL_snoc (ts : List (List UInt8)) (x : List UInt8) : endL (ts ++ [x]) = endL ts ++ [((allF (ts ++ [x])).length : Int)] := by
  unfold endL
  rw [List.length_append, List.length_singleton, List.range_succ, List.map_append]
  congr 1
  · refine List.map_congr_left (fun j hj => ?_)
    rw [List.take_append_of_le_length (by have := List.mem_range.1 hj; omega)]
  · show [((allF ((ts ++ [x]).take (ts.length + 1))).length : Int)] = [_]
    rw [List.take_of_length_le (by simp)]
theorem allF_take_succ (ts : List (List UInt8)) (k : Nat) (h : k < ts.length) : allF (ts.take (k + 1)) = allF (ts.take k) ++ frameL ts[k] := by
  rw [List.take_succ_eq_append_getElem h, allF_append, allF_one]
theorem allF_split (ts : List (List UInt8)) (k : Nat) (h : k < ts.length) : allF ts = allF (ts.take k) ++ (frameL ts[k] ++ allF (ts.drop (k + 1))) := by
  conv => lhs; rw [← List.take_append_drop (k + 1) ts]
  rw [allF_append, allF_take_succ ts k h, List.append_assoc]
theorem over_one (l : List UInt8) (p : Nat) (c : UInt8) (h : p < l.length) : over l p [c] = l.set p c := by
  unfold over
  rw [List.set_eq_take_append_cons_drop, if_pos h]
  simp
/-- One byte is written over. -/
theorem Gd.rot {d : Dk} {j : Nat} (h : Gd d j) (hj : j ≤ 60) (hn : (d.now.map (·.1)).Nodup) {ts : List (List UInt8)} (hf : getF d.now ⟨#[108, 111, 103]⟩ = some (allF ts)) (hs : ∀ x ∈ ts, x.length ≤ 65536) {k m : Nat} (hk : k < ts.length) (hm : 6 + m < (frameL ts[k]).length) (c : UInt8)
    (hc : (frameL ts[k])[6 + m]? ≠ some c) (s : ByteArray) (hsd : s.data.toList = [c]) :
    d.wrE ⟨#[108, 111, 103]⟩ (((allF (ts.take k)).length + 6 + m : Nat) : Int) s = 0 ∧ (d.wrD ⟨#[108, 111, 103]⟩ (((allF (ts.take k)).length + 6 + m : Nat) : Int) s).opE ⟨#[108, 111, 103]⟩ = 40 := by
  obtain ⟨r1, r2⟩ := h.ready
  have hh : hasF d.now ⟨#[108, 111, 103]⟩ = allF ts := by unfold hasF; rw [hf]; rfl
  have hsz : s.size = 1 := by
    have e : s.size = s.data.toList.length := Array.length_toList.symm
    rw [e, hsd]; rfl
  have hsp := allF_split ts k hk
  have hlen : (allF ts).length = (allF (ts.take k)).length + ((frameL ts[k]).length + (allF (ts.drop (k + 1))).length) := by
    rw [← List.length_append, ← List.length_append, ← hsp]
  have hp : (allF (ts.take k)).length + 6 + m < (allF ts).length := by omega
  have ht := h.tot
  have hbad : d.badW ⟨#[108, 111, 103]⟩ (((allF (ts.take k)).length + 6 + m : Nat) : Int) s = 0 := by
    unfold Dk.badW
    rw [if_neg (by simp [nLog]), hh, if_neg (by omega)]
    have : d.fullW ⟨#[108, 111, 103]⟩ (((allF (ts.take k)).length + 6 + m : Nat) : Int) s = false := by
      unfold Dk.fullW Dk.grows
      rw [hsz, hh, hf, Bool.or_eq_false_iff]
      exact ⟨decide_eq_false (by omega), by simp⟩
    rw [if_neg (by rw [this]; simp)]
  have hfew := h.few
  have hw : ¬ 1024 ≤ d.wait.length := by omega
  have hD : d.wrD ⟨#[108, 111, 103]⟩ (((allF (ts.take k)).length + 6 + m : Nat) : Int) s = ⟨d.safe, made d.now (.wr ⟨#[108, 111, 103]⟩ ((allF (ts.take k)).length + 6 + m) s), d.wait ++ [.wr ⟨#[108, 111, 103]⟩ ((allF (ts.take k)).length + 6 + m) s], d.left, d.down⟩ := by
    unfold Dk.wrD Dk.doD
    rw [if_pos hbad, if_neg hw, if_pos r1, r2, Int.toNat_natCast]
  refine ⟨by unfold Dk.wrE Dk.doE; rw [if_pos hbad, if_neg hw, if_pos r1], ?_⟩
  rw [hD]
  refine op_rot (ts := ts.take k) (us := ts.drop (k + 1)) (x := ts[k]) (k := 6 + m) (c := c) nLog (fun y hy => hs y (List.mem_of_mem_take hy)) (hs _ (List.getElem_mem hk)) (by omega) (by rw [frameL_len] at hm; omega) hc ?_
  dsimp only
  have e1 : made d.now (.wr ⟨#[108, 111, 103]⟩ ((allF (ts.take k)).length + 6 + m) s) = withF d.now ⟨#[108, 111, 103]⟩ (over (allF ts) ((allF (ts.take k)).length + 6 + m) [c]) := by
    show withF _ _ _ = _
    rw [hh, hsd]
  rw [e1, hasF_with hn, if_pos rfl, over_one _ _ _ hp]
  conv => lhs; rw [hsp]
  rw [List.set_append, if_neg (by omega), List.set_append, if_pos (by omega)]
  congr 2
  congr 1
  omega
end Go.Proofs.YtllkkflolijpaaaDoor
