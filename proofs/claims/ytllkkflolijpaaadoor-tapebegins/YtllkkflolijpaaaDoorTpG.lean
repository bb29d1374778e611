/-
  Append: the inner function.
-/
import Derived.Test.YtllkkflolijpaaaDoorTpF
import Derived.Deep.RegionHeld3
import Derived.Deep.RegionHeld2
namespace Go.Proofs.YtllkkflolijpaaaDoor
open Go.RowKit

def Dk.apE (d : Dk) (n : ByteArray) (s : ByteArray) : Int := if 65536 < s.size then 2 else d.wrE n ((hasF d.now n).length : Int) (frS s)
def Dk.apD (d : Dk) (n : ByteArray) (s : ByteArray) : Dk := if 65536 < s.size then d else d.wrD n ((hasF d.now n).length : Int) (frS s)
/-- A callee that gives up, as one way: what stands behind it is not come to. -/
theorem Calls.panicky {P : Program} {f : FuncId} {args : Array Value} {w : World} {c : List PanicEntry} {R : Ending → World → Prop} (h : Calls P f args w fun x w' => x = .panicked c ∧ w' = w) (hp : R (.panicked c) w) (_hn : ∀ v, Hid False → R (.returned v) w) : Calls P f args w R :=
  h.mono fun e w' ⟨h1, h2⟩ => by subst h1 h2; exact hp
/-- A text has been appended. -/
def Added (w : World) (F : List Nat) (p : Nat) (d : Dk) (n : ByteArray) (t : Nat) (v : Value) (ts : List (List UInt8)) (w' : World) : Prop :=
  ∃ F' v', DiskAt w' p d F' ∧ TpAt w' t p n v' ts ∧ Kp (t :: (v.ownBlock.toList ++ F)) w w' ∧ (∀ k ∈ F', k ∈ F ∨ w.heap.size ≤ k) ∧ (v'.ownBlock = v.ownBlock ∨ ∀ k, v'.ownBlock = some k → w.heap.size ≤ k)
theorem frS_size (s : ByteArray) : (frS s).size ≤ 65546 := by
  unfold frS
  split
  · show 0 ≤ _; omega
  · rw [strSize, frameL_len, Array.length_toList]
    have : s.data.size = s.size := rfl
    omega
set_option maxHeartbeats 1000000 in
set_option maxRecDepth 100000 in
theorem add_long (t : Nat) (s : ByteArray) (w : World) (hs : s.size ≤ 9223372036854775807) (hl : 65536 < s.size) (hT : TabW w) :
    Calls Tryd.prog 26 #[.pointer (some ⟨t, 0, none⟩), .string s] w fun r w' => r = .panicked (pan 2) ∧ Kp [] w w' := by
  have fr := frame_any s w hs hT
  have e2 : frE s = 2 := by unfold frE; rw [if_pos hl]
  rw [e2] at fr
  have FR := hide fr
  clear fr hT e2 hl
  go_enter Tryd.func26, Tryd.ntmps26
  go_wp2_with fail
  refine (unhide FR).mono ?_
  rintro r w1 ⟨rfl, hb1⟩
  have HK := hide (Kp.ofBelow hb1)
  clear hb1
  go_wp2_with fail
  refine (mustBeOK_not 2 (by decide) w1).mono ?_
  rintro r w2 ⟨rfl, rfl⟩
  exact ⟨rfl, rfl, unhide HK⟩
set_option maxHeartbeats 1000000 in
set_option maxRecDepth 100000 in
theorem add_not (t p : Nat) (n : ByteArray) (v : Value) (ts : List (List UInt8)) (s : ByteArray) (d : Dk) (F : List Nat) (w : World) (h : TpAt w t p n v ts) (hd : DiskAt w p d F) (hl : ¬ 65536 < s.size) (hT : TabW w) (he : d.wrE n ((hasF d.now n).length : Int) (frS s) ≠ 0) :
    Calls Tryd.prog 26 #[.pointer (some ⟨t, 0, none⟩), .string s] w fun r w' => r = .panicked (pan (d.wrE n ((hasF d.now n).length : Int) (frS s))) ∧ Did w F p (d.wrD n ((hasF d.now n).length : Int) (frS s)) w' := by
  have fr := frame_any s w (by omega) hT
  have e0 : frE s = 0 := by unfold frE; rw [if_neg hl]
  rw [e0] at fr
  have FR := hide fr
  have hn := h.nm
  have hnl := dnm_len hn
  have hsz := hasF_sz hd n
  have hfs := frS_size s
  have HH := hide h
  have HD := hide hd
  have HBO := hide (fun W (hW : DiskAt W p d F) => bytesOf_any p n d F W hW hn)
  have HWR := hide (fun W (hW : DiskAt W p d F) => write_any n ((hasF d.now n).length : Int) (frS s) p d F W hW (by omega) (by omega) (by omega) (by omega))
  have hz := strSize (hasF d.now n)
  generalize d.wrE n ((hasF d.now n).length : Int) (frS s) = e2 at *
  generalize d.wrD n ((hasF d.now n).length : Int) (frS s) = d2 at *
  rw [← hz] at HWR
  clear hz
  generalize (⟨(hasF d.now n).toArray⟩ : ByteArray) = b at *
  generalize frS s = f at *
  clear fr hT e0 hl h hd hn
  go_enter Tryd.func26, Tryd.ntmps26
  go_wp2_with fail
  refine (unhide FR).mono ?_
  rintro r w1 ⟨rfl, hb1⟩
  have HK1 := hide (Kp.ofBelow hb1)
  clear hb1
  go_wp2_with fail
  refine (mustBeOK_ok w1).mono ?_
  rintro r w2 ⟨rfl, rfl⟩
  have hk2 := (unhide HK1).trans (Kp.drew w2) (by simp)
  have cA : w2.drew.cell? ⟨t, 0, none⟩ = some (.pointer (some ⟨p, 0, none⟩)) ∧ w2.drew.cell? ⟨t, 1, none⟩ = some (.string n) := ⟨((unhide HH).kp hk2 (by simp) (by simp)).cells.1, ((unhide HH).kp hk2 (by simp) (by simp)).cells.2.1⟩
  have BO := hide (unhide HBO w2.drew ((unhide HD).kp hk2 (by simp)))
  have HK2 := hide hk2
  clear hk2
  go_wp2_with fail
  go_region_held3 (fun W => W.cell? ⟨t, 0, none⟩ = some (.pointer (some ⟨p, 0, none⟩)) ∧ W.cell? ⟨t, 1, none⟩ = some (.string n)) (first | with_reducible exact cA)
    (first
      | (go_at_call 38; refine (unhide BO).mono ?_; rintro r w3 ⟨rfl, rfl⟩))
  clear cA BO
  generalize w2.drew = W3 at *
  have hk3 := (unhide HK2).trans (Kp.drew W3) (by simp)
  have cA : W3.drew.cell? ⟨t, 0, none⟩ = some (.pointer (some ⟨p, 0, none⟩)) ∧ W3.drew.cell? ⟨t, 1, none⟩ = some (.string n) := ⟨((unhide HH).kp hk3 (by simp) (by simp)).cells.1, ((unhide HH).kp hk3 (by simp) (by simp)).cells.2.1⟩
  have hd3 := (unhide HD).kp hk3 (by simp)
  have hh3 := (unhide HH).kp hk3 (by simp) (by simp)
  have WR : Hid (Calls Tryd.prog 17 #[.pointer (some ⟨p, 0, none⟩), .string n, .int .i64 (b.size : Int), .string f] W3.drew fun r w4 => r = .returned (.int .i64 e2) ∧ Did w F p d2 w4 ∧ w4.cell? ⟨t, 0, none⟩ = some (.pointer (some ⟨p, 0, none⟩)) ∧ w4.cell? ⟨t, 1, none⟩ = some (.string n)) := hide ((unhide HWR W3.drew hd3).mono fun r w4 ⟨h1, h2⟩ => by
    have hk4 : Kp F _ w4 := (let ⟨_, _, a, _⟩ := h2; a)
    have ht4 := hh3.kp hk4 (hh3.no hd3).1 (fun k hk => ((hh3.no hd3).2 k hk).1)
    exact ⟨h1, Did.pre hk3 h2, ht4.cells.1, ht4.cells.2.1⟩)
  rename_i hHeld
  have MB := hide (fun W => mustBeOK_not e2 he W)
  clear hk3 hd3 hh3 HWR HBO HD HH hHeld hnl hsz FR hfs HK1 HK2 he
  go_wp2_with fail
  go_region_held2 (fun W => W.cell? ⟨t, 0, none⟩ = some (.pointer (some ⟨p, 0, none⟩)) ∧ W.cell? ⟨t, 1, none⟩ = some (.string n)) (first | with_reducible exact cA | with_reducible exact cB | exact (unhide hf).elim)
    (first
      | (go_at_call 23; refine Calls.panicky (unhide MB w4) ⟨rfl, rfl, unhide HD4⟩ ?_; intro vq hf)
      | (go_at_call 17; refine (unhide WR).mono ?_; rintro r w4 ⟨rfl, hd4, cB⟩; have HD4 := hide hd4; clear hd4))
  exact (unhide hf).elim
end Go.Proofs.YtllkkflolijpaaaDoor
