/-
  Fuse of a disk.
-/
import Derived.Test.YtllkkflolijpaaaDoorDkW0
namespace Go.Proofs.YtllkkflolijpaaaDoor
open Go.RowKit

set_option maxHeartbeats 400000 in
theorem fuse_any (p : Nat) (d : Dk) (F : List Nat) (n : Int) (w : World) (h : DiskAt w p d F) (hn : n ≤ 9223372036854775807) :
    Calls Tryd.prog 11 #[.pointer (some ⟨p, 0, none⟩), .int .i64 n] w fun e w' => e = .returned (.int .i64 (Dk.fuE n)) ∧ Did w F p (d.fuD n) w' := by
  unfold Dk.fuE Dk.fuD
  by_cases h0 : n < 0
  · rw [if_pos h0, if_pos h0]
    have HD := hide h.did
    clear h
    go_enter Tryd.func11, Tryd.ntmps11
    go_wp2
    go_ret
    exact ⟨rfl, unhide HD⟩
  · rw [if_neg h0, if_neg h0]
    have hv := h.inv
    obtain ⟨bs, bn, wv, Ls, Ln, ha, rfl, _⟩ := h
    have hc := ha.cells
    have hf := ha.frozs
    have hi : Inv { d with left := n } := ⟨hv.play, hv.can, hv.room, hv.few, by dsimp only; omega, hn⟩
    have hkp := kp_set w p 3 (.int .i64 n)
    have hbox := ha.box.set 3 (.int .i64 n)
    have hD := ha.setBox hkp (wv' := wv) (l' := n) (dn' := d.down) hbox rfl
    have HD := hide (Did.of hD hi (hkp.mono (by unfold foot; simp)) (fun _ hk => Or.inl hk))
    clear hD hbox hi ha hkp hv
    go_enter Tryd.func11, Tryd.ntmps11
    go_wp2
    go_ret
    exact ⟨rfl, unhide HD⟩
end Go.Proofs.YtllkkflolijpaaaDoor
