/-
  Walks.
-/
import Derived.Test.YtfgkikeeadlcfaaGreatDoorMs12
set_option maxRecDepth 100000
set_option maxHeartbeats 8000000
set_option linter.unusedSimpArgs false
namespace Go.Proofs.YtfgkikeeadlcfaaGreatDoor.matchSound
open Go.ChangeShapes Go.WideShapes Go.ChangeAt Go.RowKit
open Go.ChangeMaps (open_string shut_string)
theorem laid_met (os:Os):laidMet Tryz.prog Rows.matchSoundRow.laid ({ World.holding Tryz.prog os ⟨q1S,#[],[]⟩with heap:=putL (World.holding Tryz.prog os ⟨q1S,#[],[]⟩).heap }.forCall (fun _ _=>0) ⟨#[],#[.agg #[.slice none 0 0, .int .i64 0], .slice none 0 0, .slice none 0 0],[]⟩).memory:=
 laidMet_of_run' 8 (by kernel_rfl) (by kernel_rfl)
theorem reads (os:Os){H:Type}(enc:TypeId × Value->H): ∃places,DataW.whole enc Tryz.prog ({ World.holding Tryz.prog os ⟨q1S,#[],[]⟩with heap:=putL (World.holding Tryz.prog os ⟨q1S,#[],[]⟩).heap }.forCall (fun _ _=>0) ⟨#[],#[.agg #[.slice none 0 0, .int .i64 0], .slice none 0 0, .slice none 0 0],[]⟩).memory Tryz.f3.params.toList Rows.matchSoundSpec.vars false #[Value.agg #[.slice none 0 0, .int .i64 0],Value.slice none 0 0,Value.slice none 0 0].toList 8=some ([.agg [.nil, .lit (.int .i64 0)], .nil, .nil],[],places):=
 ⟨[],by kernel_rfl⟩
theorem lifted (os:Os)(started:os.Started)(H:Type)(enc:TypeId × Value->H)(F:Stop.Interp):
  ReturnsInHanded {} Tryz.checked os 3 .any ((OpenSpec.ofChange Rows.matchSoundSpec).preRow enc Tryz.prog Tryz.f3 Rows.matchSoundRow.domain false Rows.matchSoundRow.laid) (((OpenSpec.ofChange Rows.matchSoundSpec).at F).post enc Tryz.prog Tryz.f3 false true false false):=by
 obtain ⟨places,hx⟩:=reads os enc
 refine returnsInHanded_of_row (C:=Tryz.checked) (s:=OpenSpec.ofChange Rows.matchSoundSpec) own started (by kernel_rfl) Tryz.func3
  (witness_row_at (enc:=enc) (C:=Tryz.checked) false { World.holding Tryz.prog os ⟨q1S,#[],[]⟩with heap:=putL (World.holding Tryz.prog os ⟨q1S,#[],[]⟩).heap } #[.agg #[.slice none 0 0, .int .i64 0], .slice none 0 0, .slice none 0 0] rfl (by kernel_rfl) (by kernel_rfl) (by kernel_rfl)
   (OpenSpec.preRow_of_cond 8 hx (by kernel_rfl) (fun k hk=>by cases hk) (by kernel_rfl) (laid_met os))) ?_
 intro W base args ds gs before hval hW _ _ _ hL _ _
 exact contract H enc W base args ds gs before hval hW hL
end Go.Proofs.YtfgkikeeadlcfaaGreatDoor.matchSound
