/-
  Walks.
-/
import Derived.Test.YtfgkikeeadlcfaaGreatDoorMs14
set_option maxRecDepth 100000
set_option maxHeartbeats 8000000
set_option linter.unusedSimpArgs false
namespace Go.Proofs.YtfgkikeeadlcfaaGreatDoor.matchSound
open Go.ChangeShapes Go.WideShapes Go.ChangeAt Go.RowKit
open Go.ChangeMaps (open_string shut_string)
theorem plain (f:FuncId)(fn:Func)(hf:Tryz.pinned.checked.prog.funcNamed "weaver/weaverlaw14.MatchSound"=some f)(hfn:Tryz.pinned.checked.prog.funcs[f]?=some fn):
  true=Tryz.pinned.checked.prog.looks []/\ ∀(j:Nat) t,fn.params[j]?=some t->Tryz.pinned.checked.prog.wantsStandIn t=false:=by
 obtain rfl:f=3:=Option.some.inj ((show Tryz.prog.funcNamed "weaver/weaverlaw14.MatchSound"=some 3 by kernel_rfl).symm.trans hf) |>.symm
 obtain rfl:fn=Tryz.f3:=(Option.some.inj (Tryz.func3.symm.trans hfn)).symm
 refine ⟨by kernel_rfl,fun j t ht=>?_⟩
 rw[Tryz.params3]at ht
 have hm:=Array.mem_of_getElem? ht
 simp at hm
 rcases hm with rfl|rfl|rfl
 ·exact (show Tryz.prog.wantsStandIn 24=false by kernel_rfl)
 ·exact (show Tryz.prog.wantsStandIn 25=false by kernel_rfl)
 ·exact (show Tryz.prog.wantsStandIn 26=false by kernel_rfl)
end Go.Proofs.YtfgkikeeadlcfaaGreatDoor.matchSound
namespace Go.Proofs.YtfgkikeeadlcfaaGreatDoor
theorem matchSound_card:Rows.MatchSoundCardSaid:=
 Claim7.holds_tied_plain_at .later [] _ _ _ _ matchSound.said (fun _ h=>by cases h) (by kernel_rfl) (fun _ h=>by cases h) matchSound_row_tie rfl ⟨rfl,rfl⟩ (by kernel_rfl) rfl matchSound.plain (by kernel_rfl)
end Go.Proofs.YtfgkikeeadlcfaaGreatDoor
