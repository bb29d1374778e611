/-
  Walks.
-/
import Derived.Test.YtaklhcidojhnfaaGreatDoorCards
import Derived.Test.YtaklhcidojhnfaaGreatDoorTie
import Derived.Test.YtaklhcidojhnfaaGreatDoorMy11
import Derived.Deep.DeepHandedRow
set_option maxRecDepth 100000
set_option maxHeartbeats 8000000
set_option linter.unusedSimpArgs false
namespace Go.Proofs.YtaklhcidojhnfaaGreatDoor.matchOnes
open Go.ChangeShapes Go.WideShapes Go.ChangeAt Go.RowKit
open Go.ChangeMaps (open_string shut_string)
theorem own:ownKnob Tryz.prog.godebug=none:=by kernel_rfl
theorem laidOut:laidOutB Tryz.prog=true:=by kernel_rfl
theorem contract (H:Type)(enc:TypeId × Value->H)(W:World)(base:Nat)(args:Array Value)(ds gs:List (DataW H))(before:List MemPlace)
  (hval: ∀(j:Nat) t v,Tryz.f3.params[j]?=some t->args[j]?=some v->Value.okWide Tryz.prog W .any base t v)
  (hW:DataW.Whole enc Tryz.prog Tryz.f3.params.toList Rows.matchOnesSpec.vars false W args.toList ds gs before) (hsz0:(DataW.weightsEach Tryz.prog (Tryz.f3.params.toList++(OpenSpec.ofChange Rows.matchOnesSpec).bare.plain.varTypes Tryz.prog) (ds++gs)).all (· <=reachBytes)=true) (hL:laidMetH Tryz.prog Rows.matchOnesRow.laid W):
  Calls Tryz.prog 3 args W fun e W'=> ∃v,e= .returned v/\Rows.matchOnesSpec.post enc Tryz.prog Tryz.f3 false true false false W args v W':=by
 have hW':=hW
 obtain ⟨p,q,hA0,hV,rfl,hfz,hnd⟩:=hW
 have hA:DataW.TrodAll enc Tryz.prog W 0 (fun _=>true) true Tryz.f3.params.toList args.toList ds p:=hA0
 rw[Tryz.params3]at hA hval
 have hsz:(DataW.weightsEach Tryz.prog (Tryz.f3.params.toList++Rows.matchOnesSpec.plain.varTypes Tryz.prog) (ds++gs)).all (· <=reachBytes)=true:=hsz0
 rw[Tryz.params3]at hsz
 obtain ⟨v0,vs0,d0,ds0,p0,q0,hargs,rfl,rfl,h0,r0⟩:=trodAll_cons hA
 obtain ⟨v1,vs1,d1,ds1,p1,q1,rfl,rfl,rfl,h1,r1⟩:=trodAll_cons r0
 obtain ⟨rfl,rfl,rfl⟩:=trodAll_nil r1
 obtain rfl:args=#[v0,v1]:=by cases args;simp_all
 obtain ⟨rfl,rfl⟩:=trodVars_none hV
 have z0: ∀n∈d0.weights Tryz.prog 24,n<=reachBytes:=fun n hn=>of_decide_eq_true (List.all_eq_true.1 hsz n (DataW.weights_mem_each (j:=0) (t:=24) (d:=d0) rfl rfl n hn))
 have h0k:=h0
 obtain ⟨cs0,rfl,y0⟩:=okWide_struct Tryz.underlying24 (hval 0 24 v0 rfl rfl)
 obtain ⟨fuel0,hf0⟩:=h0
 obtain ⟨sa0,sc0,st0,wi0,rfl,b10,b20,b30,b40,b50⟩:=q6c y0 (by simpa [Value.cells] using hf0)
 have bc0:st0.length<=sc0:=q3K (sa:=sa0) (wi:=wi0) (by simpa [Value.cells] using hf0)
 clear hf0
 have h1k:=h1
 obtain ⟨a1,len1,cp1,rfl⟩:=okWide_slice Tryz.underlying25 (hval 1 25 v1 rfl rfl)
 obtain ⟨fuel1,hf1⟩:=h1
 obtain ⟨ad1,cap1,l1,hv1,hl1,hI1,hok1⟩:=q72 (v:= .slice a1 len1 cp1) (by simpa [Value.cells] using hf1)
 have hca1:ad1=none->cap1=0:=by
  have hcc:=(q6b (ad:=a1) (n:=len1) (cap:=cp1) (by simpa [Value.cells] using hf1)).2
  injection hv1 with e1 e2 e3
  intro e
  rw[<-e3]
  exact hcc (e1.trans e)
 rw[hv1]at hW' h1k ⊢
 clear hf1 hv1
 clear hA0
 simp only[List.append_nil]at hW'
 have hlt0: ∀x∈p0,x.block<W.heap.size:=fun x hx=>by simpa using hW'.lt x (by simp[hx])
 have hlt1: ∀x∈p1,x.block<W.heap.size:=fun x hx=>by simpa using hW'.lt x (by simp[hx])
 refine (q8p sa0 sc0 st0 wi0 ad1 cap1 l1 W b10 b20 b30 bc0 (b50 z0) hl1 hI1 hok1 hca1 (tbE hL)).mono fun e W' ⟨he,hg0⟩=>?_
 subst he
 have hg:=hg0.below (Nat.le_refl W.heap.size) (by simp)
 exact ⟨_,rfl,_,_,_,[],p0++(p1++[]),[],hW',trodAll_cons_mk (shut_bool Tryz.underlying4 _) trodAll_mk0,trodAll_cons_mk (Below.trod laidOut (by kernel_rfl) (of_decide_eq_true (by kernel_rfl)) h0k hg hlt0) (trodAll_cons_mk (Below.trod laidOut (by kernel_rfl) (of_decide_eq_true (by kernel_rfl)) h1k hg hlt1) trodAll_mk0),rfl,hg.frame _,fun h=>by cases h⟩
end Go.Proofs.YtaklhcidojhnfaaGreatDoor.matchOnes
