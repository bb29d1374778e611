/-
  Walks.
-/
import Derived.Test.YtfgkikeeadlcfaaGreatDoorCards
import Derived.Test.YtfgkikeeadlcfaaGreatDoorTie
import Derived.Test.YtfgkikeeadlcfaaGreatDoorMs11
import Derived.Deep.DeepHandedRow
set_option maxRecDepth 100000
set_option maxHeartbeats 8000000
set_option linter.unusedSimpArgs false
namespace Go.Proofs.YtfgkikeeadlcfaaGreatDoor.matchSound
open Go.ChangeShapes Go.WideShapes Go.ChangeAt Go.RowKit
open Go.ChangeMaps (open_string shut_string)
theorem own:ownKnob Tryz.prog.godebug=none:=by kernel_rfl
theorem laidOut:laidOutB Tryz.prog=true:=by kernel_rfl
theorem contract (H:Type)(enc:TypeId × Value->H)(W:World)(base:Nat)(args:Array Value)(ds gs:List (DataW H))(before:List MemPlace)
  (hval: ∀(j:Nat) t v,Tryz.f3.params[j]?=some t->args[j]?=some v->Value.okWide Tryz.prog W .any base t v)
  (hW:DataW.Whole enc Tryz.prog Tryz.f3.params.toList Rows.matchSoundSpec.vars false W args.toList ds gs before) (hL:laidMetH Tryz.prog Rows.matchSoundRow.laid W):
  Calls Tryz.prog 3 args W fun e W'=> ∃v,e= .returned v/\Rows.matchSoundSpec.post enc Tryz.prog Tryz.f3 false true false false W args v W':=by
 have hW':=hW
 obtain ⟨p,q,hA0,hV,rfl,hfz,hnd⟩:=hW
 have hA:DataW.TrodAll enc Tryz.prog W 0 (fun _=>true) true Tryz.f3.params.toList args.toList ds p:=hA0
 rw[Tryz.params3]at hA hval
 obtain ⟨v0,vs0,d0,ds0,p0,q0,hargs,rfl,rfl,h0,r0⟩:=trodAll_cons hA
 obtain ⟨v1,vs1,d1,ds1,p1,q1,rfl,rfl,rfl,h1,r1⟩:=trodAll_cons r0
 obtain ⟨v2,vs2,d2,ds2,p2,q2,rfl,rfl,rfl,h2,r2⟩:=trodAll_cons r1
 obtain ⟨rfl,rfl,rfl⟩:=trodAll_nil r2
 obtain rfl:args=#[v0,v1,v2]:=by cases args;simp_all
 obtain ⟨rfl,rfl⟩:=trodVars_none hV
 have h0k:=h0
 obtain ⟨cs0,rfl,y0⟩:=okWide_struct Tryz.underlying24 (hval 0 24 v0 rfl rfl)
 obtain ⟨fuel0,hf0⟩:=h0
 obtain ⟨sa0,sc0,st0,wi0,rfl,b10,b20,b30,b40,b50⟩:=q6e y0 (by simpa [Value.cells] using hf0)
 have bc0:st0.length<=sc0:=q3M (sa:=sa0) (wi:=wi0) (by simpa [Value.cells] using hf0)
 clear hf0
 have h1k:=h1
 obtain ⟨a1,len1,cp1,rfl⟩:=okWide_slice Tryz.underlying25 (hval 1 25 v1 rfl rfl)
 obtain ⟨fuel1,hf1⟩:=h1
 obtain ⟨ad1,cap1,l1,hv1,hl1,hI1,hok1⟩:=q7a (v:= .slice a1 len1 cp1) (by simpa [Value.cells] using hf1)
 have hca1:ad1=none->cap1=0:=by
  have hcc:=(q6d (ad:=a1) (n:=len1) (cap:=cp1) (by simpa [Value.cells] using hf1)).2
  injection hv1 with e1 e2 e3
  intro e
  rw[<-e3]
  exact hcc (e1.trans e)
 rw[hv1]at hW' h1k ⊢
 clear hf1 hv1
 have h2k:=h2
 obtain ⟨a2,len2,cp2,rfl⟩:=okWide_slice Tryz.underlying26 (hval 2 26 v2 rfl rfl)
 obtain ⟨fuel2,hf2⟩:=h2
 obtain ⟨ad2,cap2,l2,hv2,hl2,hI2,hok2⟩:=qdy (v:= .slice a2 len2 cp2) (by simpa [Value.cells] using hf2)
 rw[hv2]at hW' h2k ⊢
 clear hf2 hv2
 clear hA0
 simp only[List.append_nil]at hW'
 have hlt0: ∀x∈p0,x.block<W.heap.size:=fun x hx=>by simpa using hW'.lt x (by simp[hx])
 have hlt1: ∀x∈p1,x.block<W.heap.size:=fun x hx=>by simpa using hW'.lt x (by simp[hx])
 have hlt2: ∀x∈p2,x.block<W.heap.size:=fun x hx=>by simpa using hW'.lt x (by simp[hx])
 refine (q79 sa0 sc0 st0 wi0 ad1 cap1 l1 ad2 cap2 l2 W b10 b20 b30 bc0 hl1 hI1 hok1 hca1 hl2 hI2 hok2 (tbE hL)).mono fun e W' ⟨he,hg0⟩=>?_
 subst he
 have hg:=hg0.below (zM W.heap.size) (by simp)
 exact ⟨_,rfl,_,_,_,[],p0++(p1++(p2++[])),[],hW',trodAll_cons_mk (shut_bool Tryz.underlying4 _) trodAll_mk0,trodAll_cons_mk (Below.trod laidOut (by kernel_rfl) (of_decide_eq_true (by kernel_rfl)) h0k hg hlt0) (trodAll_cons_mk (Below.trod laidOut (by kernel_rfl) (of_decide_eq_true (by kernel_rfl)) h1k hg hlt1) (trodAll_cons_mk (Below.trod laidOut (by kernel_rfl) (of_decide_eq_true (by kernel_rfl)) h2k hg hlt2) trodAll_mk0)),rfl,hg.frame _,fun h=>by cases h⟩
end Go.Proofs.YtfgkikeeadlcfaaGreatDoor.matchSound
