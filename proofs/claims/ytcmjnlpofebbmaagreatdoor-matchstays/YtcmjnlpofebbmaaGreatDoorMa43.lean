/-
  Walks and plain facts, made small.
-/
import Derived.Test.YtcmjnlpofebbmaaGreatDoorMa42
set_option maxRecDepth 100000
set_option maxHeartbeats 8000000
set_option linter.unusedSimpArgs false
namespace Go.Proofs.YtcmjnlpofebbmaaGreatDoor
open Go.RowKit Go.Deep
theorem q6X {H:Type}{enc:TypeId × Value->H}{W:World}{spare:Nat->Bool}{held:Bool}{fuel:Nat}{v:Value}{x:DataW H × List MemPlace}
  (h:DataW.trod enc Tryz.prog W 0 spare held fuel 25 [v]=some x):
  ∃(ad:Option Addr) (cap:Nat) (l:List Ev),v= .slice ad l.length cap/\l.length<=9223372036854775807/\EvsAt W ad l/\ ∀y∈l,y.ok:=by
 rcases open_slice Tryz.underlying25 h with ⟨hcs,_⟩|⟨a,len,cap,m,n,D,Pl,hcs,hb,hl,hm,hmm,_,hx⟩
 ·simp only[List.cons.injEq,and_true]at hcs
  subst hcs
  exact ⟨none,0,[],rfl,by simp,fun hne=>absurd rfl hne,by simp⟩
 ·simp only[List.cons.injEq,and_true]at hcs
  subst hcs
  have hlm:len<=m:=by rw[hmm];split <;> omega
  have each: ∀i,i<len-> ∃y:Ev,(∀(j:Nat) (u:Value),y.c[j]?=some u->W.cell? (a.add (i * 7+j))=some u)/\y.ok:=by
   intro i hi
   obtain ⟨cs',h1,h2⟩:=hx i (by omega)
   rw[q2i]at h1
   obtain ⟨_,hlen,hcell⟩:=World.cells?_some h1
   obtain ⟨y,hy,hok⟩:=q8q (cs:=cs'.toArray) (by rw[q2i];simpa using hlen) (by simpa using h2)
   refine ⟨y,fun j u hu=>?_,hok⟩
   rw[<-hy]at hu
   have hj:j<cs'.length:=by
    have:=(Array.getElem?_eq_some_iff.1 hu).1
    simpa using this
   have e0:=hcell j (by omega)
   rw[Go.Deep.add_add]at e0
   rw[e0]
   simpa using hu
  have hinh:Inhabited Ev:=⟨⟨⟨#[]⟩,⟨#[]⟩,0,0,0,0,⟨#[]⟩⟩⟩
  obtain ⟨q,hq⟩:=choose_lt each
  refine ⟨some a,cap,(List.range len).map q,by simp,by simp;unfold maxLen at hm;omega,fun hne=>?_,fun y hy=>?_⟩
  ·have h0:0<len:=by
    rcases Nat.eq_zero_or_pos len with e|e
    ·subst e;simp at hne
    ·exact e
   obtain ⟨b,off,spot⟩:=a
   have hc0:=(hq 0 h0).1 0 _ rfl
   have hspot:spot=none:=by simpa [Addr.add] using World.cell?_spot hc0
   subst hspot
   refine ⟨b,off,rfl,?_,fun i e hi j u hu=>?_⟩
   ·rcases Nat.lt_or_ge b W.heap.size with hlt|hge
    ·exact hlt
    ·exfalso
     rw[Go.WideShapes.add_plain]at hc0
     simp[World.cell?,Array.getElem?_eq_none hge]at hc0
   ·have hi':i<len:=by
     have:=(List.getElem?_eq_some_iff.1 hi).1
     simpa using this
    have he:e=q i:=by
     rw[List.getElem?_map,List.getElem?_range hi']at hi
     simpa using hi.symm
    subst he
    have:=(hq i hi').1 j u hu
    rw[Go.WideShapes.add_plain]at this
    rw[Nat.add_assoc]
    exact this
  ·obtain ⟨i,hi,rfl⟩:=List.mem_map.1 hy
   exact (hq i (List.mem_range.1 hi)).2
open Go.RowKit Go.Deep
section
variable {H:Type} {enc:TypeId × Value->H} {W:World} {spare:Nat->Bool} {held:Bool} {fuel:Nat} {x:DataW H × List MemPlace}
theorem q68 {ad:Option Addr}{n cap:Nat}(h:DataW.trod enc Tryz.prog W 0 spare held fuel 25 [.slice ad n cap]=some x):n<=cap/\(ad=none->cap=0):=by
 rcases open_slice Tryz.underlying25 h with ⟨hcs,_⟩|⟨a,len,cap,m,k,D,Pl,hcs,hb,hl,hm,hmm,_,hx⟩
 ·simp only[List.cons.injEq,and_true]at hcs
  cases hcs
  exact ⟨Nat.le_refl _,fun _=>rfl⟩
 ·simp only[List.cons.injEq,and_true]at hcs
  cases hcs
  exact ⟨hl,fun e=>by cases e⟩
theorem q6b {ad:Option Addr}{n cap:Nat}(h:DataW.trod enc Tryz.prog W 0 spare held fuel 22 [.slice ad n cap]=some x):n<=cap:=by
 rcases open_slice Tryz.underlying22 h with ⟨hcs,_⟩|⟨a,len,cap,m,k,D,Pl,hcs,hb,hl,hm,hmm,_,hx⟩
 ·simp only[List.cons.injEq,and_true]at hcs
  cases hcs
  exact Nat.le_refl _
 ·simp only[List.cons.injEq,and_true]at hcs
  cases hcs
  exact hl
theorem q3E {sa:Option Addr}{n sc:Nat}{wi:Int}(h:DataW.trod enc Tryz.prog W 0 spare held fuel 24 [.slice sa n sc, .int .i64 wi]=some x):n<=sc:=by
 obtain ⟨f0,f1,hu,t0,t1,o0,o1⟩:=q2r
 obtain ⟨xs,k,_,hxe,_,hxl,hf⟩:=DataW.trod_struct hu h
 match xs,hxl with
 |[y0,y1],_=>
  have g0:=hf 0 f0 rfl
  simp[o0,t0,q2U]at g0
  exact q6b g0
end
end Go.Proofs.YtcmjnlpofebbmaaGreatDoor
