/-
  Walks and plain facts, made small.
-/
import Derived.Test.YtcmjnlpofebbmaaGreatDoorMa20
set_option maxRecDepth 100000
set_option maxHeartbeats 8000000
set_option linter.unusedSimpArgs false
namespace Go.Proofs.YtcmjnlpofebbmaaGreatDoor
open Go.RowKit Go.Shelf
theorem qcI:(Tryz.prog.info? 144).map (fun i=>(i.zero,i.size,i.bytes))=some (some (.int .i8 0),1,1):=by kernel_rfl
theorem qaT:(Tryz.prog.info? 134).map (fun i=>(i.zero,i.size,i.bytes))=some (some (.slice none 0 0),1,24):=by kernel_rfl
def ntR (row:List Int):Array Value:=(row.map (Value.int .i8)).toArray
theorem qez (n:Nat)(hn:n<=10000000)(W:World):(Instr.makeSlice 134 (.int .i64 (n:Int)) (.int .i64 (n:Int))).run Tryz.prog W= .ok (.slice (some ⟨W.heap.size,0,none⟩) n n) (W.alloc (.cells (ntR (List.replicate n 0)) 144)):=by
 obtain ⟨i0,hi,hz0,hz1,hz2⟩:=info_parts qcI
 have h:=run_make (P:=Tryz.prog) W 134 144 i0 (.int .i8 0) Tryz.underlying134 hi hz0 .i64 .i64 (n:Int) (n:Int) (by omega) (by omega) (by rw[hz2];omega) (by omega)
 rw[hz1]at h
 simp only[Int.toNat_natCast,Nat.mul_one]at h
 rw[h]
 have e:madeCells (Value.int .i8 0).cells n=ntR (List.replicate n 0):=by
  apply Array.ext'
  refine (toList_madeCells_one (Value.int .i8 0) n).trans ?_
  unfold ntR
  simp
 rw[e]
theorem q6s {w:World}{v x:Value}{vs:List Value}(st et:TypeId)(hut:Tryz.prog.underlying st=some (.slice et))(hin:(Tryz.prog.info? et).map (fun i=>(i.zero,i.size,i.bytes))=some (some (.slice none 0 0),1,24))(h:w.ownsRow 0 et 1 v vs.length vs){g c:Nat}(hz:CBox g #[x] et w)(h1:x.oneCell'=true)(hl:vs.length+1<=1000000)(ty:TypeId):
  ∃g' cap w',(Builtin.append_ #[st,st] ty #[v, .slice (some ⟨g,0,none⟩) 1 c]).run Tryz.prog w= .ok (.slice (some ⟨g',0,none⟩) (vs.length+1) cap) w'/\w'.ownsRow 0 et 1 (.slice (some ⟨g',0,none⟩) (vs.length+1) cap) (vs++[x]).length (vs++[x])/\Kp v.ownBlock.toList w w'/\(v.ownBlock=some g'\/w.heap.size<=g'):=by
 obtain ⟨i0,hi,hz0,hz1,hz2⟩:=info_parts hin
 obtain ⟨g',cap,w',hrun,r1,r2,r3,_⟩:=run_append_lies (P:=Tryz.prog) (w:=w) st ty 0 et i0 _ 1 24 hut hi hz0 hz1 hz2 rfl (by decide) v vs.length vs h ⟨g,0,none⟩ 1 c [x] rfl (fun j u hj=>by
  rw[Go.WideShapes.add_plain,Nat.zero_add]
  exact hz.cell (by simpa using hj)) (fun u hu=>by rw[List.mem_singleton]at hu;rw[hu];exact h1) (by omega) (by unfold maxLen;omega) (by omega) (Nat.zero_le _) _ rfl
 refine ⟨g',cap,w',hrun,?_,Kp.of r2,r3.imp_right (fun e=>by omega)⟩
 rw[List.length_append]
 exact r1
def NtV (B Z:Nat)(w:World)(az:List Int)(v:Value):Prop:=(az.length<=1-> ∃b,v= .slice (some ⟨b,0,none⟩) Z Z/\CBox b (ntR (List.replicate Z 0)) 144 w/\B<=b)/\(1<az.length->v= .slice none 0 0)
theorem NtV.kp {B Z:Nat}{w w':World}{az:List Int}{v:Value}{F:List Nat}(h:NtV B Z w az v)(hk:Kp F w w')(hF: ∀b cs,CBox b cs 144 w->b∉F):NtV B Z w' az v:=
 ⟨fun hl=>by
  obtain ⟨b,e,hc,hb⟩:=h.1 hl
  exact ⟨b,e,hc.kp hk (hF b _ hc),hb⟩,h.2⟩
theorem q08 {w:World}{B e sz n:Nat}{v:Value}{xs:List Value}(h:w.ownsRow B e sz v n xs){b:Nat}(hb:v.ownBlock=some b): ∃cur,CBox b cur e w:=by
 obtain ⟨_,⟨rfl,_⟩|⟨g,cp,cur,rfl,_,hh,_⟩⟩:=h
 ·cases hb
 ·simp[Value.ownBlock]at hb
  subst hb
  exact ⟨cur,hh⟩
theorem q0p {w:World}{a b:Nat}{cs ds:Array Value}{t u:TypeId}(h:CBox a cs t w)(h2:CBox b ds u w)(hne:t≠u):a≠b:=fun e=>by
 subst e
 unfold CBox at h h2
 rw[h]at h2
 injection h2 with e2
 injection e2 with _ e3
 exact hne e3
theorem q7E {w:World}{e n:Nat}{v:Value}{xs:List Value}(h:w.ownsRow 0 e 1 v n xs)(he:e≠3):NoI w v.ownBlock.toList:=fun f hf cur fr hc=>by
 obtain ⟨c1,e1⟩:=q08 h (b:=f) (by simpa using hf)
 unfold CBox at e1
 rw[e1]at hc
 injection hc with e2
 injection e2 with _ e3
 exact he e3
theorem q4A {w:World}{b:Nat}{cs:Array Value}{t:TypeId}(h:CBox b cs t w)(he:t≠3):NoI w [b]:=fun f hf cur fr hc=>by
 rw[List.mem_singleton]at hf
 subst hf
 unfold CBox at h
 rw[h]at hc
 injection hc with e2
 injection e2 with _ e3
 exact he e3
structure XtS (w:World)(gt B Z:Nat)(aA aN:List (List Int))(av nv:Value)(avs nvs:List Value)(wr:World):Prop where
 bx:CBox B #[.pointer (some ⟨gt,0,none⟩),av,nv] 132 wr
 ar:VRo wr av avs
 ai:RowsI wr avs aA
 nr:wr.ownsRow 0 134 1 nv nvs.length nvs
 nl:nvs.length=aN.length
 ni: ∀(t:Nat) (v:Value) (a:List Int),nvs[t]?=some v->aN[t]?=some a->NtV B Z wr a v
 nd: ∀(i j:Nat) (a b:Value) (k:Nat),nvs[i]?=some a->nvs[j]?=some b->a.ownBlock=some k->b.ownBlock=some k->i=j
 nw: ∀v∈av::nv::avs, ∀b,v.ownBlock=some b->B<=b
 kp:Kp [] w wr
 lo:w.heap.size<=B
theorem XtS.go {w wr w':World}{gt B Z:Nat}{aA aN:List (List Int)}{av nv:Value}{avs nvs:List Value}(h:XtS w gt B Z aA aN av nv avs nvs wr)(hk:Kp [] wr w'):XtS w gt B Z aA aN av nv avs nvs w':=
 ⟨h.bx.kp hk (by simp),h.ar.kp hk (by simp),h.ai.kpT hk (fun f hf=>by cases hf),q02 h.nr hk (by simp),h.nl,fun t v a hv ha=>(h.ni t v a hv ha).kp hk (by simp),h.nd,h.nw,h.kp.trans hk (by simp),h.lo⟩
theorem XtS.nlt {w wr:World}{gt B Z:Nat}{aA aN:List (List Int)}{av nv:Value}{avs nvs:List Value}(h:XtS w gt B Z aA aN av nv avs nvs wr): ∀u∈nvs, ∀b,u.ownBlock=some b->b<wr.heap.size:=fun u hu b hb=>by
 obtain ⟨t,ht,rfl⟩:=List.getElem_of_mem hu
 have hn:=h.ni t _ _ (List.getElem?_eq_getElem ht) (List.getElem?_eq_getElem (by rw[<-h.nl];exact ht))
 rcases Nat.lt_or_ge 1 (aN[t]'(by rw[<-h.nl];exact ht)).length with h1|h1
 ·rw[hn.2 h1]at hb
  cases hb
 ·obtain ⟨b',e,hc,_⟩:=hn.1 h1
  rw[e]at hb
  simp[Value.ownBlock]at hb
  subst hb
  exact (Array.getElem?_eq_some_iff.1 hc).1
theorem XtS.pushA {w wr:World}{gt B Z:Nat}{aA aN:List (List Int)}{av nv:Value}{avs nvs:List Value}(h:XtS w gt B Z aA aN av nv avs nvs wr){x:Value}{a:List Int}(hx:IRo wr x a)(hxb: ∀b,x.ownBlock=some b->B<=b){g c:Nat}(hz:CBox g #[x] 38 wr)(h1:x.oneCell'=true)(hl:aA.length+1<=1000000)(ty:TypeId):
  ∃g' cap w',(Builtin.append_ #[35,35] ty #[av, .slice (some ⟨g,0,none⟩) 1 c]).run Tryz.prog wr= .ok (.slice (some ⟨g',0,none⟩) (aA.length+1) cap) w'/\CBox B #[.pointer (some ⟨gt,0,none⟩),av,nv] 132 w'/\
   XtS w gt B Z (aA++[a]) aN (.slice (some ⟨g',0,none⟩) (aA.length+1) cap) nv (avs++[x]) nvs (w'.setCell ⟨B,1,none⟩ (.slice (some ⟨g',0,none⟩) (aA.length+1) cap))/\ ∀(b:List Int) (v:Value),NtV B Z wr b v->NtV B Z (w'.setCell ⟨B,1,none⟩ (.slice (some ⟨g',0,none⟩) (aA.length+1) cap)) b v:=by
 have hll:avs.length=aA.length:=h.ai.1
 obtain ⟨g',cap,w',hrun,r1,r2,r3⟩:=q6s (c:=c) 35 38 Tryz.underlying35 q2F h.ar hz h1 (by rw[hll];exact hl) ty
 rw[hll]at hrun r1
 have hlt:B<wr.heap.size:=(Array.getElem?_eq_some_iff.1 h.bx).1
 have hBa:B∉av.ownBlock.toList:=fun hm=>q0d h.ar h.bx (by decide) (by simpa using hm)
 have hb1:=h.bx.kp r2 hBa
 have hks:=Kp.set w' B 1 (.slice (some ⟨g',0,none⟩) (aA.length+1) cap)
 have hn1:w'.ownsRow 0 134 1 nv nvs.length nvs:=q02 h.nr r2 (fun x hx hm=>q2z h.nr h.ar (by decide) x hx hm)
 have hgB:B<=g':=by
  rcases r3 with r3|r3
  ·exact h.nw av (by simp) g' r3
  ·omega
 have hstep: ∀(b:List Int) (v:Value),NtV B Z wr b v->NtV B Z (w'.setCell ⟨B,1,none⟩ (.slice (some ⟨g',0,none⟩) (aA.length+1) cap)) b v:=fun b v hv=>(hv.kp r2 (fun b cs hc hm=>q0d h.ar hc (by decide) (by simpa using hm))).kp hks (fun b cs hc hm=>by
  rw[List.mem_singleton]at hm
  exact q0p hc hb1 (by decide) hm)
 refine ⟨g',cap,w',hrun,hb1,⟨hb1.set 1 _,VRo.kp (v:= .slice (some ⟨g',0,none⟩) (aA.length+1) cap) (show VRo w' _ _ from r1) hks (fun b hb hm=>?_),((RowsI.snoc h.ai hx).kpT r2 (q7E h.ar (by decide))).kpT hks (q4A hb1 (by decide)),q02 hn1 hks (fun b hb hm=>?_),h.nl,fun t v a hv ha=>hstep _ _ (h.ni t v a hv ha),h.nd,fun v hv b hb=>?_,(h.kp.trans r2 (fun x hx=>Or.inr ?_)).trans hks (fun x hx=>Or.inr ?_),h.lo⟩,hstep⟩
 ·rw[List.mem_singleton]at hm
  subst hm
  obtain ⟨cur,hc⟩:=q08 r1 hb
  exact q0p hc hb1 (by decide) rfl
 ·rw[List.mem_singleton]at hm
  subst hm
  exact q0d hn1 hb1 (by decide) hb
 ·rw[List.mem_cons,List.mem_cons,List.mem_append,List.mem_singleton]at hv
  rcases hv with rfl|rfl|hv|rfl
  ·simp[Value.ownBlock]at hb
   omega
  ·exact h.nw v (by simp) b hb
  ·exact h.nw v (by simp[hv]) b hb
  ·exact hxb b hb
 ·have:=h.nw av (by simp) x (by simpa using hx)
  have:=h.lo
  omega
 ·rw[List.mem_singleton]at hx
  rw[hx]
  exact h.lo
theorem XtS.pushN {w wr:World}{gt B Z:Nat}{aA aN:List (List Int)}{av nv:Value}{avs nvs:List Value}(h:XtS w gt B Z aA aN av nv avs nvs wr){x:Value}{a:List Int}(hx:NtV B Z wr a x)(hxn: ∀u∈nvs, ∀b,x.ownBlock=some b->u.ownBlock≠some b){g c:Nat}(hz:CBox g #[x] 134 wr)(h1:x.oneCell'=true)(hl:aN.length+1<=1000000)(ty:TypeId):
  ∃g' cap w',(Builtin.append_ #[130,130] ty #[nv, .slice (some ⟨g,0,none⟩) 1 c]).run Tryz.prog wr= .ok (.slice (some ⟨g',0,none⟩) (aN.length+1) cap) w'/\CBox B #[.pointer (some ⟨gt,0,none⟩),av,nv] 132 w'/\
   XtS w gt B Z aA (aN++[a]) av (.slice (some ⟨g',0,none⟩) (aN.length+1) cap) avs (nvs++[x]) (w'.setCell ⟨B,2,none⟩ (.slice (some ⟨g',0,none⟩) (aN.length+1) cap)):=by
 have hll:nvs.length=aN.length:=h.nl
 obtain ⟨g',cap,w',hrun,r1,r2,r3⟩:=q6s (c:=c) 130 134 Tryz.underlying130 qaT h.nr hz h1 (by rw[hll];exact hl) ty
 rw[hll]at hrun r1
 have hlt:B<wr.heap.size:=(Array.getElem?_eq_some_iff.1 h.bx).1
 have hBa:B∉nv.ownBlock.toList:=fun hm=>q0d h.nr h.bx (by decide) (by simpa using hm)
 have hb1:=h.bx.kp r2 hBa
 have hks:=Kp.set w' B 2 (.slice (some ⟨g',0,none⟩) (aN.length+1) cap)
 have ha1:VRo w' av avs:=h.ar.kp r2 (fun x hx hm=>q2z h.ar h.nr (by decide) x hx hm)
 have hgB:B<=g':=by
  rcases r3 with r3|r3
  ·exact h.nw nv (by simp) g' r3
  ·omega
 have hstep: ∀{v:Value} {a:List Int},NtV B Z wr a v->NtV B Z (w'.setCell ⟨B,2,none⟩ (.slice (some ⟨g',0,none⟩) (aN.length+1) cap)) a v:=fun hv=>(hv.kp r2 (fun b cs hc hm=>q0d h.nr hc (by decide) (by simpa using hm))).kp hks (fun b cs hc hm=>by
  rw[List.mem_singleton]at hm
  exact q0p hc hb1 (by decide) hm)
 refine ⟨g',cap,w',hrun,hb1,⟨hb1.set 2 _,ha1.kp hks (fun b hb hm=>?_),(h.ai.kpT r2 (q7E h.nr (by decide))).kpT hks (q4A hb1 (by decide)),q02 r1 hks (fun b hb hm=>?_),by rw[List.length_append,List.length_append,hll];rfl,fun t v b hv hb=>?_,fun i j u v y hu hv hyu hyv=>?_,fun v hv b hb=>?_,(h.kp.trans r2 (fun x hx=>Or.inr ?_)).trans hks (fun x hx=>Or.inr ?_),h.lo⟩⟩
 ·rw[List.mem_singleton]at hm
  subst hm
  exact q0d ha1 hb1 (by decide) hb
 ·rw[List.mem_singleton]at hm
  subst hm
  obtain ⟨cur,hc⟩:=q08 r1 hb
  exact q0p hc hb1 (by decide) rfl
 ·rcases Nat.lt_or_ge t nvs.length with ht|ht
  ·rw[List.getElem?_append_left ht]at hv
   rw[List.getElem?_append_left (by omega)]at hb
   exact hstep (h.ni t v b hv hb)
  ·rw[List.getElem?_append_right ht]at hv
   rw[List.getElem?_append_right (by omega)]at hb
   have e1:=List.mem_of_getElem? hv
   have e2:=List.mem_of_getElem? hb
   rw[List.mem_singleton]at e1 e2
   subst e1 e2
   exact hstep hx
 ·have key: ∀(i:Nat) (u:Value),(nvs++[x])[i]?=some u->(i<nvs.length/\nvs[i]?=some u)\/(i=nvs.length/\u=x):=fun i u hu=>by
   rcases Nat.lt_or_ge i nvs.length with hi|hi
   ·rw[List.getElem?_append_left hi]at hu
    exact Or.inl ⟨hi,hu⟩
   ·have hlt:=(List.getElem?_eq_some_iff.1 hu).1
    rw[List.getElem?_append_right hi]at hu
    have e1:=List.mem_of_getElem? hu
    rw[List.mem_singleton]at e1
    rw[List.length_append,List.length_singleton]at hlt
    exact Or.inr ⟨by omega,e1⟩
  rcases key i u hu with ⟨hi,hu'⟩|⟨hi,rfl⟩
  ·rcases key j v hv with ⟨hj,hv'⟩|⟨hj,rfl⟩
   ·exact h.nd i j u v y hu' hv' hyu hyv
   ·exact absurd hyu (hxn u (List.mem_of_getElem? hu') y hyv)
  ·rcases key j v hv with ⟨hj,hv'⟩|⟨hj,rfl⟩
   ·exact absurd hyv (hxn v (List.mem_of_getElem? hv') y hyu)
   ·omega
 ·rw[List.mem_cons,List.mem_cons]at hv
  rcases hv with rfl|rfl|hv
  ·exact h.nw v (by simp) b hb
  ·simp[Value.ownBlock]at hb
   omega
  ·exact h.nw v (by simp[hv]) b hb
 ·have:=h.nw nv (by simp) x (by simpa using hx)
  have:=h.lo
  omega
 ·rw[List.mem_singleton]at hx
  rw[hx]
  exact h.lo
open Go.RowKit Go.Shelf
def asks (l:List SR):List (List Int):=l.map fun r=>asZ l r.s.cd
theorem q0U (l:List SR):(asks l).length=l.length:=by unfold asks;rw[List.length_map]
theorem q5k (gt:Nat)(sa:Option Addr)(sc:Nat)(l:List SR)(W:Nat)(ea:Option Addr)(m ec:Nat)(nv0:Value)(w:World)(hb:CBox gt (ntC sa l.length sc (W:Int) ea m ec nv0) 99 w)(h:StsAt w sa l)(h8:l.length<=8)(hT:TbE w)(hfit: ∀r∈l, ∀q∈r.s.cd,q.fit)(hW:W<=256)(hm:m<=4096):
  Calls Tryz.prog 40 #[.pointer (some ⟨gt,0,none⟩)] w fun e w'=>e= .returned (.pointer (some ⟨w.heap.size,0,none⟩))/\ ∃av nv avs nvs,XtS w gt w.heap.size (m * W) (asks l) (asks l) av nv avs nvs w':=by
 have hgl:gt<w.heap.size:=(Array.getElem?_eq_some_iff.1 hb).1
 have HGT:Hid (∀W',Kp [] w W'->W'.cell? ⟨gt,0,none⟩=some (.slice sa l.length sc)/\W'.cell? ⟨gt,1,none⟩=some (.int .i64 (W:Int))/\W'.cell? ⟨gt,2,none⟩=some (.slice ea m ec)):=hZq (fun W' hk=>by
  have:=hb.kp hk (by simp)
  exact ⟨this.cell rfl,this.cell rfl,this.cell rfl⟩)
 have HST:=hZq (fun (i:Nat) (hi:i<l.length) W' (hk:Kp [] w W')=>(h.kp hk).at i hi)
 have HSA:=hZq (fun (i:Nat) (hi:i<l.length) W' (hk:Kp [] w W') (hpt:PtsAt W' l[i].ad l[i].s.cd)=>q2e sa sc l (W:Int) l[i].s.nm l[i].s.hw l[i].s.mn l[i].ad l[i].c l[i].s.cd W' (h.kp hk) h8 hpt (hT.kp hk (by simp)) (hfit _ (List.getElem_mem hi)))
 have HNX:Hid (∀i (hi:i<l.length),(asks l).take (i+1)=(asks l).take i++[asZ l l[i].s.cd]):=hZq (fun i hi=>by
  rw[List.take_add_one]
  unfold asks
  rw[List.getElem?_map,List.getElem?_eq_getElem hi]
  rfl)
 have HTL:Hid (∀i,i<=l.length->((asks l).take i).length=i):=hZq (fun i hi=>by rw[List.length_take,q0U];omega)
 have HEN:Hid ((asks l).take l.length=asks l):=hZq (by rw[<-q0U,List.take_length])
 have k1:=Kp.alloc w (.cells #[.pointer (some ⟨gt,0,none⟩), .slice none 0 0, .slice none 0 0] 132)
 have H0:Hid (XtS w gt w.heap.size (m * W) [] [] (.slice none 0 0) (.slice none 0 0) [] [] (w.alloc (.cells #[.pointer (some ⟨gt,0,none⟩), .slice none 0 0, .slice none 0 0] 132))):=hZq ⟨CBox.new w _ _,World.ownsRow_nil _ _ _ _,RowsI.nil _,World.ownsRow_nil _ _ _ _,rfl,by simp,by simp,by simp[Value.ownBlock],k1,Nat.le_refl _⟩
 obtain ⟨d0,d1,d2⟩:=uQ HGT w (Kp.refl _ _)
 obtain ⟨e0, -, -⟩:=uQ HGT _ k1
 have hmul:IntKind.i64.wrap ((m:Int) * (W:Int))=(m:Int) * (W:Int):=by
  have h1:m * W<=4096 * 256:=Nat.mul_le_mul hm hW
  have h2:(m:Int) * (W:Int)=((m * W:Nat):Int):=by push_cast;rfl
  simp only[IntKind.wrap_i64]
  omega
 have MK: ∀W',(Instr.makeSlice 134 (.int .i64 ((m:Int) * (W:Int))) (.int .i64 ((m:Int) * (W:Int)))).run Tryz.prog W'= .ok (.slice (some ⟨W'.heap.size,0,none⟩) (m * W) (m * W)) (W'.alloc (.cells (ntR (List.replicate (m * W) 0)) 144)):=fun W'=>by
  have h1:m * W<=4096 * 256:=Nat.mul_le_mul hm hW
  have:=qez (m * W) (by omega) W'
  rw[show ((m * W:Nat):Int)=(m:Int) * (W:Int) by push_cast;rfl]at this
  exact this
 generalize m * W=Z at *
 clear hb h hT hfit k1
 generalize asks l=AS at *
 obtain ⟨n,hn⟩: ∃n,l.length=n:=⟨_,rfl⟩
 have HN:=hZq hn
 rw[hn]at h8 HEN d0 e0 HTL HGT
 clear hn
 go_enter Tryz.func40,Tryz.ntmps40
 go_wp2_with fail
 go_loopw [17] (fun iv wr=> ∃(i:Nat) (av nv:Value) (avs nvs:List Value),i<=n/\iv= .int .i64 (i:Int)/\Hid (XtS w gt w.heap.size Z (AS.take i) (AS.take i) av nv avs nvs wr)) (fun iv _=>n-(intOf iv).toNat)
 case atStart=>exact ⟨0,_,_,_,_,Nat.zero_le _,rfl,H0⟩
 case round=>
  obtain ⟨i,av,nv,avs,nvs,hi,rfl,HC⟩:=hrel
  clear H0 d0 d1 d2 e0
  by_cases hlt:i<n
  ·have hiT:i<l.length:=by rw[uQ HN];exact hlt
   have hli:(i:Int)<(n:Int):=by omega
   obtain ⟨sb,so,hsa, -,s0,s1,s2,s3,hpt⟩:=uQ HST i hiT wr (uQ HC).kp
   have htl:=uQ HTL i hi
   have hnx:=uQ HNX i hiT
   have hkr:=(uQ HC).kp
   have SA0:=fun W' (hk:Kp [] wr W')=>uQ HSA i hiT W' (hkr.trans hk (by simp)) (hpt.kp hk)
   generalize l[i]=r at *
   obtain ⟨⟨rnm,rhw,rmn,rcd⟩,rad,rc⟩:=r
   dsimp only at s0 s1 s2 s3 hnx SA0 hpt
   subst hsa
   have ka:Kp [] wr (wr.alloc (.cells #[.string rnm, .int .i64 rhw, .bool rmn, .slice rad rcd.length rc] 86)).drew:=(Kp.alloc _ _).trans (Kp.drew _) (by simp)
   have hsb:CBox wr.heap.size #[.string rnm, .int .i64 rhw, .bool rmn, .slice rad rcd.length rc] 86 (wr.alloc (.cells #[.string rnm, .int .i64 rhw, .bool rmn, .slice rad rcd.length rc] 86)).drew:=(CBox.new wr _ _).kp (Kp.drew _) (by simp)
   have SA:=hZq (SA0 _ ka)
   obtain ⟨q0,q1,q2⟩:=uQ HGT _ (hkr.trans ka (by simp))
   rw[uQ HN]at SA
   have cS:(wr.alloc (.cells #[.string rnm, .int .i64 rhw, .bool rmn, .slice rad rcd.length rc] 86)).drew.cell? ⟨gt,0,none⟩=some (.slice (some ⟨sb,so,none⟩) n sc)/\(wr.alloc (.cells #[.string rnm, .int .i64 rhw, .bool rmn, .slice rad rcd.length rc] 86)).drew.cell? ⟨gt,1,none⟩=some (.int .i64 (W:Int))/\(wr.alloc (.cells #[.string rnm, .int .i64 rhw, .bool rmn, .slice rad rcd.length rc] 86)).drew.cell? ⟨wr.heap.size,0,none⟩=some (.string rnm)/\(wr.alloc (.cells #[.string rnm, .int .i64 rhw, .bool rmn, .slice rad rcd.length rc] 86)).drew.cell? ⟨wr.heap.size,1,none⟩=some (.int .i64 rhw)/\(wr.alloc (.cells #[.string rnm, .int .i64 rhw, .bool rmn, .slice rad rcd.length rc] 86)).drew.cell? ⟨wr.heap.size,2,none⟩=some (.bool rmn)/\(wr.alloc (.cells #[.string rnm, .int .i64 rhw, .bool rmn, .slice rad rcd.length rc] 86)).drew.cell? ⟨wr.heap.size,3,none⟩=some (.slice rad rcd.length rc):=⟨q0,q1,hsb.cell rfl,hsb.cell rfl,hsb.cell rfl,hsb.cell rfl⟩
   have HS:Hid (∀W',Kp [] (wr.alloc (.cells #[.string rnm, .int .i64 rhw, .bool rmn, .slice rad rcd.length rc] 86)).drew W'->W'.cell? ⟨gt,0,none⟩=some (.slice (some ⟨sb,so,none⟩) n sc)/\W'.cell? ⟨gt,1,none⟩=some (.int .i64 (W:Int))/\W'.cell? ⟨wr.heap.size,0,none⟩=some (.string rnm)/\W'.cell? ⟨wr.heap.size,1,none⟩=some (.int .i64 rhw)/\W'.cell? ⟨wr.heap.size,2,none⟩=some (.bool rmn)/\W'.cell? ⟨wr.heap.size,3,none⟩=some (.slice rad rcd.length rc)):=hZq (fun W' hk=>by
    obtain ⟨z0,z1,_⟩:=uQ HGT W' ((hkr.trans ka (by simp)).trans hk (by simp))
    have z2:=hsb.kp hk (by simp)
    exact ⟨z0,z1,z2.cell rfl,z2.cell rfl,z2.cell rfl,z2.cell rfl⟩)
   have HKA:=hZq ka
   generalize asZ l rcd=A at *
   generalize rcd.length=xn at *
   clear HSA HST HNX HTL SA0 hpt hsb ka q0 q1 q2 hkr
   have hwlt:wr.heap.size<(wr.alloc (.cells #[.string rnm, .int .i64 rhw, .bool rmn, .slice rad xn rc] 86)).drew.heap.size:=by simp
   go_wp2_with fail
   go_region_held3 (fun W'=>W'.cell? ⟨gt,0,none⟩=some (.slice (some ⟨sb,so,none⟩) n sc)/\W'.cell? ⟨gt,1,none⟩=some (.int .i64 (W:Int))/\W'.cell? ⟨wr.heap.size,0,none⟩=some (.string rnm)/\W'.cell? ⟨wr.heap.size,1,none⟩=some (.int .i64 rhw)/\W'.cell? ⟨wr.heap.size,2,none⟩=some (.bool rmn)/\W'.cell? ⟨wr.heap.size,3,none⟩=some (.slice rad xn rc))
    (first|with_reducible exact cS|exact uQ HS _ (by assumption))
    (first
     |(go_at_call 74;refine (uQ SA).mono ?_;rintro e w2 ⟨v2,rfl,hI2,hB2,hk2⟩))
   have hkW:Kp [] wr w2:=(uQ HKA).trans hk2 (by simp)
   have hsz2:wr.heap.size<w2.heap.size:=by have:=hk2.size;simp at this;omega
   clear SA HS cS hwlt hk2 HKA
   obtain ⟨a2,c2,rfl⟩: ∃a c,v2= .slice a A.length c:=by
    obtain ⟨a,c,e,_⟩:=hI2.at
    exact ⟨a,c,e⟩
   have HC2:=hZq ((uQ HC).go hkW)
   have HI2:=hZq (And.intro hI2 (fun b hb=>hB2 b hb))
   have hB2': ∀b,(Value.slice a2 A.length c2).ownBlock=some b->w.heap.size<=b:=fun b hb=>by
    have h1:=hB2 b hb
    have h2:=(uQ HC).kp.size
    simp at h1
    omega
   have HB2:=hZq hB2'
   obtain ⟨r0,r1,r2⟩:=uQ HGT w2 (uQ HC2).kp
   clear HC hI2 hB2 hB2' hkW
   go_upto_if 29 with fail
   go_cut [7] (fun xv wc=> ∃(xa:Option Addr) (xm xc:Nat),xv= .slice xa xm xc/\Hid (NtV w.heap.size Z wc A (.slice xa xm xc)/\(∀b,(Value.slice xa xm xc).ownBlock=some b->w2.heap.size<=b)/\Kp [] w2 wc))
   case first=>
    by_cases hA:A.length<=1
    ·have hA1:((A.length:Int)<=1):=by omega
     have cS:w2.drew.cell? ⟨gt,1,none⟩=some (.int .i64 (W:Int))/\w2.drew.cell? ⟨gt,2,none⟩=some (.slice ea m ec):=⟨r1,r2⟩
     have cS2:(w2.alloc (.cells (ntR (List.replicate Z 0)) 144)).drew.cell? ⟨gt,1,none⟩=some (.int .i64 (W:Int))/\(w2.alloc (.cells (ntR (List.replicate Z 0)) 144)).drew.cell? ⟨gt,2,none⟩=some (.slice ea m ec):=⟨(Kp.alloc w2 _).cell r1 (by simp),(Kp.alloc w2 _).cell r2 (by simp)⟩
     have HF:Hid (NtV w.heap.size Z (w2.drew.alloc (.cells (ntR (List.replicate Z 0)) 144)) A (.slice (some ⟨w2.drew.heap.size,0,none⟩) Z Z)/\(∀b,(Value.slice (some ⟨w2.drew.heap.size,0,none⟩) Z Z).ownBlock=some b->w2.heap.size<=b)/\Kp [] w2 (w2.drew.alloc (.cells (ntR (List.replicate Z 0)) 144))):=by
      refine hZq ⟨⟨fun _=>⟨_,rfl,CBox.new _ _ _,?_⟩,fun h=>by omega⟩,fun b hb=>?_,(Kp.drew w2).trans (Kp.alloc _ _) (by simp)⟩
      ·have h1:=(uQ HC2).kp.size
       show w.heap.size<=w2.heap.size
       exact h1
      ·simp[Value.ownBlock]at hb
       subst hb
       exact Nat.le_refl _
     clear HC2 HI2 HB2 HGT hnx htl HEN
     go_wp2_with fail
     go_region_held3 (fun W'=>W'.cell? ⟨gt,1,none⟩=some (.int .i64 (W:Int))/\W'.cell? ⟨gt,2,none⟩=some (.slice ea m ec))
      (first|with_reducible exact cS|exact cS2)
      (first|fail)
     go_wp2
     go_meet
     exact ⟨_,_,_,rfl,HF⟩
    ·have hA1: ¬ ((A.length:Int)<=1):=by omega
     have HF:Hid (NtV w.heap.size Z w2 A (.slice none 0 0)/\(∀b,(Value.slice none 0 0).ownBlock=some b->w2.heap.size<=b)/\Kp [] w2 w2):=hZq ⟨⟨fun h=>absurd h hA,fun _=>rfl⟩,by simp[Value.ownBlock],Kp.refl _ _⟩
     clear HC2 HI2 HB2 HGT hnx htl HEN
     go_wp2
     go_meet
     exact ⟨_,_,_,rfl,HF⟩
   case rest=>
    obtain ⟨xa,xm,xc,rfl,HX⟩:=hcut
    obtain ⟨hX1,hX2,hX3⟩:=uQ HX
    have hC3:=(uQ HC2).go hX3
    obtain ⟨aa,ac,rfl⟩: ∃a c,av= .slice a i c:=by
     have h1:=hC3.ai.1
     rw[htl]at h1
     obtain ⟨_,⟨e,e2⟩|⟨g,c,cur,e,_⟩⟩:=hC3.ar
     ·exact ⟨none,0,by rw[e];congr 1;omega⟩
     ·exact ⟨_,c,by rw[e,h1]⟩
    obtain ⟨na,nc,rfl⟩: ∃a c,nv= .slice a i c:=by
     have h1:=hC3.nl
     rw[htl]at h1
     obtain ⟨_,⟨e,e2⟩|⟨g,c,cur,e,_⟩⟩:=hC3.nr
     ·exact ⟨none,0,by rw[e];congr 1;omega⟩
     ·exact ⟨_,c,by rw[e,h1]⟩
    have y1:wc.cell? ⟨w.heap.size,1,none⟩=some (.slice aa i ac):=hC3.bx.cell rfl
    have kA:=Kp.alloc wc (.cells #[.slice a2 A.length c2] 38)
    obtain ⟨g3,cap3,w3,hrun3,hb3,hC4,hst3⟩:=(hC3.go kA).pushA (((uQ HI2).1.kp hX3 (by simp)).kp kA (by simp)) (uQ HB2) (g:=wc.heap.size) (c:=1) (CBox.new wc _ _) rfl (by rw[htl];omega) 35
    rw[htl]at hrun3 hC4 hst3
    have f1:=hb3.froz 1
    have y1':w3.cell? ⟨w.heap.size,1,none⟩=some (.slice aa i ac):=hb3.cell rfl
    have hblt:w.heap.size<wc.heap.size:=(Array.getElem?_eq_some_iff.1 hC3.bx).1
    have y2:(w3.setCell ⟨w.heap.size,1,none⟩ (.slice (some ⟨g3,0,none⟩) (i+1) cap3)).cell? ⟨w.heap.size,2,none⟩=some (.slice na i nc):=hC4.bx.cell rfl
    have kN:NtV w.heap.size Z (w3.setCell ⟨w.heap.size,1,none⟩ (.slice (some ⟨g3,0,none⟩) (i+1) cap3)) A (.slice xa xm xc):=hst3 _ _ (hX1.kp kA (by simp))
    have hsz4:(w3.setCell ⟨w.heap.size,1,none⟩ (.slice (some ⟨g3,0,none⟩) (i+1) cap3)).heap.size=w3.heap.size:=by simp[World.setCell]
    have kB:=Kp.alloc (w3.setCell ⟨w.heap.size,1,none⟩ (.slice (some ⟨g3,0,none⟩) (i+1) cap3)) (.cells #[.slice xa xm xc] 134)
    obtain ⟨g5,cap5,w5,hrun5,hb5,hC6⟩:=(hC4.go kB).pushN (kN.kp kB (by simp)) (fun u hu b hb hub=>by have h1:=(uQ HC2).nlt u hu b hub;have h2:=hX2 b hb;omega) (g:=(w3.setCell ⟨w.heap.size,1,none⟩ (.slice (some ⟨g3,0,none⟩) (i+1) cap3)).heap.size) (c:=1) (CBox.new _ _ _) rfl (by rw[htl];omega) 130
    rw[htl]at hrun5 hC6
    rw[hsz4]at hrun5
    rw[<-hnx]at hC6
    have f2:=hb5.froz 2
    have y2':w5.cell? ⟨w.heap.size,2,none⟩=some (.slice na i nc):=hb5.cell rfl
    have HR3:=hZq hrun3
    have HR5:=hZq hrun5
    have HFIN:=hZq hC6
    clear hC3 hC4 hC6 hX1 hX2 hX3 HX HC2 HI2 HB2 HGT hnx htl HEN kA kB kN hrun3 hrun5 hb3 hb5 hsz4 r0 r1 r2 hst3
    go_wp2_with (first|(at_builtin;refine q0e rfl _ _ _ rfl rfl rfl (uQ HR5) ?_)|(at_builtin;refine q0e rfl _ _ _ rfl rfl rfl (uQ HR3) ?_))
    go_roundw
    case rel=>exact ⟨i+1,_,_,_,_,by omega,by go_num,HFIN⟩
    case measure=>simp[intOf];omega
  ·obtain rfl:i=n:=by omega
   have hC:=uQ HC
   rw[uQ HEN]at hC
   clear HC HST HNX HTL HEN HSA HGT
   go_wp2
   go_ret
   exact ⟨rfl,_,_,_,_,hC⟩
open Go.RowKit
theorem q8O (l:List Stg): ∀(ah:List ByteArray) (i:Nat),bad1 l ah i=none-> ∀k (h:k<l.length),stOk l[k] (ah++q00 (l.take k))=true:=by
 induction l with
 |nil=>intro ah i _ k h;simp at h
 |cons s r ih=>
  intro ah i hb k h
  rw[bad1]at hb
  split at hb
  ·rename_i hs
   cases k with
   |zero=>simpa [q00] using hs
   |succ k=>
    have:=ih (ah++[s.nm]) (i+1) hb k (by simpa using h)
    simpa [q00] using this
  ·cases hb
theorem q1s {p:Ptn}(h:(pcR p).2=0):1<=p.ss.length/\p.ss.length<=8/\(1<=p.wi/\p.wi<=256)/\ ∀k (hk:k<p.ss.length),stOk p.ss[k] (q00 (p.ss.take k))=true:=by
 unfold pcR at h
 split at h
 ·simp at h
 ·rename_i hn
  split at h
  ·simp at h
  ·rename_i hb
   split at h
   ·rename_i hw
    unfold wiOk at hw
    simp at hw
    refine ⟨by omega,by omega,hw,fun k hk=>?_⟩
    have:=q8O p.ss [] 0 hb k hk
    simpa using this
   ·simp at h
open Go.RowKit
def asT (ss:List Stg)(t:Nat):List Nat:=match ss[t]? with
 |some s=>(stgS s.cd).map fun n=>fstN n (q00 ss)
 |none=>[]
theorem q62 (ss:List Stg)(t:Nat):q00 (ss.take t)=(q00 ss).take t:=by unfold q00;rw[List.map_take]
section
variable {p:Ptn} (hp:(pcR p).2=0)
include hp
theorem qbR {t:Nat}{s:Stg}(hs:p.ss[t]?=some s){n:ByteArray}(hn:n∈stgS s.cd):fstN n (q00 p.ss)<t:=by
 obtain ⟨ht,e⟩:=List.getElem?_eq_some_iff.1 hs
 have h:=(q1s hp).2.2.2 t ht
 rw[e]at h
 unfold stOk cdOk at h
 simp only[Bool.and_eq_true]at h
 have h1:=List.all_eq_true.1 h.2.2.2.2 n hn
 rw[q1w,q62]at h1
 obtain ⟨j,hj,he⟩:=List.getElem_of_mem h1
 rw[List.length_take]at hj
 rw[List.getElem_take]at he
 have hlt:fstN n (q00 p.ss)<(q00 p.ss).length:=(q2E _ _).2 (by rw[<-he];exact List.getElem_mem _)
 rcases Nat.lt_or_ge (fstN n (q00 p.ss)) t with h3|h3
 ·exact h3
 ·exact absurd he ((q1v hlt).2 j (by omega))
theorem q5n (t:Nat): ∀i∈asT p.ss t,i<t:=fun i hi=>by
 unfold asT at hi
 cases hs:p.ss[t]? with
 |none=>rw[hs]at hi;cases hi
 |some s=>
  rw[hs]at hi
  obtain ⟨n,hn,rfl⟩:=List.mem_map.1 hi
  exact qbR hp hs hn
theorem q9w {i j:Nat}(hij:i<j)(hj:j<(q00 p.ss).length):(q00 p.ss)[i]'(by omega)≠(q00 p.ss)[j]:=fun e=>by
 have hj':j<p.ss.length:=by rw[<-q0D];exact hj
 have h:=(q1s hp).2.2.2 j hj'
 unfold stOk at h
 simp only[Bool.and_eq_true,Bool.not_eq_true']at h
 have h1:=h.2.1
 rw[q62]at h1
 have h2:hasN ((q00 p.ss).take j) p.ss[j].nm=true:=by
  rw[q1w]
  have e2:(q00 p.ss)[j]=p.ss[j].nm:=List.getElem_map (fun s:Stg=>s.nm)
  rw[<-e2, <-e]
  exact List.mem_iff_getElem.2 ⟨i,by rw[List.length_take];omega,by rw[List.getElem_take]⟩
 rw[h1]at h2
 cases h2
theorem q8M {t i:Nat}(h:Mt.askP p t i=true):i∈asT p.ss t:=by
 unfold Mt.askP at h
 unfold asT
 cases hs:p.ss[t]? with
 |none=>rw[hs]at h;cases h
 |some s=>
  rw[hs]at h
  cases hn:(q00 p.ss)[i]? with
  |none=>rw[hn]at h;cases h
  |some n=>
   rw[hn]at h
   dsimp only at h ⊢
   refine List.mem_map.2 ⟨n,(q1w _ _).1 h,?_⟩
   obtain ⟨hi,e⟩:=List.getElem?_eq_some_iff.1 hn
   have hlt:fstN n (q00 p.ss)<(q00 p.ss).length:=(q2E _ _).2 (by rw[<-e];exact List.getElem_mem _)
   have hat:=q1v hlt
   rcases Nat.lt_trichotomy (fstN n (q00 p.ss)) i with h1|h1|h1
   ·exact absurd (hat.1.trans e.symm) (q9w hp h1 hi)
   ·exact h1
   ·exact absurd e (hat.2 i h1)
end
theorem q8L {l:List SR}{wi:Int}(hp:(pcR ⟨stgs l,wi⟩).2=0){t:Nat}(ht:t<l.length):asZ l l[t].s.cd=(asT (stgs l) t).map Int.ofNat:=by
 have hs:(stgs l)[t]?=some l[t].s:=by rw[List.getElem?_eq_getElem (by rw[q03];exact ht),q16 ht]
 unfold asZ asT
 rw[hs]
 dsimp only
 rw[List.map_map]
 refine List.map_congr_left fun n hn=>?_
 have h1:fstN n (q00 (stgs l))<t:=qbR (p:=⟨stgs l,wi⟩) hp hs hn
 unfold ixN
 rw[if_pos (by rw[q0D,q03];omega)]
 rfl
end Go.Proofs.YtcmjnlpofebbmaaGreatDoor
