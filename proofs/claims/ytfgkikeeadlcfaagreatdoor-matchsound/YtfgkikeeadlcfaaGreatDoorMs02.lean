/-
  Walks.
-/
import Derived.Test.YtfgkikeeadlcfaaGreatDoorMs01
import Derived.Laws.AppendOwnNone
import Derived.WalkSmall
import Derived.Lib.SlicesS
import Derived.Laws.RangeAny
import Derived.Lib.MapLaws
import Derived.Deep.LoopGhost
import Derived.Lib.IndexAny
import Derived.WalkMore
import Derived.Deep.RegionHeld3
import Derived.Lib.OthersKept
import Derived.Deep.WholeRow
import Derived.Laws.EntriesVeiled
import Derived.Laws.Rows
import Derived.OrdersHeld
import Derived.RangeFuncNested
import Derived.RangeFuncBound
import Derived.RangeFuncCalls
import Derived.RangeFuncLeaves
import Derived.RangeFuncBox
import Derived.Shelf.Abstract
import Derived.Shelf.RegionOpen
import Derived.OwnWalkIn
import Derived.TacticsInMore
import Derived.LoopNIn
import Derived.LoopIn
import Derived.ProofKit
import Derived.OpenShut
import Derived.Deep.Slices
import Derived.Laws.MakeOwn
import Derived.Laws.ResultCell
set_option maxRecDepth 100000
set_option maxHeartbeats 8000000
set_option linter.unusedSimpArgs false
namespace Go.Proofs.YtfgkikeeadlcfaaGreatDoor.Mt
def toZ (T:List (List Nat)):List (List Int):=T.map fun l=>l.map Int.ofNat
def asgP (len:Nat):Int->List Int->Bool
 |_,[]=>true
 |b,q::r=>decide (b<q) && (decide (q<(len:Int)) && asgP len q r)
def asgZ (many:Nat->Bool)(len:Nat):Nat->Int->List (List Int)->Bool
 |_,_,[]=>true
 |i,b,l::r=>(!l.isEmpty && (decide (l.length<=1)||many i)) && (asgP len b l && asgZ many len (i+1) (l.getLastD b) r)
theorem qaD (len:Nat): ∀(l:List Int) (b:Int), -1<=b->(asgP len b l=true↔ ∃m:List Nat,l=m.map Int.ofNat/\m.Pairwise (· < ·)/\ ∀q∈m,b<(q:Int)/\q<len):=by
 intro l
 induction l with
 |nil=>intro b _;exact ⟨fun _=>⟨[],rfl,by simp,by simp⟩,fun _=>rfl⟩
 |cons x l ih=>
  intro b hb
  rw[asgP,Bool.and_eq_true,Bool.and_eq_true,decide_eq_true_eq,decide_eq_true_eq]
  constructor
  ·rintro ⟨h1,h2,h3⟩
   obtain ⟨m,rfl,hm1,hm2⟩:=(ih x (by omega)).1 h3
   obtain ⟨n,rfl⟩:=Int.eq_ofNat_of_zero_le (show 0<=x by omega)
   refine ⟨n::m,rfl,List.pairwise_cons.2 ⟨fun y hy=>by have:=(hm2 y hy).1;omega,hm1⟩,fun q hq=>?_⟩
   rcases zH.1 hq with rfl|hq
   ·exact ⟨h1,by omega⟩
   ·have:=hm2 q hq
    exact ⟨by omega,this.2⟩
  ·rintro ⟨m,e,hm1,hm2⟩
   cases m with
   |nil=>cases e
   |cons n m=>
    cases e
    rw[List.pairwise_cons]at hm1
    have hn:=hm2 n (by simp)
    refine ⟨hn.1,by show (n:Int)<_;omega,(ih _ (by show-1<=(n:Int);omega)).2 ⟨m,rfl,hm1.2,fun q hq=>⟨by have:=hm1.1 q hq;show (n:Int)<_;omega,(hm2 q (by simp[hq])).2⟩⟩⟩
theorem q63 (m:List Nat)(h:m≠[])(b:Int):(m.map Int.ofNat).getLastD b=(lst m:Int):=by
 rcases List.eq_nil_or_concat m with e|⟨l,q,rfl⟩
 ·exact absurd e h
 ·rw[List.concat_eq_append,lst_snoc,List.map_append]
  simp
theorem le_lst {m:List Nat}(h:m.Pairwise (· < ·)): ∀q∈m,q<=lst m:=by
 rcases List.eq_nil_or_concat m with e|⟨l,x,rfl⟩
 ·rw[e];simp
 ·rw[List.concat_eq_append]at *
  intro q hq
  rw[lst_snoc]
  rw[List.pairwise_append]at h
  rw[zG,zD]at hq
  rcases hq with hq|rfl
  ·exact Nat.le_of_lt (h.2.2 q hq x (by simp))
  ·exact zM _
theorem lst_mem {m:List Nat}(h:m≠[]):lst m∈m:=by
 rcases List.eq_nil_or_concat m with e|⟨l,x,rfl⟩
 ·exact absurd e h
 ·rw[List.concat_eq_append,lst_snoc];simp
theorem qaF (many:Nat->Bool)(len:Nat): ∀(S:List (List Int)) (i:Nat) (b:Int), -1<=b->(asgZ many len i b S=true↔ ∃T,S=toZ T/\(∀k l,T[k]?=some l->l≠[]/\(1<l.length->many (i+k)=true))/\T.flatten.Pairwise (· < ·)/\ ∀q∈T.flatten,b<(q:Int)/\q<len):=by
 intro S
 induction S with
 |nil=>intro i b _;exact ⟨fun _=>⟨[],rfl,by simp,by simp,by simp⟩,fun _=>rfl⟩
 |cons x S ih=>
  intro i b hb
  rw[asgZ,Bool.and_eq_true,Bool.and_eq_true,Bool.and_eq_true,qaD len x b hb]
  constructor
  ·rintro ⟨⟨h1,h2⟩,⟨m,rfl,hm1,hm2⟩,h4⟩
   have hne:m≠[]:=fun e=>by rw[e]at h1;cases h1
   rw[q63 m hne]at h4
   obtain ⟨T,rfl,t1,t2,t3⟩:=(ih (i+1) (lst m:Int) (by omega)).1 h4
   refine ⟨m::T,rfl,fun k l hk=>?_,?_,fun q hq=>?_⟩
   ·cases k with
    |zero=>
     cases hk
     refine ⟨hne,fun hl=>?_⟩
     rw[Bool.or_eq_true,decide_eq_true_eq,zI]at h2
     rcases h2 with h2|h2
     ·omega
     ·exact h2
    |succ k=>
     have:=t1 k l hk
     rw[show i+(k+1)=i+1+k by omega]
     exact this
   ·rw[List.flatten_cons,List.pairwise_append]
    exact ⟨hm1,t2,fun y hy z hz=>by have h5:=le_lst hm1 y hy;have h6:=(t3 z hz).1;omega⟩
   ·rw[List.flatten_cons,zG]at hq
    rcases hq with hq|hq
    ·exact hm2 q hq
    ·have h5:=t3 q hq
     have h6:=(hm2 _ (lst_mem hne)).1
     exact ⟨by omega,h5.2⟩
  ·rintro ⟨T,e,t1,t2,t3⟩
   cases T with
   |nil=>cases e
   |cons m T=>
    cases e
    obtain ⟨hne,hmn⟩:=t1 0 m rfl
    rw[List.flatten_cons,List.pairwise_append]at t2
    obtain ⟨p1,p2,p3⟩:=t2
    refine ⟨⟨by cases m with|nil=>exact absurd rfl hne|cons a m=>rfl,?_⟩,⟨m,rfl,p1,fun q hq=>t3 q (by simp[hq])⟩,?_⟩
    ·rw[Bool.or_eq_true,decide_eq_true_eq,zI]
     by_cases hl:m.length<=1
     ·exact Or.inl hl
     ·exact Or.inr (hmn (by omega))
    ·rw[q63 m hne]
     refine (ih (i+1) (lst m:Int) (by omega)).2 ⟨T,rfl,fun k l hk=>?_,p2,fun q hq=>⟨?_,(t3 q (by rw[List.flatten_cons];simp[hq])).2⟩⟩
     ·have:=t1 (k+1) l hk
      rw[show i+(k+1)=i+1+k by omega]at this
      exact this
     ·have:=p3 _ (lst_mem hne) q hq
      omega
theorem asg_iff {P:Pm}(S:List (List Int)):(S≠[]/\S.length<=P.N/\asgZ P.many P.len 0 (-1) S=true)↔ ∃T,S=toZ T/\Asg P T:=by
 rw[qaF P.many P.len S 0 (-1) (by omega)]
 constructor
 ·rintro ⟨h0,hl,T,rfl,t1,t2,t3⟩
  refine ⟨T,rfl,fun e=>h0 (by rw[e];rfl),by unfold toZ at hl;rwa [zI]at hl,fun i l h=>?_,t2,fun q hq=>(t3 q hq).2⟩
  have:=t1 i l h
  rwa [Nat.zero_add]at this
 ·rintro ⟨T,rfl,h⟩
  refine ⟨fun e=>h.ne (List.map_eq_nil_iff.1 e),by unfold toZ;rw[zI];exact h.le,T,rfl,fun k l hk=>?_,h.inc,fun q hq=>⟨by omega,h.low q hq⟩⟩
  rw[Nat.zero_add]
  exact h.one k l hk
end Go.Proofs.YtfgkikeeadlcfaaGreatDoor.Mt
namespace Go.Proofs.YtfgkikeeadlcfaaGreatDoor
open Go.RowKit
def IntsAt (w:World)(ad:Option Addr)(l:List Int):Prop:=
 l≠[]-> ∃b off,ad=some ⟨b,off,none⟩/\b<w.heap.size/\ ∀i (h:i<l.length),w.cell? ⟨b,off+i,none⟩=some (.int .i64 l[i])
theorem IntsAt.below {w w':World}{B:Nat}{ad:Option Addr}{l:List Int}(h:IntsAt w ad l)(hb:Below B w w')(hB:w.heap.size<=B):IntsAt w' ad l:=fun hl=>by
 obtain ⟨b,off,e,hlt,hc⟩:=h hl
 exact ⟨b,off,e,Nat.lt_of_lt_of_le hlt hb.size,fun i hi=>(hb.cell (p:=⟨b,off+i,none⟩) (Nat.lt_of_lt_of_le hlt hB)).trans (hc i hi)⟩
theorem q7h {P:Program}{w:World}(t ty e:TypeId)(i:TypeInfo)(z:Value)(size bytes:Nat)(h1:P.underlying t=some (.slice e))(h2:P.info? e=some i)(h3:i.zero=some z)(h4:i.size=size)(h5:i.bytes=bytes)(h6:z.cells.size=size)(h7:0<size)
  {g2 n2 cap2:Nat} {xs:List Value} (ho:w.ownsRow 0 e size (.slice (some ⟨g2,0,none⟩) n2 cap2) n2 xs)
  (ad:Option Addr) (m c:Nat) (news:List Value) (hn:news.length=m * size) (hnone:ad=none->m=0/\c=0) (hsp: ∀a,ad=some a->a.spot=none) (hc: ∀a,ad=some a-> ∀j u,news[j]?=some u->w.cell? (a.add j)=some u) (h1c: ∀u∈news,u.oneCell'=true)
  (b1:n2+m<=maxLen) (b2:(n2+m) * bytes<=140737488355328):
  ∃g cap w',(Builtin.append_ #[t,t] ty #[.slice (some ⟨g2,0,none⟩) n2 cap2, .slice ad m c]).run P w= .ok (.slice (some ⟨g,0,none⟩) (n2+m) cap) w'/\w'.ownsRow 0 e size (.slice (some ⟨g,0,none⟩) (n2+m) cap) (n2+m) (xs++news)/\w.grownBy w' (some g2)/\(g=g2\/g=w.heap.size):=by
 have hcp:n2<=cap2:=by
  obtain ⟨_,⟨e,_⟩|⟨g,cp,cur,e,_,_,hn,_⟩⟩:=id ho
  ·cases e
  ·injection e with _ e2 e3;omega
 cases ad with
 |none=>
  obtain ⟨rfl,rfl⟩:=hnone rfl
  obtain rfl:news=[]:=List.eq_nil_of_length_eq_zero (by omega)
  exact ⟨g2,cap2,w,by simpa using run_append_owned_none (P:=P) (w:=w) 0 t ty e i size h1 h2 _ _ _ ho,by simpa using ho,World.grownBy.refl _ _,Or.inl rfl⟩
 |some a=>
  obtain ⟨b,off,spot⟩:=a
  obtain rfl:spot=none:=hsp _ rfl
  rcases Nat.eq_zero_or_pos m with h0|hpos
  ·subst h0
   obtain rfl:news=[]:=List.eq_nil_of_length_eq_zero (by omega)
   have:=run_append_room_cells (P:=P) (w:=w) t ty e i h1 h2 g2 0 n2 cap2 ⟨b,off,none⟩ 0 c [] (by simp) (fun j u hj=>by simp at hj) (fun u hu=>by cases hu) (by omega) (fun j hj=>absurd hj (by simp)) (fun j hj=>absurd hj (by simp))
   exact ⟨g2,cap2,w,by simpa [World.setCells] using this,by simpa using ho,World.grownBy.refl _ _,Or.inl rfl⟩
  ·obtain ⟨g3,cap3,w',hr,r1,r2,r3,_⟩:=run_append_lies (P:=P) (w:=w) t ty 0 e i z size bytes h1 h2 h3 h4 h5 h6 h7 _ _ _ ho ⟨b,off,none⟩ m c news hn (hc _ rfl) h1c hpos b1 b2 (Nat.zero_le _) _ rfl
   refine ⟨g3,cap3,w',hr,r1,r2,?_⟩
   rcases r3 with r3|r3
   ·exact Or.inl (by simpa [Value.ownBlock] using r3.symm)
   ·exact Or.inr r3
theorem q0g {P:Program}{ops:Array Oper}{rest:List Oper}{o:Oper}{a:Act}{w w':World}{Q:Exit->Act->World->Prop}{v u1 u2:Value}(hgd:o.guard=none)(s x:Operand)(t:TypeId)
  (ho:o.op= .call { callee:= .builtin .append,args:=#[s,x],argTypes:=#[t,t] }) (hs:a.eval s=u1) (hx:a.eval x=u2) (hr:(Builtin.append_ #[t,t] o.type #[u1,u2]).run P w= .ok v w')
  (h:wpList P ops Q rest (a.put o.dst v) w'):wpList P ops Q (o::rest) a w:=
 wpList_plain hgd fun _ hK=>by
  unfold Oper.wp
  simp[execOp,ho,resolve,invoke,builtin,hs,hx,hr,Result.andThen]
  exact hK _ _ h
theorem q9E:(Tryz.prog.info? 3).map (fun i=>(i.zero,i.size,i.bytes))=some (some (.int .i64 0),1,8):=by kernel_rfl
theorem q2H:(Tryz.prog.info? 51).map (fun i=>(i.zero,i.size,i.bytes))=some (some (.slice none 0 0),1,24):=by kernel_rfl
def iC (p:List Int):List Value:=p.map (Value.int .i64)
def IRo (w:World)(v:Value)(p:List Int):Prop:=w.ownsRow 0 3 1 v p.length (iC p)
theorem IRo.nil (w:World):IRo w (.slice none 0 0) []:=⟨rfl,Or.inl ⟨rfl,rfl⟩⟩
theorem IRo.block {w:World}{v:Value}{p:List Int}(h:IRo w v p){b:Nat}(hb:v.ownBlock=some b): ∃cur,w.heap[b]?=some (.cells cur 3 (0,0)):=by
 obtain ⟨_,⟨rfl,_⟩|⟨g,cp,cur,rfl,_,hh,_⟩⟩:=h
 ·cases hb
 ·simp[Value.ownBlock]at hb
  subst hb
  exact ⟨cur,hh⟩
theorem IRo.lt {w:World}{v:Value}{p:List Int}(h:IRo w v p){b:Nat}(hb:v.ownBlock=some b):b<w.heap.size:=by
 obtain ⟨cur,hc⟩:=h.block hb
 exact (zB.1 hc).1
theorem IRo.kp {F:List Nat}{w w':World}{v:Value}{p:List Int}(h:IRo w v p)(hk:Kp F w w')(hF: ∀b,v.ownBlock=some b->b∉F):IRo w' v p:=by
 obtain ⟨h0,⟨rfl,h1⟩|⟨g,cap,cur,rfl,hg,hh,h2,h3,h4,h5⟩⟩:=h
 ·exact ⟨h0,Or.inl ⟨rfl,h1⟩⟩
 ·exact ⟨h0,Or.inr ⟨g,cap,cur,rfl,hg,(hk.block g (zB.1 hh).1 (hF g rfl)).trans hh,h2,h3,h4,h5⟩⟩
def NoI (w:World)(F:List Nat):Prop:= ∀f∈F, ∀cur fr,w.heap[f]?≠some (.cells cur 3 fr)
theorem IRo.kpT {F:List Nat}{w w':World}{v:Value}{p:List Int}(h:IRo w v p)(hk:Kp F w w')(hF:NoI w F):IRo w' v p:=
 h.kp hk fun b hb hm=>by
  obtain ⟨cur,hc⟩:=h.block hb
  exact hF b hm _ _ hc
theorem IRo.at {w:World}{v:Value}{p:List Int}(h:IRo w v p): ∃a c,v= .slice a p.length c/\IntsAt w a p:=by
 obtain ⟨h0,⟨rfl,h1⟩|⟨g,cap,cur,rfl,hg,hh,h2,h3,h4,h5⟩⟩:=h
 ·exact ⟨none,0,by rw[h1],fun hne=>absurd (List.eq_nil_of_length_eq_zero h1) hne⟩
 ·refine ⟨_,_,rfl,fun _=>⟨g,0,rfl,(zB.1 hh).1,fun i hi=>?_⟩⟩
  have hx:(iC p)[i]?=some (.int .i64 p[i]):=by unfold iC;simp[hi]
  rw[<-h5,List.getElem?_take_of_lt (by omega)]at hx
  simp at hx
  rw[Nat.zero_add]
  simp[World.cell?,hh,hx]
def RowsI (w:World)(vs:List Value)(ps:List (List Int)):Prop:=vs.length=ps.length/\ ∀(i:Nat) (v:Value) (p:List Int),vs[i]?=some v->ps[i]?=some p->IRo w v p
theorem RowsI.nil (w:World):RowsI w [] []:=⟨rfl,fun i v p h=>by simp at h⟩
theorem RowsI.kpT {F:List Nat}{w w':World}{vs:List Value}{ps:List (List Int)}(h:RowsI w vs ps)(hk:Kp F w w')(hF:NoI w F):RowsI w' vs ps:=⟨h.1,fun i v p a b=>(h.2 i v p a b).kpT hk hF⟩
theorem RowsI.snoc {w:World}{vs:List Value}{ps:List (List Int)}(h:RowsI w vs ps){v:Value}{p:List Int}(hv:IRo w v p):RowsI w (vs++[v]) (ps++[p]):=by
 refine ⟨by rw[zF,zF,h.1];rfl,fun i x q a b=>?_⟩
 rcases Nat.lt_or_ge i vs.length with hi|hi
 ·rw[List.getElem?_append_left hi]at a
  rw[List.getElem?_append_left (by rw[<-h.1];exact hi)]at b
  exact h.2 i x q a b
 ·rw[List.getElem?_append_right hi]at a
  rw[List.getElem?_append_right (by rw[<-h.1];exact hi)]at b
  have hl:=(zC.1 a).1
  have hz:i-vs.length=0:=by simp at hl;omega
  rw[hz]at a
  rw[<-h.1,hz]at b
  simp at a b
  subst a b
  exact hv
theorem RowsI.lt {w:World}{vs:List Value}{ps:List (List Int)}(h:RowsI w vs ps){v:Value}(hv:v∈vs){b:Nat}(hb:v.ownBlock=some b):b<w.heap.size:=by
 obtain ⟨i,hi,rfl⟩:=List.getElem_of_mem hv
 exact (h.2 i vs[i] (ps[i]'(by rw[<-h.1];exact hi)) (zE hi) (zE _)).lt hb
def VRo (w:World)(v:Value)(vs:List Value):Prop:=w.ownsRow 0 51 1 v vs.length vs
theorem VRo.block {w:World}{v:Value}{vs:List Value}(h:VRo w v vs){b:Nat}(hb:v.ownBlock=some b): ∃cur,w.heap[b]?=some (.cells cur 51 (0,0)):=by
 obtain ⟨_,⟨rfl,_⟩|⟨g,cp,cur,rfl,_,hh,_⟩⟩:=h
 ·cases hb
 ·simp[Value.ownBlock]at hb
  subst hb
  exact ⟨cur,hh⟩
theorem VRo.kp {F:List Nat}{w w':World}{v:Value}{vs:List Value}(h:VRo w v vs)(hk:Kp F w w')(hF: ∀b,v.ownBlock=some b->b∉F):VRo w' v vs:=by
 obtain ⟨h0,⟨rfl,h1⟩|⟨g,cap,cur,rfl,hg,hh,h2,h3,h4,h5⟩⟩:=h
 ·exact ⟨h0,Or.inl ⟨rfl,h1⟩⟩
 ·exact ⟨h0,Or.inr ⟨g,cap,cur,rfl,hg,(hk.block g (zB.1 hh).1 (hF g rfl)).trans hh,h2,h3,h4,h5⟩⟩
structure PlS (w:World)(v:Value)(vs:List Value)(T:List (List Nat)):Prop where
 row:VRo w v vs
 ins:RowsI w vs (Mt.toZ T)
 nd: ∀(i j:Nat) (a b:Value) (k:Nat),vs[i]?=some a->vs[j]?=some b->a.ownBlock=some k->b.ownBlock=some k->i=j
def plB (v:Value)(vs:List Value):List Nat:=v.ownBlock.toList++vs.flatMap fun u=>u.ownBlock.toList
theorem mem_plB {v:Value}{vs:List Value}{k:Nat}:k∈plB v vs↔v.ownBlock=some k\/ ∃u∈vs,u.ownBlock=some k:=by
 unfold plB
 rw[zG,List.mem_flatMap]
 simp
theorem q0C (T:List (List Nat)):(Mt.toZ T).length=T.length:=by unfold Mt.toZ;rw[zI]
theorem q4n {T:List (List Nat)}{i:Nat}{l:List Nat}(h:T[i]?=some l):(Mt.toZ T)[i]?=some (l.map Int.ofNat):=by unfold Mt.toZ;rw[List.getElem?_map,h];rfl
theorem PlS.len {w:World}{v:Value}{vs:List Value}{T:List (List Nat)}(h:PlS w v vs T):vs.length=T.length:=by rw[h.ins.1,q0C]
theorem PlS.kp {F:List Nat}{w w':World}{v:Value}{vs:List Value}{T:List (List Nat)}(h:PlS w v vs T)(hk:Kp F w w')(hF: ∀k∈plB v vs,k∉F):PlS w' v vs T:=
 ⟨h.row.kp hk (fun b hb=>hF b (mem_plB.2 (Or.inl hb))),⟨h.ins.1,fun i u p hu hp=>(h.ins.2 i u p hu hp).kp hk (fun b hb=>hF b (mem_plB.2 (Or.inr ⟨u,List.mem_of_getElem? hu,hb⟩)))⟩,h.nd⟩
theorem PlS.nil (w:World):PlS w (.slice none 0 0) [] []:=⟨World.ownsRow_nil _ _ _ _,RowsI.nil w,fun i j a b k h=>by simp at h⟩
theorem PlS.lt {w:World}{v:Value}{vs:List Value}{T:List (List Nat)}(h:PlS w v vs T): ∀k∈plB v vs,k<w.heap.size:=fun k hk=>by
 rcases mem_plB.1 hk with hk|⟨u,hu,hk⟩
 ·exact (World.ownsRow.lt h.row k hk).2
 ·exact h.ins.lt hu hk
theorem PlS.form {w:World}{v:Value}{vs:List Value}{T:List (List Nat)}(h:PlS w v vs T):(v= .slice none 0 0/\T=[])\/ ∃g cap,v= .slice (some ⟨g,0,none⟩) T.length cap/\T.length<=cap/\cap<=maxLen:=by
 have hl:=h.len
 obtain ⟨_,⟨rfl,h0⟩|⟨g,cap,cur,rfl,_,_,hc,hm,_⟩⟩:=h.row
 ·exact Or.inl ⟨rfl,List.eq_nil_of_length_eq_zero (by omega)⟩
 ·exact Or.inr ⟨g,cap,by rw[hl],by omega,hm⟩
theorem PlS.apart {w:World}{v:Value}{vs:List Value}{T:List (List Nat)}(h:PlS w v vs T){u:Value}{p:List Int}(hu:IRo w u p){g k:Nat}(hv:v.ownBlock=some g)(hk:u.ownBlock=some k):g≠k:=by
 rintro rfl
 obtain ⟨c1,e1⟩:=h.row.block hv
 obtain ⟨c2,e2⟩:=hu.block hk
 rw[e1]at e2
 injection e2 with e;injection e with _ e;exact absurd e (by decide)
theorem PlS.at {w:World}{v:Value}{vs:List Value}{T:List (List Nat)}(h:PlS w v vs T){i:Nat}{l:List Nat}(hl:T[i]?=some l): ∃u,vs[i]?=some u/\IRo w u (l.map Int.ofNat):=by
 have hi:i<vs.length:=by rw[h.len];exact (zC.1 hl).1
 exact ⟨vs[i],zE hi,h.ins.2 i _ _ (zE hi) (q4n hl)⟩
theorem PlS.cell {w:World}{g n cap:Nat}{vs:List Value}{T:List (List Nat)}(h:PlS w (.slice (some ⟨g,0,none⟩) n cap) vs T){i:Nat}{u:Value}(hu:vs[i]?=some u):w.cell? ⟨g,i,none⟩=some u:=by
 have:=World.ownsRow.cells h.row (g:=g) rfl i u hu
 rwa [Go.WideShapes.add_plain,Nat.zero_add]at this
theorem PlS.grow {w:World}{v:Value}{vs:List Value}{T:List (List Nat)}(h:PlS w v vs T){g c:Nat}(hz:CBox g #[.slice none 0 0] 51 w)(hl:T.length+1<=1000000)(ty:TypeId):
  ∃g' cap w',(Builtin.append_ #[26,26] ty #[v, .slice (some ⟨g,0,none⟩) 1 c]).run Tryz.prog w= .ok (.slice (some ⟨g',0,none⟩) (T.length+1) cap) w'/\PlS w' (.slice (some ⟨g',0,none⟩) (T.length+1) cap) (vs++[.slice none 0 0]) (T++[[]])/\Kp v.ownBlock.toList w w'/\(v.ownBlock=some g'\/w.heap.size<=g'):=by
 obtain ⟨i0,hi,hz0,hz1,hz2⟩:=info_parts q2H
 have hln:=h.len
 obtain ⟨g',cap,w',hrun,r1,r2,r3,_⟩:=run_append_lies (P:=Tryz.prog) (w:=w) 26 ty 0 51 i0 _ 1 24 Tryz.underlying26 hi hz0 hz1 hz2 rfl (by decide) v vs.length vs h.row ⟨g,0,none⟩ 1 c [.slice none 0 0] rfl (fun j u hj=>by
  rw[Go.WideShapes.add_plain,Nat.zero_add]
  exact hz.cell (by simpa using hj)) (fun u hu=>by rw[zD]at hu;rw[hu];rfl) (by omega) (by unfold maxLen;omega) (by omega) (Nat.zero_le _) _ rfl
 rw[hln]at hrun r1
 have hk:=Kp.of r2
 have hins: ∀i u p,vs[i]?=some u->(Mt.toZ T)[i]?=some p->IRo w' u p:=fun i u p hu hp=>(h.ins.2 i u p hu hp).kp hk (fun b hb hm=>h.apart (h.ins.2 i u p hu hp) (by simpa using hm) hb rfl)
 refine ⟨g',cap,w',hrun,⟨by unfold VRo;rw[zF,hln];exact r1,?_,?_⟩,hk,r3.imp_right (fun e=>by omega)⟩
 ·have:Mt.toZ (T++[[]])=Mt.toZ T++[[]]:=by unfold Mt.toZ;simp
  rw[this]
  exact RowsI.snoc ⟨h.ins.1,hins⟩ (IRo.nil w')
 ·intro i j a b k ha hb hka hkb
  have hi:i<vs.length:=by
   rcases Nat.lt_or_ge i vs.length with hi|hi
   ·exact hi
   ·exfalso
    rw[List.getElem?_append_right hi]at ha
    have:=List.mem_of_getElem? ha
    rw[zD]at this
    subst this
    cases hka
  have hj:j<vs.length:=by
   rcases Nat.lt_or_ge j vs.length with hj|hj
   ·exact hj
   ·exfalso
    rw[List.getElem?_append_right hj]at hb
    have:=List.mem_of_getElem? hb
    rw[zD]at this
    subst this
    cases hkb
  rw[List.getElem?_append_left hi]at ha
  rw[List.getElem?_append_left hj]at hb
  exact h.nd i j a b k ha hb hka hkb
theorem IRo.app {w:World}{u:Value}{p:List Int}(h:IRo w u p)(q:Int){g c:Nat}(hz:CBox g #[.int .i64 q] 3 w)(hl:p.length+1<=1000000)(ty:TypeId):
  ∃g' cap w',(Builtin.append_ #[51,51] ty #[u, .slice (some ⟨g,0,none⟩) 1 c]).run Tryz.prog w= .ok (.slice (some ⟨g',0,none⟩) (p.length+1) cap) w'/\IRo w' (.slice (some ⟨g',0,none⟩) (p.length+1) cap) (p++[q])/\Kp u.ownBlock.toList w w'/\(u.ownBlock=some g'\/w.heap.size<=g'):=by
 obtain ⟨i0,hi,hz0,hz1,hz2⟩:=info_parts q9E
 obtain ⟨g',cap,w',hrun,r1,r2,r3,_⟩:=run_append_lies (P:=Tryz.prog) (w:=w) 51 ty 0 3 i0 _ 1 8 Tryz.underlying51 hi hz0 hz1 hz2 rfl (by decide) u p.length (iC p) h ⟨g,0,none⟩ 1 c [.int .i64 q] rfl (fun j x hj=>by
  rw[Go.WideShapes.add_plain,Nat.zero_add]
  exact hz.cell (by simpa using hj)) (fun x hx=>by rw[zD]at hx;rw[hx];rfl) (by omega) (by unfold maxLen;omega) (by omega) (Nat.zero_le _) _ rfl
 refine ⟨g',cap,w',hrun,?_,Kp.of r2,r3.imp_right (fun e=>by omega)⟩
 unfold IRo iC
 rw[zF,List.map_append]
 exact r1
theorem q8c (T:List (List Nat))(i:Nat)(l:List Nat):Mt.toZ (T.set i l)=(Mt.toZ T).set i (l.map Int.ofNat):=by unfold Mt.toZ;rw[List.map_set]
theorem PlS.put {w w1:World}{g n cap:Nat}{vs:List Value}{T:List (List Nat)}(h:PlS w (.slice (some ⟨g,0,none⟩) n cap) vs T){i:Nat}{u u':Value}{l':List Nat}(hu:vs[i]?=some u)(hk:Kp u.ownBlock.toList w w1)(hu':IRo w1 u' (l'.map Int.ofNat))(hn:u'.ownBlock=u.ownBlock\/ ∃k,u'.ownBlock=some k/\w.heap.size<=k):
  PlS (w1.setCell ⟨g,i,none⟩ u') (.slice (some ⟨g,0,none⟩) n cap) (vs.set i u') (T.set i l'):=by
 have hiv:i<vs.length:=(zC.1 hu).1
 have hiT:i<(Mt.toZ T).length:=by rw[q0C, <-h.len];exact hiv
 have hui:=h.ins.2 i u _ hu (zE hiT)
 have hgu:g∉u.ownBlock.toList:=fun hm=>h.apart hui rfl (by simpa using hm) rfl
 have hrow1:VRo w1 (.slice (some ⟨g,0,none⟩) n cap) vs:=h.row.kp hk (fun b hb hm=>by simp[Value.ownBlock]at hb;subst hb;exact hgu hm)
 obtain ⟨cur,hcur⟩:=hrow1.block (b:=g) rfl
 have hks:=Kp.set w1 g i u'
 have hgi: ∀{x:Value} {p:List Int},IRo w1 x p-> ∀b,x.ownBlock=some b->b∉[g]:=fun hx b hb hm=>by
  rw[zD]at hm
  subst hm
  obtain ⟨c2,e2⟩:=hx.block hb
  rw[hcur]at e2
  injection e2 with e;injection e with _ e;exact absurd e (by decide)
 have hold: ∀j x p,j≠i->vs[j]?=some x->(Mt.toZ T)[j]?=some p->IRo w1 x p:=fun j x p hj hx hp=>
  (h.ins.2 j x p hx hp).kp hk (fun b hb hm=>hj (h.nd j i x u b hx hu hb (by simpa using hm)))
 refine ⟨?_,⟨by rw[List.length_set,q8c,List.length_set];exact h.ins.1,fun j x p hx hp=>?_⟩,fun a b x y k hx hy hkx hky=>?_⟩
 ·have hnl:n=vs.length:=by
   obtain ⟨_,⟨e,_⟩|⟨g',cap',cur',e,_⟩⟩:=h.row
   ·cases e
   ·cases e;rfl
  subst hnl
  unfold VRo
  rw[List.length_set]
  exact (World.ownsRow.stored hrow1 i u').1
 ·rw[q8c]at hp
  rw[List.getElem?_set]at hx hp
  by_cases e:i=j
  ·subst e
   rw[if_pos rfl,if_pos hiv]at hx
   rw[if_pos rfl,if_pos hiT]at hp
   cases hx
   cases hp
   exact hu'.kp hks (hgi hu')
  ·rw[if_neg e]at hx hp
   have:=hold j x p (fun e'=>e e'.symm) hx hp
   exact this.kp hks (hgi this)
 ·have key: ∀j z,j≠i->vs[j]?=some z-> ∀k,u'.ownBlock=some k->z.ownBlock=some k->False:=fun j z hj hz k hk1 hk2=>by
   rcases hn with e|⟨k',e,hle⟩
   ·exact hj (h.nd j i z u k hz hu hk2 (by rw[<-e];exact hk1))
   ·rw[e]at hk1
    cases hk1
    have:=h.ins.lt (List.mem_of_getElem? hz) hk2
    omega
  rw[List.getElem?_set]at hx hy
  by_cases ea:i=a
  ·by_cases eb:i=b
   ·omega
   ·rw[if_neg eb]at hy
    rw[if_pos ea,if_pos hiv]at hx
    cases hx
    exact (key b y (fun e=>eb e.symm) hy k hkx hky).elim
  ·rw[if_neg ea]at hx
   by_cases eb:i=b
   ·rw[if_pos eb,if_pos hiv]at hy
    cases hy
    exact (key a x (fun e=>ea e.symm) hx k hky hkx).elim
   ·rw[if_neg eb]at hy
    exact h.nd a b x y k hx hy hkx hky
theorem PlS.pop {w:World}{g n cap:Nat}{vs:List Value}{T:List (List Nat)}(h:PlS w (.slice (some ⟨g,0,none⟩) (n+1) cap) vs T):T.length=n+1/\PlS w (.slice (some ⟨g,0,none⟩) n cap) vs.dropLast T.dropLast:=by
 have hl:=h.len
 have hn:vs.length=n+1:=by
  obtain ⟨_,⟨e,_⟩|⟨g',cap',cur',e,_⟩⟩:=h.row
  ·cases e
  ·injection e with _ e2 _;omega
 have hne:vs≠[]:=fun e=>by rw[e]at hn;cases hn
 refine ⟨by omega,?_,⟨by rw[List.length_dropLast,q0C,List.length_dropLast,hl],fun i x p hx hp=>?_⟩,fun i j a b k ha hb=>?_⟩
 ·have hr:=h.row
  unfold VRo at hr ⊢
  rw[hn, <-List.dropLast_concat_getLast hne]at hr
  have:=ownsRow_pop (n:=n) (by rw[List.length_dropLast];omega) hr
  rw[List.length_dropLast,hn]
  exact this
 ·have e:Mt.toZ T.dropLast=(Mt.toZ T).dropLast:=by unfold Mt.toZ;rw[List.map_dropLast]
  rw[e]at hp
  rw[List.getElem?_dropLast]at hx hp
  split at hx
  ·split at hp
   ·exact h.ins.2 i x p hx hp
   ·cases hp
  ·cases hx
 ·rw[List.getElem?_dropLast]at ha hb
  split at ha
  ·split at hb
   ·exact h.nd i j a b k ha hb
   ·cases hb
  ·cases ha
theorem IRo.pop {w:World}{g n cap:Nat}{p:List Int}{q:Int}(h:IRo w (.slice (some ⟨g,0,none⟩) (n+1) cap) (p++[q])):p.length=n/\IRo w (.slice (some ⟨g,0,none⟩) n cap) p:=by
 have hn:(p++[q]).length=n+1:=by
  obtain ⟨_,⟨e,_⟩|⟨g',cap',cur',e,_⟩⟩:=h
  ·cases e
  ·injection e with _ e2 _;omega
 have hp:p.length=n:=by rw[zF]at hn;simpa using hn
 refine ⟨hp,?_⟩
 unfold IRo iC at h ⊢
 rw[hn,List.map_append]at h
 have:=ownsRow_pop (n:=n) (by rw[zI];omega) h
 rw[hp]
 exact this
structure Ev where
 k:ByteArray
 t:ByteArray
 n0:Int
 n1:Int
 n2:Int
 n3:Int
 x:ByteArray
def Ev.c (e:Ev):Array Value:=#[.string e.k, .string e.t, .int .i64 e.n0, .int .i64 e.n1, .int .i64 e.n2, .int .i64 e.n3, .string e.x]
def inI (n:Int):Prop:= -9223372036854775808<=n/\n<9223372036854775808
def Ev.ok (e:Ev):Prop:=e.k.size<=9223372036854775807/\e.t.size<=9223372036854775807/\e.x.size<=9223372036854775807/\inI e.n0/\inI e.n1/\inI e.n2/\inI e.n3
def EBox (g:Nat)(e:Ev)(w:World):Prop:=w.heap[g]?=some (.cells e.c 30 (0,0))
theorem EBox.cells {g:Nat}{e:Ev}{w:World}(h:EBox g e w):w.cell? ⟨g,0,none⟩=some (.string e.k)/\w.cell? ⟨g,1,none⟩=some (.string e.t)/\w.cell? ⟨g,2,none⟩=some (.int .i64 e.n0)/\w.cell? ⟨g,3,none⟩=some (.int .i64 e.n1)/\w.cell? ⟨g,4,none⟩=some (.int .i64 e.n2)/\w.cell? ⟨g,5,none⟩=some (.int .i64 e.n3)/\w.cell? ⟨g,6,none⟩=some (.string e.x):=by
 unfold EBox Ev.c at h
 simp[World.cell?,h]
theorem EBox.lt {g:Nat}{e:Ev}{w:World}(h:EBox g e w):g<w.heap.size:=by
 unfold EBox at h
 rcases Nat.lt_or_ge g w.heap.size with h1|h1
 ·exact h1
 ·rw[Array.getElem?_eq_none h1]at h;cases h
theorem EBox.below {g B:Nat}{e:Ev}{w w':World}(h:EBox g e w)(hb:Below B w w')(hB:g<B):EBox g e w':=by unfold EBox;rw[hb.block g hB];exact h
def EvsAt (w:World)(ad:Option Addr)(l:List Ev):Prop:=l≠[]-> ∃b off,ad=some ⟨b,off,none⟩/\b<w.heap.size/\ ∀(i:Nat) (e:Ev),l[i]?=some e-> ∀(j:Nat) (u:Value),e.c[j]?=some u->w.cell? ⟨b,off+i * 7+j,none⟩=some u
theorem EvsAt.kp {F:List Nat}{w w':World}{ad:Option Addr}{l:List Ev}(h:EvsAt w ad l)(hk:Kp F w w')(hF: ∀b off,ad=some ⟨b,off,none⟩->b∉F):EvsAt w' ad l:=fun hl=>by
 obtain ⟨b,off,e,hlt,hc⟩:=h hl
 exact ⟨b,off,e,Nat.lt_of_lt_of_le hlt hk.size,fun i x hx j u hu=>hk.cell (hc i x hx j u hu) (hF b off e)⟩
theorem EvsAt.seven {w:World}{ad:Option Addr}{l:List Ev}(h:EvsAt w ad l)(k:Nat)(hk:k<l.length): ∃b off,ad=some ⟨b,off,none⟩/\w.cell? ⟨b,off+k * 7,none⟩=some (.string l[k].k)/\w.cell? ⟨b,off+k * 7+1,none⟩=some (.string l[k].t)/\w.cell? ⟨b,off+k * 7+2,none⟩=some (.int .i64 l[k].n0)/\w.cell? ⟨b,off+k * 7+3,none⟩=some (.int .i64 l[k].n1)/\w.cell? ⟨b,off+k * 7+4,none⟩=some (.int .i64 l[k].n2)/\w.cell? ⟨b,off+k * 7+5,none⟩=some (.int .i64 l[k].n3)/\w.cell? ⟨b,off+k * 7+6,none⟩=some (.string l[k].x):=by
 obtain ⟨b,off,e,_,hc⟩:=h (by rintro rfl;simp at hk)
 have q:=hc k l[k] (zE hk)
 exact ⟨b,off,e,q 0 _ rfl,q 1 _ rfl,q 2 _ rfl,q 3 _ rfl,q 4 _ rfl,q 5 _ rfl,q 6 _ rfl⟩
structure Vl where
 n:Int
 s:ByteArray
 t:Bool
def noB:ByteArray:=⟨#[]⟩
structure Mo where
 e:Ev
 ns:List ByteArray
 la:List Ev
def fstN (s:ByteArray):List ByteArray->Nat
 |[]=>0
 |n::r=>if n.data.toList=s.data.toList then 0 else fstN s r+1
def evZ:Ev:=⟨noB,noB,0,0,0,0,noB⟩
def Mo.at (M:Mo)(s:ByteArray):Ev:=if q05 s then M.e else M.la.getD (fstN s M.ns) evZ
def evN (e:Ev)(f:Int):Int:=if f=0 then e.n0 else if f=1 then e.n1 else if f=2 then e.n2 else e.n3
def fdV (e:Ev)(f:Int):Vl:=if f=4 then ⟨0,e.t,false⟩ else if f=5 then ⟨0,e.x,false⟩ else ⟨evN e f,noB,false⟩
def lfV (M:Mo)(p:Pt):Vl:=if p.kd=1 then ⟨p.n,noB,false⟩ else if p.kd=2 then ⟨0,p.s,false⟩ else fdV (M.at p.st) p.fl
def eqV (a b:Vl):Bool:=decide (a.n=b.n) && (decide (a.s.data.toList=b.s.data.toList) && decide (a.t=b.t))
def opV (k:Int)(a b:Vl):Vl:=
 if k=4 then ⟨IntKind.i64.wrap (a.n+b.n),noB,false⟩
 else if k=5 then ⟨IntKind.i64.wrap (a.n-b.n),noB,false⟩
 else if k=6 then ⟨IntKind.i64.wrap (a.n * b.n),noB,false⟩
 else if k=7 then ⟨0,noB,decide (a.n<b.n)⟩
 else if k=8 then ⟨0,noB,decide (a.n<=b.n)⟩
 else if k=9 then ⟨0,noB,eqV a b⟩
 else if k=10 then ⟨0,noB, !eqV a b⟩
 else if k=11 then ⟨0,noB,a.t && b.t⟩
 else if k=12 then ⟨0,noB,a.t||b.t⟩
 else ⟨0,noB, !a.t⟩
def vlv (M:Mo)(p:Pt):List Vl->Vl
 |[]=>lfV M p
 |[a]=>opV p.kd a ⟨0,noB,false⟩
 |a::b::_=>opV p.kd a b
def hasN (ns:List ByteArray)(s:ByteArray):Bool:=decide (fstN s ns<ns.length)
def hasS (ns:List ByteArray)(x:List Pt):Bool:=x.all fun p=>q05 p.st||hasN ns p.st
def hdE (x:List Pt)(M:Mo):Int:=if ckK x≠3 then 110 else if M.ns.length≠M.la.length\/hasS M.ns x=false then 5 else 0
def hdB (x:List Pt)(M:Mo):Bool:=if hdE x M≠0 then false else match fdX (vlv M) x with
 |some v=>v.t
 |none=>false
def NmsAt (w:World)(ad:Option Addr)(l:List ByteArray):Prop:=l≠[]-> ∃b off,ad=some ⟨b,off,none⟩/\b<w.heap.size/\ ∀i (h:i<l.length),w.cell? ⟨b,off+i,none⟩=some (.string l[i])
theorem NmsAt.kp {F:List Nat}{w w':World}{ad:Option Addr}{l:List ByteArray}(h:NmsAt w ad l)(hk:Kp F w w')(hF: ∀b off,ad=some ⟨b,off,none⟩->b∉F):NmsAt w' ad l:=fun hl=>by
 obtain ⟨b,off,e,hlt,hc⟩:=h hl
 exact ⟨b,off,e,Nat.lt_of_lt_of_le hlt hk.size,fun i hi=>hk.cell (hc i hi) (hF b off e)⟩
theorem data_inj {a b:ByteArray}:a.data.toList=b.data.toList↔a=b:=⟨fun h=>by rw[<-q0z a, <-q0z b,h],fun h=>by rw[h]⟩
theorem qda (s:ByteArray)(l:List ByteArray):fstN s l<=l.length:=by
 induction l with
 |nil=>exact zM _
 |cons n r ih=>rw[fstN];split;exact Nat.zero_le _;rw[List.length_cons];omega
theorem q1y {s:ByteArray}{l:List ByteArray}(h:fstN s l<l.length):l[fstN s l]=s/\ ∀j (hj:j<fstN s l),l[j]≠s:=by
 induction l with
 |nil=>exact absurd h (Nat.not_lt_zero _)
 |cons n r ih=>
  by_cases he:n.data.toList=s.data.toList
  ·have e:fstN s (n::r)=0:=by rw[fstN,if_pos he]
   refine ⟨?_,fun j hj=>absurd hj (by omega)⟩
   simp only[e,List.getElem_cons_zero]
   exact data_inj.1 he
  ·have e:fstN s (n::r)=fstN s r+1:=by rw[fstN,if_neg he]
   have h2:fstN s r<r.length:=by rw[e,List.length_cons]at h;omega
   obtain ⟨h3,h4⟩:=ih h2
   refine ⟨?_,fun j hj=>?_⟩
   ·simp only[e,List.getElem_cons_succ]
    exact h3
   ·cases j with
    |zero=>exact fun e=>he (by rw[<-e];rfl)
    |succ j=>exact h4 j (by omega)
theorem q2G (s:ByteArray)(l:List ByteArray):fstN s l<l.length↔s∈l:=by
 constructor
 ·intro h
  have:=(q1y h).1
  rw[<-this]
  exact zJ _
 ·intro h
  induction l with
  |nil=>cases h
  |cons n r ih=>
   rw[fstN]
   split
   ·rw[List.length_cons];omega
   ·rename_i hne
    have:s∈r:=by
     rcases zH.1 h with e|e
     ·exact absurd (by rw[e]) hne
     ·exact e
    have:=ih this
    rw[List.length_cons]
    omega
theorem q1z (l:List ByteArray)(s:ByteArray):hasN l s=true↔s∈l:=by
 unfold hasN
 rw[decide_eq_true_eq,q2G]
theorem qf1 (l:List ByteArray)(s:ByteArray):Lib.containsS l s=hasN l s:=by rw[Bool.eq_iff_iff,Lib.containsS_iff,q1z]
theorem idxS {l:List ByteArray}{s:ByteArray}(h:fstN s l<l.length):Lib.idxOfS l s=((fstN s l:Nat):Int):=by
 obtain ⟨h1,h2⟩:=q1y h
 have:=Lib.idxFromS_hit s l (fstN s l) 0 h (by rw[List.getD_eq_getElem?_getD,zE h];exact h1) (fun j hj=>by
  rw[List.getD_eq_getElem?_getD,zE (by omega)]
  exact h2 j hj)
 unfold Lib.idxOfS
 rw[this,Nat.zero_add]
theorem q1r (ad:Option Addr)(c:Nat)(l:List ByteArray)(x:ByteArray)(w:World)(hl:l.length<=9223372036854775807)(h:NmsAt w ad l):
  Calls Tryz.prog 82 #[.slice ad l.length c, .string x] w fun e w'=>e= .returned (.bool (hasN l x))/\w'=w:=by
 by_cases h0:l=[]
 ·subst h0
  exact Tryz.slices_Contains_string_empty ad c x w
 ·obtain ⟨b,off,rfl,_,hc⟩:=h h0
  have:=Tryz.slices_Contains_string b off l.length c l x w (zM _) hl (fun j hj=>by
   rw[hc j hj,List.getD_eq_getElem?_getD,zE hj]
   rfl)
  rw[List.take_length,qf1]at this
  exact this
theorem q9B (ad:Option Addr)(c:Nat)(l:List ByteArray)(x:ByteArray)(w:World)(hl:l.length<=9223372036854775807)(h:NmsAt w ad l)(hx:fstN x l<l.length):
  Calls Tryz.prog 104 #[.slice ad l.length c, .string x] w fun e w'=>e= .returned (.int .i64 ((fstN x l:Nat):Int))/\w'=w:=by
 have h0:l≠[]:=by rintro rfl;exact absurd hx (Nat.not_lt_zero _)
 obtain ⟨b,off,rfl,_,hc⟩:=h h0
 have:=Tryz.slices_Index_string b off l.length c l x w (zM _) hl (fun j hj=>by
  rw[hc j hj,List.getD_eq_getElem?_getD,zE hj]
  rfl)
 rw[List.take_length,idxS hx]at this
 exact this
theorem Ex.fine_leaves (t:Ex)(h:t.fine): ∀q∈t.flat,sds q.kd=0->lfK q≠0:=by
 induction t with
 |lf p=>
  intro q hq _
  simp only[Ex.flat,zD]at hq
  subst hq
  exact h
 |un p a ih=>
  intro q hq h0
  simp only[Ex.flat,zH]at hq
  rcases hq with rfl|hq
  ·rw[h.1]at h0;exact absurd h0 (by decide)
  ·exact ih h.2.2 q hq h0
 |bi p a b iha ihb=>
  intro q hq h0
  simp only[Ex.flat,zH,zG]at hq
  rcases hq with rfl|hq|hq
  ·have h4:=h.1;have h12:=h.2.1;unfold sds at h0;rw[if_pos ⟨h4,h12⟩]at h0;cases h0
  ·exact iha h.2.2.2.1 q hq h0
  ·exact ihb h.2.2.2.2 q hq h0
theorem q1q {x:List Pt}(h:ckK x≠0): ∃t:Ex,t.wf/\t.fine/\x=t.flat/\t.dn<=32/\x.length<=200/\t.kd=ckK x:=by
 obtain ⟨t,h1,h2,h3,h4,h5⟩:=qaQ h
 refine ⟨t,h1,t.fine_of h1 (by rw[h3];exact h),h2,?_,h5,h3⟩
 have:=t.dp_dn
 omega
theorem qcF (r:Nat)(h1:128<=r)(h2:r<2048):Utf8.encode (r:Int)=⟨#[UInt8.ofNat (192+r / 64),UInt8.ofNat (128+r % 64)]⟩:=by
 have hv:Utf8.valid (r:Int)=true:=by unfold Utf8.valid;simp;omega
 simp only[Utf8.encode,hv,if_true,Int.toNat_natCast]
 rw[if_neg (by omega),if_pos (by omega)]
theorem qaX (r:Nat)(h2:2048<=r):3<=(Utf8.encode (r:Int)).size/\(Utf8.encode (r:Int)).size<=4:=by
 have hb:2048<=(if Utf8.valid (r:Int)=true then ((r:Int)).toNat else Utf8.runeError):=by
  split
  ·omega
  ·unfold Utf8.runeError;omega
 simp only[Utf8.encode]
 generalize (if Utf8.valid (r:Int)=true then ((r:Int)).toNat else Utf8.runeError)=c at hb
 rw[if_neg (by omega),if_neg (by omega)]
 split
 ·exact ⟨zM 3,by show 3<=4;omega⟩
 ·exact ⟨by show 3<=4;omega,zM 4⟩
theorem q31 (r:Int)(w:World):Calls Tryz.prog 215 #[.int .i32 r] w fun e w'=>Hid (∃b,e= .returned (.bool b))/\w'=w:=by
 go_enter Tryz.func215,Tryz.ntmps215
 go_wp2
 all_goals go_ret
 all_goals (refine ⟨?_,rfl⟩;first|exact Or.inl rfl|exact Or.inr rfl|exact hZq ⟨_,rfl⟩)
theorem q5j (w:World):Calls Tryz.prog 204 #[.string ⟨#[39,10]⟩, .int .i32 65533] w fun e w'=>e= .returned (.int .i64 (-1))/\Kp [] w w':=by
 go_enter Tryz.func204,Tryz.ntmps204
 go_wp2
 go_loopg [5,6] 2 (fun g _ _ wx=> ∃i:Nat,i+g=2/\wx=w.iter ⟨#[39,10]⟩ i)
 case atStart=>exact ⟨0,by omega,rfl⟩
 case round=>
  obtain ⟨i,hig,rfl⟩:=hrel
  rcases (show i=0\/i=1\/i=2 by omega)with rfl|rfl|rfl
  ·obtain rfl:gk=2:=by omega
   have hnx:=fun ty=>run_next_ascii (P:=Tryz.prog) w ⟨#[39,10]⟩ 0 ty (by decide) (by decide)
   go_wp2
   go_roundg 1
   case measure=>omega
   case rel=>exact ⟨1,by omega,rfl⟩
  ·obtain rfl:gk=1:=by omega
   have hnx:=fun ty=>run_next_ascii (P:=Tryz.prog) w ⟨#[39,10]⟩ 1 ty (by decide) (by decide)
   go_wp2
   go_roundg 0
   case measure=>omega
   case rel=>exact ⟨2,by omega,rfl⟩
  ·obtain rfl:gk=0:=by omega
   have hnx:=fun ty=>run_next_end (P:=Tryz.prog) w ⟨#[39,10]⟩ 2 ty (by decide)
   go_wp2
   go_ret
   exact ⟨rfl,Kp.alloc _ _⟩
theorem q4B (r:Nat)(h1:2048<=r)(hE:r≠65533)(w:World):Calls Tryz.prog 204 #[.string ⟨#[39,10]⟩, .int .i32 (r:Int)] w fun e w'=>e= .returned (.int .i64 (-1))/\Kp [] w w':=by
 have g1:((r:Int)==65533)=false:=by simp;omega
 have g2: ¬ ((r:Int)=65533):=by omega
 have g3: ¬ ((r:Int)<128):=by omega
 obtain ⟨k1,k2⟩:=qaX r h1
 obtain ⟨B,hB⟩: ∃B,Utf8.encode (r:Int)=B:=⟨_,rfl⟩
 rw[hB]at k1 k2
 have gL: ¬ ((B.size:Int)-1<2):=by omega
 go_enter Tryz.func204,Tryz.ntmps204
 go_wp2_with fail
 refine (q31 _ _).mono ?_
 rintro e w1 ⟨hb,rfl⟩
 obtain ⟨b,rfl⟩:=uQ hb
 clear hb
 cases b with
 |false=>
  go_wp2
  go_ret
  exact ⟨rfl,Kp.refl _ _⟩
 |true=>
  go_wp2
  go_step3
  go_wp2
  clear hB
  go_loopw [9] (fun i wr=>wr=w1/\i= .int .i64 ((B.size:Int)-1)) (fun _ _=>0)
  case atStart=>exact ⟨rfl,by go_num⟩
  case round=>
   obtain ⟨rfl,rfl⟩:=hrel
   go_wp2
   rw[Exit.noGoto_ret]
   go_ret
   exact ⟨rfl,Kp.refl _ _⟩
theorem qel (s:ByteArray)(c:Int)(w:World)(h:s.data.toList=[]):Calls Tryz.prog 214 #[.string s, .int .u8 c] w fun e w'=>e= .returned (.int .i64 (-1))/\w'=w:=by
 have:=Tryz.strings_IndexByte s c w
 rw[h]at this
 exact this
theorem q5k (r:Nat)(h1:128<=r)(h3:r<2048)(w:World):Calls Tryz.prog 204 #[.string ⟨#[39,10]⟩, .int .i32 (r:Int)] w fun e w'=>e= .returned (.int .i64 (-1))/\Kp [] w w':=by
 have g1:((r:Int)==65533)=false:=by simp;omega
 have g2: ¬ ((r:Int)=65533):=by omega
 have g3: ¬ ((r:Int)<128):=by omega
 have he:=qcF r h1 h3
 have hb:(UInt8.ofNat (128+r % 64)).toNat=128+r % 64:=by simp;omega
 generalize UInt8.ofNat (128+r % 64)=b2 at *
 generalize UInt8.ofNat (192+r / 64)=b1 at *
 have hb2:128<=b2.toNat:=by omega
 have gn:((10:Int) != (b2.toNat:Int))=true:=by simp;omega
 clear hb
 go_enter Tryz.func204,Tryz.ntmps204
 go_wp2_with fail
 refine (q31 _ _).mono ?_
 rintro e w1 ⟨hb,rfl⟩
 obtain ⟨b,rfl⟩:=uQ hb
 clear hb
 cases b with
 |false=>
  go_wp2
  go_ret
  exact ⟨rfl,Kp.refl _ _⟩
 |true=>
  go_wp2
  go_step3
  go_wp2
  clear he
  go_loopw [9] (fun i wr=>wr=w1/\i= .int .i64 1) (fun _ _=>0)
  case atStart=>exact ⟨rfl,rfl⟩
  case round=>
   obtain ⟨rfl,rfl⟩:=hrel
   have IB:=fun (s:ByteArray) (c:Int) W (h:s.data.toList=[])=>qel s c W h
   go_wp2
   go_step3
   go_wp2
   go_quiet (fail)
   have e1:(⟨#[39,10]⟩:ByteArray)[1].toNat=10:=rfl
   have e2:((⟨#[b1,b2]⟩:ByteArray)[1]'(by show 1<2;omega)).toNat=b2.toNat:=rfl
   have e3:(((10:Nat):Int) != (b2.toNat:Int))=true:=gn
   have hk:=Kp.drewQ wr nq
   simp only[e1,e2,e3]
   generalize wr.drewN nq=W2 at *
   have w2:IntKind.i64.wrap 2=2:=by decide
   go_wp2
   go_quiet (first|(go_at_call 214;exact Calls.quiet_of_same (IB _ _ _ (by decide))))
   go_wp2
   rw[Exit.noGoto_ret]
   go_wp2
   rw[Exit.noGoto_ret]
   go_ret
   exact ⟨rfl,hk.trans (Kp.drewQ _ _) (by simp)⟩
theorem q5U (r:Nat)(h1:128<=r)(w:World):Calls Tryz.prog 204 #[.string ⟨#[39,10]⟩, .int .i32 (r:Int)] w fun e w'=>e= .returned (.int .i64 (-1))/\Kp [] w w':=by
 by_cases hE:r=65533
 ·subst hE
  exact q5j w
 ·rcases Nat.lt_or_ge r 2048 with h|h
  ·exact q5k r h1 h w
  ·exact q4B r h hE w
theorem qe6 (s:ByteArray)(pos:Nat)(h:pos<s.size)(ha:128<=s[pos].toNat):128<=(Utf8.decode s pos).1/\(Utf8.decode s pos).1<=2147483647/\1<=(Utf8.decode s pos).2/\ ∀j,pos<=j->j<pos+(Utf8.decode s pos).2-> ∃b,s.data.toList[j]?=some b/\128<=b.toNat:=by
 obtain ⟨d1,d2⟩:=decode_high s pos h ha
 refine ⟨d1,decode_le s pos,d2,?_⟩
 have hl:s.data.toList.length=s.size:=rfl
 have at': ∀j,j<s.size->s.data.toList[j]?=some (s.data.toList.getD j 0):=fun j hj=>by
  rw[List.getD_eq_getElem?_getD,zE (by omega)]
  rfl
 have e0:s.data.toList.getD pos 0=s[pos]:=by
  rw[List.getD_eq_getElem?_getD,zE (by omega)]
  rfl
 have hN:=Lib.decode_N s pos
 rcases Lib.decodeN_shape (s.data.toList.length-pos) (s.data.toList.getD pos 0).toNat (s.data.toList.getD (pos+1) 0).toNat (s.data.toList.getD (pos+2) 0).toNat (s.data.toList.getD (pos+3) 0).toNat with ⟨c,e⟩|⟨c1,c2,c3,cv,e⟩|⟨c1,c2,c3,c4,cv,cs,e⟩|⟨c1,c2,c3,c4,c5,cv,cw,e⟩|e
 ·rw[e0]at c;omega
 ·rw[hN,e]
  intro j h1 h2
  rcases (show j=pos\/j=pos+1 by simp at h2;omega)with rfl|rfl
  ·exact ⟨_,at' _ h,by rw[e0];exact ha⟩
  ·exact ⟨_,at' _ (by omega),by omega⟩
 ·rw[hN,e]
  intro j h1 h2
  rcases (show j=pos\/j=pos+1\/j=pos+2 by simp at h2;omega)with rfl|rfl|rfl
  ·exact ⟨_,at' _ h,by rw[e0];exact ha⟩
  ·exact ⟨_,at' _ (by omega),by omega⟩
  ·exact ⟨_,at' _ (by omega),by omega⟩
 ·rw[hN,e]
  intro j h1 h2
  rcases (show j=pos\/j=pos+1\/j=pos+2\/j=pos+3 by simp at h2;omega)with rfl|rfl|rfl|rfl
  ·exact ⟨_,at' _ h,by rw[e0];exact ha⟩
  ·exact ⟨_,at' _ (by omega),by omega⟩
  ·exact ⟨_,at' _ (by omega),by omega⟩
  ·exact ⟨_,at' _ (by omega),by omega⟩
 ·rw[hN,e]
  intro j h1 h2
  obtain rfl:j=pos:=by simp at h2;omega
  exact ⟨_,at' _ h,by rw[e0];exact ha⟩
theorem qdM {p:UInt8->Bool}{l:List UInt8}{i:Nat}(k:Nat)(h:i<=spn p l)(hk: ∀j,i<=j->j<i+k-> ∃b,l[j]?=some b/\p b=true):i+k<=spn p l:=by
 induction k with
 |zero=>exact h
 |succ k ih=>
  have h1:=ih (fun j a b=>hk j a (by omega))
  obtain ⟨b,hb,hp⟩:=hk (i+k) (by omega) (by omega)
  obtain ⟨hlt,rfl⟩:=zC.1 hb
  exact q25 h1 hlt hp
theorem qf8 {b:UInt8}(h:128<=b.toNat):isIn b=true:=by unfold isIn;simp;omega
theorem q9A (b:UInt8):isIn b= !([39,10]:List UInt8).contains b:=by
 unfold isIn
 have e1:decide (b.toNat=39)=(b==39):=by
  rw[Bool.eq_iff_iff];simp[<-UInt8.toNat_inj]
 have e2:decide (b.toNat=10)=(b==10):=by
  rw[Bool.eq_iff_iff];simp[<-UInt8.toNat_inj]
 rw[e1,e2,List.contains_cons,List.contains_cons,List.contains_nil,Bool.or_false]
theorem qem (l:List UInt8):(0<=Lib.indexAny l [39,10])↔spn isIn l<l.length:=by
 induction l with
 |nil=>simp[Lib.indexAny,spn]
 |cons b r ih=>
  have hge:=Lib.indexAny_ge [39,10] r
  rw[Lib.indexAny,spn,q9A]
  cases hc:([39,10]:List UInt8).contains b with
  |true=>simp
  |false=>
   rw[if_neg Bool.false_ne_true,show (if (!false)=true then spn isIn r+1 else 0)=spn isIn r+1 from rfl]
   by_cases hm:Lib.indexAny r [39,10]= -1
   ·rw[if_pos (beq_iff_eq.2 hm)]
    rw[hm]at ih
    have: ¬ spn isIn r<r.length:=fun h=>by have:=ih.2 h;omega
    simp only[List.length_cons]
    constructor
    ·intro h;omega
    ·intro h;omega
   ·rw[if_neg (fun e=>hm (beq_iff_eq.1 e))]
    have:0<=Lib.indexAny r [39,10]:=by omega
    have h2:=ih.1 this
    simp only[List.length_cons]
    constructor
    ·intro _;omega
    ·intro _;omega
theorem q4A (s:ByteArray)(h8:s.size<=8)(w:World):Calls Tryz.prog 197 #[.string s, .string ⟨#[39,10]⟩] w fun e w'=>(∃i:Int,e= .returned (.int .i64 i)/\(0<=i↔spn isIn s.data.toList<s.size))/\Kp [] w w':=by
 have hus:=fun W=>Tryz.strings_shouldUseASCIISet (s.size:Int) W
 have h8z:decide ((8:Int)<(s.size:Int))=false:=zK (by omega)
 rw[h8z]at hus
 have HUS:=hZq hus
 clear hus h8z
 go_enter Tryz.func197,Tryz.ntmps197
 go_wp2_with fail
 refine (uQ HUS _).mono ?_
 rintro e w1 ⟨rfl,rfl⟩
 go_wp2
 go_loopg [9,10] s.size (fun g _ _ wx=> ∃i:Nat,i+g=s.size/\wx.heap[w1.heap.size]?=some (.stringIter s i)/\Hid (Below w1.heap.size w1 wx)/\Hid (i<=spn isIn s.data.toList))
 case atStart=>exact ⟨0,by omega,World.iter_heap _ _ _,hZq ((Below.refl _ _).alloc (zM _) _),hZq (Nat.zero_le _)⟩
 case round=>
  obtain ⟨i,hig,hit,HB,HN⟩:=hrel
  cases gk with
  |zero=>
   obtain rfl:i=s.size:=by omega
   have hnx:=fun ty=>Lib.run_next_end_at (P:=Tryz.prog) wr w1.heap.size s s.size ty hit (by omega)
   clear hit
   go_wp2
   go_ret
   exact ⟨⟨_,rfl,by constructor <;> intro h <;> (have:=uQ HN;omega)⟩,Kp.ofBelow (uQ HB)⟩
  |succ g=>
   have hi:i<s.size:=by omega
   by_cases ha:s[i].toNat<128
   ·have hnx:=fun ty=>Lib.run_next_ascii_at (P:=Tryz.prog) wr w1.heap.size s i ty hit hi ha
    have hiA:=Lib.iterAt_heap wr w1.heap.size s i (i+1) hit
    have HB2:Hid (Below w1.heap.size w1 (wr.iterAt w1.heap.size s (i+1))):=hZq (Lib.below_iterAt (uQ HB) (zM _) s (i+1))
    have IR:=fun W=>Tryz.strings_IndexRune_ascii ⟨#[39,10]⟩ (s[i].toNat:Int) W (by omega) (by omega)
    rw[show ((s[i].toNat:Int)).toNat.toUInt8=s[i] by simp]at IR
    have hcon:=Lib.contains_iff_indexByte [39,10] s[i]
    have IR2:Hid (∀W,Calls Tryz.prog 204 #[.string ⟨#[39,10]⟩, .int .i32 (s[i].toNat:Int)] W fun e w'=>e= .returned (.int .i64 (Lib.indexByte [39,10] s[i]))/\w'=W):=hZq IR
    clear IR hit
    have hmo:isIn s[i]=true->i+1<=spn isIn s.data.toList:=fun hin=>q25 (uQ HN) (by simpa using hi) hin
    have hst:isIn s[i]=false->i=spn isIn s.data.toList:=fun hin=>q1C (uQ HN) (fun _=>hin)
    rw[q9A,hcon]at hmo hst
    generalize Lib.indexByte [39,10] s[i]=q at *
    clear hcon
    generalize wr.iterAt w1.heap.size s (i+1)=W2 at *
    by_cases hq:(0:Int)<=q
    ·have HS:Hid (i=spn isIn s.data.toList):=hZq (hst (by rw[decide_eq_true hq];rfl))
     clear hmo hst
     go_wp2_with fail
     refine (uQ IR2 _).mono ?_
     rintro e w3 ⟨rfl,rfl⟩
     go_wp2
     go_ret
     exact ⟨⟨_,rfl,by have:=uQ HS;constructor <;> intro h <;> omega⟩,Kp.ofBelow (uQ HB2)⟩
    ·have HN2:Hid (i+1<=spn isIn s.data.toList):=hZq (hmo (by rw[zK hq];rfl))
     clear hmo hst
     go_wp2_with fail
     refine (uQ IR2 _).mono ?_
     rintro e w3 ⟨rfl,rfl⟩
     go_wp2
     go_roundg g
     case measure=>omega
     case rel=>exact ⟨i+1,by omega,hiA,HB2,HN2⟩
   ·obtain ⟨d1,d2,d3,d4⟩:=qe6 s i hi (by omega)
    have hnx:=fun ty=>Lib.run_next_any_at (P:=Tryz.prog) wr w1.heap.size s i ty hit hi
    have HN2:Hid (i+(Utf8.decode s i).2<=spn isIn s.data.toList):=hZq (qdM _ (uQ HN) (fun j a b=>by
     obtain ⟨x,hx,hx2⟩:=d4 j a b
     exact ⟨x,hx,qf8 hx2⟩))
    have hle:spn isIn s.data.toList<=s.size:=q19 isIn s.data.toList
    have hk2:i+(Utf8.decode s i).2<=s.size:=Nat.le_trans (uQ HN2) hle
    have hiA:=Lib.iterAt_heap wr w1.heap.size s i (i+(Utf8.decode s i).2) hit
    have HB2:Hid (Below w1.heap.size w1 (wr.iterAt w1.heap.size s (i+(Utf8.decode s i).2))):=hZq (Lib.below_iterAt (uQ HB) (zM _) s _)
    generalize (Utf8.decode s i).2=k at *
    generalize (Utf8.decode s i).1=c at *
    have IR2:=hZq (fun W=>q5U c d1 W)
    clear d4 hit hle ha
    generalize wr.iterAt w1.heap.size s (i+k)=W2 at *
    go_wp2_with fail
    refine (uQ IR2 _).mono ?_
    rintro e w3 ⟨rfl,hk3⟩
    have hiB:w3.heap[w1.heap.size]?=some (.stringIter s (i+k)):=by rw[hk3.block _ (zB.1 hiA).1 (by simp)];exact hiA
    have HB3:Hid (Below w1.heap.size w1 w3):=hZq ((uQ HB2).trans (hk3.below (uQ HB2).size (by simp)))
    clear hk3 hiA
    go_wp2
    go_roundg (s.size-(i+k))
    case measure=>omega
    case rel=>exact ⟨i+k,by omega,hiB,HB3,HN2⟩
theorem qeL: ∀w,(zeroValue 293).run Tryz.prog w= .ok (.agg (Array.replicate 256 (.bool false))) w:=fun w=>by
 have e:(Tryz.prog.info? 293).map (fun i=>(i.zero,i.size))=some (some (.agg (Array.replicate 256 (.bool false))),256):=by kernel_rfl
 cases h:Tryz.prog.info? 293 with
 |none=>rw[h]at e;cases e
 |some i=>
  rw[h]at e
  simp at e
  simp[zeroValue,typeInfo,h,e.1]
theorem q7f: ∀(j:Nat) b,(⟨#[39,10]⟩:ByteArray).data.toList[j]?=some b->b.toNat<128:=fun j b h=>by
 have hm:=List.mem_of_getElem? h
 simp at hm
 rcases hm with rfl|rfl <;> decide
theorem q44 (s:ByteArray)(hs:s.size<=256)(w:World):Calls Tryz.prog 181 #[.string s, .string ⟨#[39,10]⟩] w fun e w'=>e= .returned (.bool (!decide (spn isIn s.data.toList=s.size)))/\Kp [] w w':=by
 have hle:spn isIn s.data.toList<=s.size:=q19 isIn s.data.toList
 have IA:Calls Tryz.prog 197 #[.string s, .string ⟨#[39,10]⟩] w fun e w'=>(∃i:Int,e= .returned (.int .i64 i)/\(0<=i↔spn isIn s.data.toList<s.size))/\Kp [] w w':=by
  rcases Nat.lt_or_ge 8 s.size with h8|h8
  ·refine (Tryz.strings_IndexAny_long qeL s ⟨#[39,10]⟩ w (by decide) h8 (by omega) (by decide) q7f).mono ?_
   rintro e w' ⟨rfl,rfl⟩
   exact ⟨⟨_,rfl,qem _⟩,(Kp.alloc _ _).trans (Kp.alloc _ _) (by simp)⟩
  ·exact q4A s h8 w
 have HI:=hZq IA
 clear IA
 go_enter Tryz.func181,Tryz.ntmps181
 go_wp2_with fail
 refine (uQ HI).mono ?_
 rintro e w1 ⟨⟨i,rfl,hi⟩,hk⟩
 have HK:=hZq hk
 have HB:Hid (decide (0<=i)= !decide (spn isIn s.data.toList=s.size)):=hZq (by
  by_cases h:0<=i
  ·have:=hi.1 h
   rw[decide_eq_true h,zK (by omega)]
   rfl
  ·have: ¬ spn isIn s.data.toList<s.size:=fun h2=>h (hi.2 h2)
   rw[zK h,decide_eq_true (by omega)]
   rfl)
 clear hk hi HI
 go_wp2
 go_ret
 exact ⟨q0Z (uQ HB),uQ HK⟩
theorem q8C (s:ByteArray)(w:World):Calls Tryz.prog 162 #[.string s] w fun e w'=>e= .returned (.bool (isTx s))/\Kp [] w w':=by
 unfold isTx
 by_cases h:s.size<=256
 ·rw[decide_eq_true h,Bool.true_and]
  have HC:=hZq (q44 s h w)
  generalize decide (spn isIn s.data.toList=s.size)=b at *
  go_enter Tryz.func162,Tryz.ntmps162
  go_wp2_with fail
  refine (uQ HC).mono ?_
  rintro e w1 ⟨rfl,hk⟩
  have HK:=hZq hk
  clear hk
  go_wp2
  go_ret
  exact ⟨q0Z (by simp),uQ HK⟩
 ·rw[zK h,Bool.false_and]
  go_enter Tryz.func162,Tryz.ntmps162
  go_wp2
  go_ret
  exact ⟨rfl,Kp.refl _ _⟩
theorem q2K (s:ByteArray)(w:World)(hT:TbE w):Calls Tryz.prog 184 #[.string s] w fun e w'=>e= .returned (.bool (q1L s.data.toList))/\w'=w:=by
 have tl:=toList_data s
 have HF:=hZq (q2m s w hT)
 clear hT
 unfold q1L
 generalize hl:s.data.toList=l at tl HF ⊢
 clear hl
 by_cases e1:l=[111,114]
 ·have g1:(s.toList=[111,114])=True:=by rw[tl,e1];simp
  have g2:(s.toList==[111,114])=true:=by rw[tl,e1];decide
  rw[decide_eq_true e1]
  clear tl e1 HF
  go_enter Tryz.func184,Tryz.ntmps184
  go_wp2
  go_ret
  exact ⟨rfl,rfl⟩
 have g1:(s.toList=[111,114])=False:=by rw[tl];simp[e1]
 have g2:(s.toList==[111,114])=false:=by rw[tl];simpa using e1
 rw[zK e1]
 by_cases e2:l=[97,110,100]
 ·have g3:(s.toList=[97,110,100])=True:=by rw[tl,e2];simp
  have g4:(s.toList==[97,110,100])=true:=by rw[tl,e2];decide
  rw[decide_eq_true e2]
  clear tl e1 e2 HF
  go_enter Tryz.func184,Tryz.ntmps184
  go_wp2
  go_ret
  exact ⟨rfl,rfl⟩
 have g3:(s.toList=[97,110,100])=False:=by rw[tl];simp[e2]
 have g4:(s.toList==[97,110,100])=false:=by rw[tl];simpa using e2
 rw[zK e2]
 by_cases e3:l=[110,111,116]
 ·have g5:(s.toList=[110,111,116])=True:=by rw[tl,e3];simp
  have g6:(s.toList==[110,111,116])=true:=by rw[tl,e3];decide
  rw[decide_eq_true e3]
  clear tl e1 e2 e3 HF
  go_enter Tryz.func184,Tryz.ntmps184
  go_wp2
  go_ret
  exact ⟨rfl,rfl⟩
 have g5:(s.toList=[110,111,116])=False:=by rw[tl];simp[e3]
 have g6:(s.toList==[110,111,116])=false:=by rw[tl];simpa using e3
 rw[zK e3]
 generalize q0n l=F at *
 clear tl e1 e2 e3
 go_enter Tryz.func184,Tryz.ntmps184
 go_wp2_with fail
 refine (uQ HF).mono ?_
 rintro e w1 ⟨rfl,rfl⟩
 go_wp2
 go_ret
 exact ⟨q0Z (by simp),rfl⟩
theorem q3u {s:ByteArray}(h:s.size=0\/32<s.size\/(∃h:0<s.size,q0A s[0]=false)\/spn q0h s.data.toList≠s.size):isSg s=false:=by
 unfold isSg
 rcases h with h|h|⟨h0,h⟩|h
 ·rw[zK (by omega)];rfl
 ·rw[decide_eq_false (p:=s.size<=32) (by omega)];simp
 ·have e:s.data.toList.head?=some s[0]:=by
   rw[List.head?_eq_getElem?,zE (by simpa using h0)];rfl
  rw[e]
  simp[h]
 ·rw[zK h];simp
theorem qbt {s:ByteArray}(h1:0<s.size)(h2:s.size<=32)(h3:q0A s[0]=true)(h4:spn q0h s.data.toList=s.size):isSg s=q1L s.data.toList:=by
 unfold isSg
 have e:s.data.toList.head?=some s[0]:=by
  rw[List.head?_eq_getElem?,zE (by simpa using h1)];rfl
 rw[e,decide_eq_true h1,decide_eq_true h2,decide_eq_true h4]
 simp[h3]
theorem q77 (s:ByteArray)(w:World)(hT:TbE w)(hs:s.size<=9223372036854775807):Calls Tryz.prog 163 #[.string s] w fun e w'=>e= .returned (.bool (isSg s))/\w'=w:=by
 have HF:=hZq (q2K s w hT)
 clear hT
 by_cases h0:s.size=0
 ·rw[q3u (Or.inl h0)]
  have g:((s.size:Int)==0)=true:=by simp[h0]
  have g':((s.size:Int)=0)=True:=by simp[h0]
  clear h0 HF
  go_enter Tryz.func163,Tryz.ntmps163
  go_wp2
  go_ret
  exact ⟨rfl,rfl⟩
 have g0:((s.size:Int)==0)=false:=beq_eq_false_iff_ne.2 (by omega)
 by_cases h1:32<s.size
 ·rw[q3u (Or.inr (Or.inl h1))]
  go_enter Tryz.func163,Tryz.ntmps163
  go_wp2
  go_ret
  exact ⟨rfl,rfl⟩
 have hp:0<s.size:=by omega
 have LT:=hZq (fun (k:Nat) (hk:k<s.size)=>q5Z s[k] w)
 have DG:=hZq (fun (k:Nat) (hk:k<s.size)=>q75 s[k] w)
 by_cases h2:q0A s[0]=true
 ·generalize hR:isSg s=R
  have HR:=hZq hR
  have HY:=hZq (qbt hp (by omega) h2)
  have L0:Hid (Calls Tryz.prog 182 #[.int .u8 (s[0].toNat:Int)] w fun e w'=>e= .returned (.bool true)/\w'=w):=hZq (by have:=uQ LT 0 hp;rw[h2]at this;exact this)
  clear hR h2
  go_enter Tryz.func163,Tryz.ntmps163
  go_wp2_with fail
  refine (uQ L0).mono ?_
  rintro e w1 ⟨rfl,rfl⟩
  go_wp2
  go_loopw [20] (fun i wr=>wr=w1/\ ∃k:Nat,k<=s.size/\Hid (k<=spn q0h s.data.toList)/\i= .int .i64 (k:Int)) (fun i _=>s.size-(intOf i).toNat)
  case atStart=>exact ⟨rfl,0,Nat.zero_le _,hZq (Nat.zero_le _),rfl⟩
  case round=>
   obtain ⟨rfl,k,hk,HN,rfl⟩:=hrel
   by_cases hlt:k<s.size
   ·have A1:=hZq (uQ LT k hlt)
    have A2:=hZq (uQ DG k hlt)
    have hmo:(q0A s[k]||q07 s[k])=true->k+1<=spn q0h s.data.toList:=fun h=>q25 (uQ HN) (by simpa using hlt) h
    have hst:(q0A s[k]||q07 s[k])=false->k=spn q0h s.data.toList:=fun h=>q1C (uQ HN) (fun _=>h)
    cases c1:q0A s[k]with
    |true=>
     have HN2:Hid (k+1<=spn q0h s.data.toList):=hZq (hmo (by rw[c1];rfl))
     rw[c1]at A1
     clear hmo hst c1 A2
     go_wp2_with fail
     refine (uQ A1).mono ?_
     rintro e w2 ⟨rfl,rfl⟩
     go_wp2
     go_roundw
     case rel=>exact ⟨trivial,k+1,by omega,HN2,by go_num⟩
     case measure=>simp[intOf];omega
    |false=>
     rw[c1]at A1
     cases c2:q07 s[k]with
     |true=>
      have HN2:Hid (k+1<=spn q0h s.data.toList):=hZq (hmo (by rw[c1,c2];rfl))
      rw[c2]at A2
      clear hmo hst c1 c2
      go_wp2_with fail
      refine (uQ A1).mono ?_
      rintro e w2 ⟨rfl,rfl⟩
      go_wp2_with fail
      refine (uQ A2).mono ?_
      rintro e w3 ⟨rfl,rfl⟩
      go_wp2
      go_roundw
      case rel=>exact ⟨trivial,k+1,by omega,HN2,by go_num⟩
      case measure=>simp[intOf];omega
     |false=>
      have HS:Hid (R=false):=hZq (by
       have:=hst (by rw[c1,c2];rfl)
       rw[<-uQ HR]
       exact q3u (Or.inr (Or.inr (Or.inr (by omega)))))
      rw[c2]at A2
      clear hmo hst c1 c2
      go_wp2_with fail
      refine (uQ A1).mono ?_
      rintro e w2 ⟨rfl,rfl⟩
      go_wp2_with fail
      refine (uQ A2).mono ?_
      rintro e w3 ⟨rfl,rfl⟩
      go_wp2
      go_ret
      exact ⟨q0Z (uQ HS).symm,rfl⟩
   ·obtain rfl:k=s.size:=by omega
    have HS:Hid (R=q1L s.data.toList):=hZq (by
     have h1:=uQ HN
     have h2:spn q0h s.data.toList<=s.size:=q19 q0h s.data.toList
     rw[<-uQ HR]
     exact uQ HY (by omega))
    go_wp2_with fail
    refine (uQ HF).mono ?_
    rintro e w2 ⟨rfl,rfl⟩
    go_wp2
    go_ret
    exact ⟨q0Z (uQ HS).symm,rfl⟩
 ·have h2':q0A s[0]=false:=by simpa using h2
  rw[q3u (Or.inr (Or.inr (Or.inl ⟨hp,h2'⟩)))]
  have L0:Hid (Calls Tryz.prog 182 #[.int .u8 (s[0].toNat:Int)] w fun e w'=>e= .returned (.bool false)/\w'=w):=hZq (by have:=uQ LT 0 hp;rw[h2']at this;exact this)
  clear h2 h2'
  go_enter Tryz.func163,Tryz.ntmps163
  go_wp2_with fail
  refine (uQ L0).mono ?_
  rintro e w1 ⟨rfl,rfl⟩
  go_wp2
  go_ret
  exact ⟨rfl,rfl⟩
def Pt.v (p:Pt):Value:= .agg #[.int .i64 p.kd, .int .i64 p.n, .string p.s, .string p.st, .int .i64 p.fl]
def Pt.c (p:Pt):Array Value:=#[.int .i64 p.kd, .int .i64 p.n, .string p.s, .string p.st, .int .i64 p.fl]
def ptEq (a b:Pt):Bool:=a.kd==b.kd && (a.n==b.n && (a.s.data.toList==b.s.data.toList && (a.st.data.toList==b.st.data.toList && a.fl==b.fl)))
theorem q2O (a b:Pt):ptEq a b=true↔a=b:=by
 obtain ⟨k,n,s,t,f⟩:=a
 obtain ⟨k',n',s',t',f'⟩:=b
 unfold ptEq
 simp only[Bool.and_eq_true,beq_iff_eq,Pt.mk.injEq]
 constructor
 ·rintro ⟨h1,h2,h3,h4,h5⟩
  exact ⟨h1,h2,by rw[<-q0z s, <-q0z s',h3],by rw[<-q0z t, <-q0z t',h4],h5⟩
 ·rintro ⟨h1,h2,h3,h4,h5⟩
  exact ⟨h1,h2,by rw[h3],by rw[h4],h5⟩
theorem eqP (d:Nat)(a b:Pt)(w:World):(Op.equalIn (d+2) 178 a.v b.v).run Tryz.prog w= .ok (ptEq a b) w:=by
 obtain ⟨k,n,s,t,f⟩:=a
 obtain ⟨k',n',s',t',f'⟩:=b
 have hi:=fun (a b:Int) (w:World)=>run_equalIn_int (P:=Tryz.prog) w d 3 .i64 .i64 a b Tryz.underlying3
 have hi6:=fun (a b:Int) (w:World)=>run_equalIn_int (P:=Tryz.prog) w d 2 .i64 .i64 a b Tryz.underlying2
 have hs:=fun (a b:ByteArray) (w:World)=>run_equalIn_string (P:=Tryz.prog) w d 9 a b Tryz.underlying9
 unfold Op.equalIn Pt.v ptEq
 simp only[Sem.run_bind,run_underlying Tryz.underlying178,Result.andThen_ok]
 simp[part,Tryz.sizeOf3,Tryz.sizeOf2,Tryz.sizeOf9,go_sem,hi,hi6,hs,ByteArray.toList_eq]
 by_cases h0:k=k' <;> by_cases h1:n=n' <;> by_cases h2:s.data=s'.data <;> by_cases h3:t.data=t'.data <;> by_cases h4:f=f' <;> simp[h0,h1,h2,h3,h4]
theorem q2s (s:ByteArray):q05 s=true↔s=txt []:=⟨q0M,fun h=>by rw[h];rfl⟩
theorem q5F (s:ByteArray):s.toList.isEmpty=q05 s:=by
 rw[toList_data]
 unfold q05
 rw[Bool.eq_iff_iff,List.isEmpty_iff,beq_iff_eq]
 exact List.length_eq_zero_iff.symm
theorem eqP1 (p:Pt):ptEq p ⟨1,p.n,txt [],txt [],0⟩=true↔p.kd=1/\q05 p.s=true/\q05 p.st=true/\p.fl=0:=by
 obtain ⟨k,n,s,t,f⟩:=p
 rw[q2O,q2s,q2s]
 simp
theorem eqP2 (p:Pt):ptEq p ⟨2,0,p.s,txt [],0⟩=true↔p.kd=2/\p.n=0/\q05 p.st=true/\p.fl=0:=by
 obtain ⟨k,n,s,t,f⟩:=p
 rw[q2O,q2s]
 simp
theorem eqP3 (p:Pt):ptEq p ⟨3,0,txt [],p.st,p.fl⟩=true↔p.kd=3/\p.n=0/\q05 p.s=true:=by
 obtain ⟨k,n,s,t,f⟩:=p
 rw[q2O,q2s]
 simp
theorem eqPk (p:Pt):ptEq p (opP p.kd)=q1p p:=by
 obtain ⟨k,n,s,t,f⟩:=p
 rw[Bool.eq_iff_iff,q2O]
 unfold opP q1p
 simp[q2s]
theorem qdn (p:Pt):lfK p=if ptEq p ⟨1,p.n,txt [],txt [],0⟩=true/\0<=p.n then 1 else if ptEq p ⟨2,0,p.s,txt [],0⟩=true/\isTx p.s=true then 2 else if ptEq p ⟨3,0,txt [],p.st,p.fl⟩=true/\(q05 p.st=true\/isSg p.st=true) then fldK p.fl else 0:=by
 unfold lfK
 simp only[eqP1,eqP2,eqP3,and_assoc]
def Pt.fit (p:Pt):Prop:=p.st.size<=9223372036854775807
theorem qa1 {w W:World}{a b c d e:Value}(h:CBox w.heap.size #[a,b,c,d,e] 178 (w.alloc (.cells #[a,b,c,d,e] 178)))(hk:Kp [] (w.alloc (.cells #[a,b,c,d,e] 178)) W)(hT:TbE w):
  (W.cell? ⟨w.heap.size,0,none⟩=some a/\W.cell? ⟨w.heap.size,1,none⟩=some b/\W.cell? ⟨w.heap.size,2,none⟩=some c/\W.cell? ⟨w.heap.size,3,none⟩=some d/\W.cell? ⟨w.heap.size,4,none⟩=some e)/\Hid (TbE W)/\Hid (Below w.heap.size w W):=by
 have h2:=h.kp hk (by simp)
 exact ⟨⟨h2.cell rfl,h2.cell rfl,h2.cell rfl,h2.cell rfl,h2.cell rfl⟩,hZq ((hT.alloc _).kp hk (by simp)),hZq (((Below.refl _ _).alloc (zM _) _).trans (hk.below (by simp) (by simp)))⟩
theorem q64 (p:Pt)(w:World)(hT:TbE w)(hf:p.fit):Calls Tryz.prog 132 #[p.v] w fun e w'=>e= .returned (.int .i64 (lfK p))/\Below w.heap.size w w':=by
 have q1:=fun W=>eqP 9998 p ⟨1,p.n,txt [],txt [],0⟩ W
 have q2:=fun W=>eqP 9998 p ⟨2,0,p.s,txt [],0⟩ W
 have q3:=fun W=>eqP 9998 p ⟨3,0,txt [],p.st,p.fl⟩ W
 have TX:=hZq (fun W=>q8C p.s W)
 have SG:=hZq (fun W hW=>q77 p.st W hW hf)
 have FK:=hZq (fun W=>q5f p.fl W)
 have em:=q5F p.st
 rw[qdn]
 generalize ptEq p ⟨1,p.n,txt [],txt [],0⟩=b1 at *
 generalize ptEq p ⟨2,0,p.s,txt [],0⟩=b2 at *
 generalize ptEq p ⟨3,0,txt [],p.st,p.fl⟩=b3 at *
 generalize isTx p.s=bt at *
 generalize isSg p.st=bs at *
 generalize q05 p.st=be at *
 generalize fldK p.fl=K at *
 clear hf
 obtain ⟨kd,n,s,st,fl⟩:=p
 unfold Pt.v txt at *
 dsimp only at *
 have CX:CBox w.heap.size #[.int .i64 kd, .int .i64 n, .string s, .string st, .int .i64 fl] 178 (w.alloc (.cells #[.int .i64 kd, .int .i64 n, .string s, .string st, .int .i64 fl] 178)):=CBox.new w _ _
 have HT0:=hZq (hT.alloc (.cells #[.int .i64 kd, .int .i64 n, .string s, .string st, .int .i64 fl] 178))
 have HB0:Hid (Below w.heap.size w (w.alloc (.cells #[.int .i64 kd, .int .i64 n, .string s, .string st, .int .i64 fl] 178))):=hZq ((Below.refl _ _).alloc (zM _) _)
 have PC:=hZq (fun W (hk:Kp [] (w.alloc (.cells #[.int .i64 kd, .int .i64 n, .string s, .string st, .int .i64 fl] 178)) W)=>qa1 CX hk hT)
 clear hT CX
 go_enter Tryz.func132,Tryz.ntmps132
 by_cases hn:0<=n
 ·cases b1
  ·have h0: ¬ (false=true/\0<=n):=by simp
   cases b2
   ·have h1: ¬ (false=true/\bt=true):=by simp
    cases b3
    ·rw[if_neg h0,if_neg h1,if_neg (by simp)]
     go_wp2_with (first
      |(go_at_call 162;refine (uQ TX _).mono ?_;rintro e w1 ⟨rfl,hk⟩;obtain ⟨⟨d0,d1,d2,d3,d4⟩,HT1,HB1⟩:=uQ PC w1 hk;clear hk PC)
      |(go_at_call 163;first|(refine (uQ SG _ (uQ HT1)).mono ?_;rintro e w2 ⟨rfl,hw2⟩;subst hw2;clear HT1)|(refine (uQ SG _ (uQ HT0)).mono ?_;rintro e w2 ⟨rfl,hw2⟩;subst hw2;clear HT0))
      |(go_at_call 164;refine (uQ FK _).mono ?_;rintro e w3 ⟨rfl,hw3⟩;subst hw3))
     go_ret
     first|exact ⟨rfl,uQ HB1⟩|exact ⟨rfl,uQ HB0⟩
    ·cases be
     ·cases bs
      ·rw[if_neg h0,if_neg h1,if_neg (by simp)]
       go_wp2_with (first
        |(go_at_call 162;refine (uQ TX _).mono ?_;rintro e w1 ⟨rfl,hk⟩;obtain ⟨⟨d0,d1,d2,d3,d4⟩,HT1,HB1⟩:=uQ PC w1 hk;clear hk PC)
        |(go_at_call 163;first|(refine (uQ SG _ (uQ HT1)).mono ?_;rintro e w2 ⟨rfl,hw2⟩;subst hw2;clear HT1)|(refine (uQ SG _ (uQ HT0)).mono ?_;rintro e w2 ⟨rfl,hw2⟩;subst hw2;clear HT0))
        |(go_at_call 164;refine (uQ FK _).mono ?_;rintro e w3 ⟨rfl,hw3⟩;subst hw3))
       go_ret
       first|exact ⟨rfl,uQ HB1⟩|exact ⟨rfl,uQ HB0⟩
      ·rw[if_neg h0,if_neg h1,if_pos (by simp)]
       go_wp2_with (first
        |(go_at_call 162;refine (uQ TX _).mono ?_;rintro e w1 ⟨rfl,hk⟩;obtain ⟨⟨d0,d1,d2,d3,d4⟩,HT1,HB1⟩:=uQ PC w1 hk;clear hk PC)
        |(go_at_call 163;first|(refine (uQ SG _ (uQ HT1)).mono ?_;rintro e w2 ⟨rfl,hw2⟩;subst hw2;clear HT1)|(refine (uQ SG _ (uQ HT0)).mono ?_;rintro e w2 ⟨rfl,hw2⟩;subst hw2;clear HT0))
        |(go_at_call 164;refine (uQ FK _).mono ?_;rintro e w3 ⟨rfl,hw3⟩;subst hw3))
       go_ret
       first|exact ⟨rfl,uQ HB1⟩|exact ⟨rfl,uQ HB0⟩
     ·rw[if_neg h0,if_neg h1,if_pos (by simp)]
      go_wp2_with (first
       |(go_at_call 162;refine (uQ TX _).mono ?_;rintro e w1 ⟨rfl,hk⟩;obtain ⟨⟨d0,d1,d2,d3,d4⟩,HT1,HB1⟩:=uQ PC w1 hk;clear hk PC)
       |(go_at_call 163;first|(refine (uQ SG _ (uQ HT1)).mono ?_;rintro e w2 ⟨rfl,hw2⟩;subst hw2;clear HT1)|(refine (uQ SG _ (uQ HT0)).mono ?_;rintro e w2 ⟨rfl,hw2⟩;subst hw2;clear HT0))
       |(go_at_call 164;refine (uQ FK _).mono ?_;rintro e w3 ⟨rfl,hw3⟩;subst hw3))
      go_ret
      first|exact ⟨rfl,uQ HB1⟩|exact ⟨rfl,uQ HB0⟩
   ·cases bt
    ·have h1: ¬ (true=true/\false=true):=by simp
     cases b3
     ·rw[if_neg h0,if_neg h1,if_neg (by simp)]
      go_wp2_with (first
       |(go_at_call 162;refine (uQ TX _).mono ?_;rintro e w1 ⟨rfl,hk⟩;obtain ⟨⟨d0,d1,d2,d3,d4⟩,HT1,HB1⟩:=uQ PC w1 hk;clear hk PC)
       |(go_at_call 163;first|(refine (uQ SG _ (uQ HT1)).mono ?_;rintro e w2 ⟨rfl,hw2⟩;subst hw2;clear HT1)|(refine (uQ SG _ (uQ HT0)).mono ?_;rintro e w2 ⟨rfl,hw2⟩;subst hw2;clear HT0))
       |(go_at_call 164;refine (uQ FK _).mono ?_;rintro e w3 ⟨rfl,hw3⟩;subst hw3))
      go_ret
      first|exact ⟨rfl,uQ HB1⟩|exact ⟨rfl,uQ HB0⟩
     ·cases be
      ·cases bs
       ·rw[if_neg h0,if_neg h1,if_neg (by simp)]
        go_wp2_with (first
         |(go_at_call 162;refine (uQ TX _).mono ?_;rintro e w1 ⟨rfl,hk⟩;obtain ⟨⟨d0,d1,d2,d3,d4⟩,HT1,HB1⟩:=uQ PC w1 hk;clear hk PC)
         |(go_at_call 163;first|(refine (uQ SG _ (uQ HT1)).mono ?_;rintro e w2 ⟨rfl,hw2⟩;subst hw2;clear HT1)|(refine (uQ SG _ (uQ HT0)).mono ?_;rintro e w2 ⟨rfl,hw2⟩;subst hw2;clear HT0))
         |(go_at_call 164;refine (uQ FK _).mono ?_;rintro e w3 ⟨rfl,hw3⟩;subst hw3))
        go_ret
        first|exact ⟨rfl,uQ HB1⟩|exact ⟨rfl,uQ HB0⟩
       ·rw[if_neg h0,if_neg h1,if_pos (by simp)]
        go_wp2_with (first
         |(go_at_call 162;refine (uQ TX _).mono ?_;rintro e w1 ⟨rfl,hk⟩;obtain ⟨⟨d0,d1,d2,d3,d4⟩,HT1,HB1⟩:=uQ PC w1 hk;clear hk PC)
         |(go_at_call 163;first|(refine (uQ SG _ (uQ HT1)).mono ?_;rintro e w2 ⟨rfl,hw2⟩;subst hw2;clear HT1)|(refine (uQ SG _ (uQ HT0)).mono ?_;rintro e w2 ⟨rfl,hw2⟩;subst hw2;clear HT0))
         |(go_at_call 164;refine (uQ FK _).mono ?_;rintro e w3 ⟨rfl,hw3⟩;subst hw3))
        go_ret
        first|exact ⟨rfl,uQ HB1⟩|exact ⟨rfl,uQ HB0⟩
      ·rw[if_neg h0,if_neg h1,if_pos (by simp)]
       go_wp2_with (first
        |(go_at_call 162;refine (uQ TX _).mono ?_;rintro e w1 ⟨rfl,hk⟩;obtain ⟨⟨d0,d1,d2,d3,d4⟩,HT1,HB1⟩:=uQ PC w1 hk;clear hk PC)
        |(go_at_call 163;first|(refine (uQ SG _ (uQ HT1)).mono ?_;rintro e w2 ⟨rfl,hw2⟩;subst hw2;clear HT1)|(refine (uQ SG _ (uQ HT0)).mono ?_;rintro e w2 ⟨rfl,hw2⟩;subst hw2;clear HT0))
        |(go_at_call 164;refine (uQ FK _).mono ?_;rintro e w3 ⟨rfl,hw3⟩;subst hw3))
       go_ret
       first|exact ⟨rfl,uQ HB1⟩|exact ⟨rfl,uQ HB0⟩
    ·rw[if_neg h0,if_pos (by simp)]
     go_wp2_with (first
      |(go_at_call 162;refine (uQ TX _).mono ?_;rintro e w1 ⟨rfl,hk⟩;obtain ⟨⟨d0,d1,d2,d3,d4⟩,HT1,HB1⟩:=uQ PC w1 hk;clear hk PC)
      |(go_at_call 163;first|(refine (uQ SG _ (uQ HT1)).mono ?_;rintro e w2 ⟨rfl,hw2⟩;subst hw2;clear HT1)|(refine (uQ SG _ (uQ HT0)).mono ?_;rintro e w2 ⟨rfl,hw2⟩;subst hw2;clear HT0))
      |(go_at_call 164;refine (uQ FK _).mono ?_;rintro e w3 ⟨rfl,hw3⟩;subst hw3))
     go_ret
     first|exact ⟨rfl,uQ HB1⟩|exact ⟨rfl,uQ HB0⟩
  ·rw[if_pos ⟨rfl,hn⟩]
   go_wp2_with (first
    |(go_at_call 162;refine (uQ TX _).mono ?_;rintro e w1 ⟨rfl,hk⟩;obtain ⟨⟨d0,d1,d2,d3,d4⟩,HT1,HB1⟩:=uQ PC w1 hk;clear hk PC)
    |(go_at_call 163;first|(refine (uQ SG _ (uQ HT1)).mono ?_;rintro e w2 ⟨rfl,hw2⟩;subst hw2;clear HT1)|(refine (uQ SG _ (uQ HT0)).mono ?_;rintro e w2 ⟨rfl,hw2⟩;subst hw2;clear HT0))
    |(go_at_call 164;refine (uQ FK _).mono ?_;rintro e w3 ⟨rfl,hw3⟩;subst hw3))
   go_ret
   first|exact ⟨rfl,uQ HB1⟩|exact ⟨rfl,uQ HB0⟩
 ·cases b1
  ·have h0: ¬ (false=true/\0<=n):=by simp
   cases b2
   ·have h1: ¬ (false=true/\bt=true):=by simp
    cases b3
    ·rw[if_neg h0,if_neg h1,if_neg (by simp)]
     go_wp2_with (first
      |(go_at_call 162;refine (uQ TX _).mono ?_;rintro e w1 ⟨rfl,hk⟩;obtain ⟨⟨d0,d1,d2,d3,d4⟩,HT1,HB1⟩:=uQ PC w1 hk;clear hk PC)
      |(go_at_call 163;first|(refine (uQ SG _ (uQ HT1)).mono ?_;rintro e w2 ⟨rfl,hw2⟩;subst hw2;clear HT1)|(refine (uQ SG _ (uQ HT0)).mono ?_;rintro e w2 ⟨rfl,hw2⟩;subst hw2;clear HT0))
      |(go_at_call 164;refine (uQ FK _).mono ?_;rintro e w3 ⟨rfl,hw3⟩;subst hw3))
     go_ret
     first|exact ⟨rfl,uQ HB1⟩|exact ⟨rfl,uQ HB0⟩
    ·cases be
     ·cases bs
      ·rw[if_neg h0,if_neg h1,if_neg (by simp)]
       go_wp2_with (first
        |(go_at_call 162;refine (uQ TX _).mono ?_;rintro e w1 ⟨rfl,hk⟩;obtain ⟨⟨d0,d1,d2,d3,d4⟩,HT1,HB1⟩:=uQ PC w1 hk;clear hk PC)
        |(go_at_call 163;first|(refine (uQ SG _ (uQ HT1)).mono ?_;rintro e w2 ⟨rfl,hw2⟩;subst hw2;clear HT1)|(refine (uQ SG _ (uQ HT0)).mono ?_;rintro e w2 ⟨rfl,hw2⟩;subst hw2;clear HT0))
        |(go_at_call 164;refine (uQ FK _).mono ?_;rintro e w3 ⟨rfl,hw3⟩;subst hw3))
       go_ret
       first|exact ⟨rfl,uQ HB1⟩|exact ⟨rfl,uQ HB0⟩
      ·rw[if_neg h0,if_neg h1,if_pos (by simp)]
       go_wp2_with (first
        |(go_at_call 162;refine (uQ TX _).mono ?_;rintro e w1 ⟨rfl,hk⟩;obtain ⟨⟨d0,d1,d2,d3,d4⟩,HT1,HB1⟩:=uQ PC w1 hk;clear hk PC)
        |(go_at_call 163;first|(refine (uQ SG _ (uQ HT1)).mono ?_;rintro e w2 ⟨rfl,hw2⟩;subst hw2;clear HT1)|(refine (uQ SG _ (uQ HT0)).mono ?_;rintro e w2 ⟨rfl,hw2⟩;subst hw2;clear HT0))
        |(go_at_call 164;refine (uQ FK _).mono ?_;rintro e w3 ⟨rfl,hw3⟩;subst hw3))
       go_ret
       first|exact ⟨rfl,uQ HB1⟩|exact ⟨rfl,uQ HB0⟩
     ·rw[if_neg h0,if_neg h1,if_pos (by simp)]
      go_wp2_with (first
       |(go_at_call 162;refine (uQ TX _).mono ?_;rintro e w1 ⟨rfl,hk⟩;obtain ⟨⟨d0,d1,d2,d3,d4⟩,HT1,HB1⟩:=uQ PC w1 hk;clear hk PC)
       |(go_at_call 163;first|(refine (uQ SG _ (uQ HT1)).mono ?_;rintro e w2 ⟨rfl,hw2⟩;subst hw2;clear HT1)|(refine (uQ SG _ (uQ HT0)).mono ?_;rintro e w2 ⟨rfl,hw2⟩;subst hw2;clear HT0))
       |(go_at_call 164;refine (uQ FK _).mono ?_;rintro e w3 ⟨rfl,hw3⟩;subst hw3))
      go_ret
      first|exact ⟨rfl,uQ HB1⟩|exact ⟨rfl,uQ HB0⟩
   ·cases bt
    ·have h1: ¬ (true=true/\false=true):=by simp
     cases b3
     ·rw[if_neg h0,if_neg h1,if_neg (by simp)]
      go_wp2_with (first
       |(go_at_call 162;refine (uQ TX _).mono ?_;rintro e w1 ⟨rfl,hk⟩;obtain ⟨⟨d0,d1,d2,d3,d4⟩,HT1,HB1⟩:=uQ PC w1 hk;clear hk PC)
       |(go_at_call 163;first|(refine (uQ SG _ (uQ HT1)).mono ?_;rintro e w2 ⟨rfl,hw2⟩;subst hw2;clear HT1)|(refine (uQ SG _ (uQ HT0)).mono ?_;rintro e w2 ⟨rfl,hw2⟩;subst hw2;clear HT0))
       |(go_at_call 164;refine (uQ FK _).mono ?_;rintro e w3 ⟨rfl,hw3⟩;subst hw3))
      go_ret
      first|exact ⟨rfl,uQ HB1⟩|exact ⟨rfl,uQ HB0⟩
     ·cases be
      ·cases bs
       ·rw[if_neg h0,if_neg h1,if_neg (by simp)]
        go_wp2_with (first
         |(go_at_call 162;refine (uQ TX _).mono ?_;rintro e w1 ⟨rfl,hk⟩;obtain ⟨⟨d0,d1,d2,d3,d4⟩,HT1,HB1⟩:=uQ PC w1 hk;clear hk PC)
         |(go_at_call 163;first|(refine (uQ SG _ (uQ HT1)).mono ?_;rintro e w2 ⟨rfl,hw2⟩;subst hw2;clear HT1)|(refine (uQ SG _ (uQ HT0)).mono ?_;rintro e w2 ⟨rfl,hw2⟩;subst hw2;clear HT0))
         |(go_at_call 164;refine (uQ FK _).mono ?_;rintro e w3 ⟨rfl,hw3⟩;subst hw3))
        go_ret
        first|exact ⟨rfl,uQ HB1⟩|exact ⟨rfl,uQ HB0⟩
       ·rw[if_neg h0,if_neg h1,if_pos (by simp)]
        go_wp2_with (first
         |(go_at_call 162;refine (uQ TX _).mono ?_;rintro e w1 ⟨rfl,hk⟩;obtain ⟨⟨d0,d1,d2,d3,d4⟩,HT1,HB1⟩:=uQ PC w1 hk;clear hk PC)
         |(go_at_call 163;first|(refine (uQ SG _ (uQ HT1)).mono ?_;rintro e w2 ⟨rfl,hw2⟩;subst hw2;clear HT1)|(refine (uQ SG _ (uQ HT0)).mono ?_;rintro e w2 ⟨rfl,hw2⟩;subst hw2;clear HT0))
         |(go_at_call 164;refine (uQ FK _).mono ?_;rintro e w3 ⟨rfl,hw3⟩;subst hw3))
        go_ret
        first|exact ⟨rfl,uQ HB1⟩|exact ⟨rfl,uQ HB0⟩
      ·rw[if_neg h0,if_neg h1,if_pos (by simp)]
       go_wp2_with (first
        |(go_at_call 162;refine (uQ TX _).mono ?_;rintro e w1 ⟨rfl,hk⟩;obtain ⟨⟨d0,d1,d2,d3,d4⟩,HT1,HB1⟩:=uQ PC w1 hk;clear hk PC)
        |(go_at_call 163;first|(refine (uQ SG _ (uQ HT1)).mono ?_;rintro e w2 ⟨rfl,hw2⟩;subst hw2;clear HT1)|(refine (uQ SG _ (uQ HT0)).mono ?_;rintro e w2 ⟨rfl,hw2⟩;subst hw2;clear HT0))
        |(go_at_call 164;refine (uQ FK _).mono ?_;rintro e w3 ⟨rfl,hw3⟩;subst hw3))
       go_ret
       first|exact ⟨rfl,uQ HB1⟩|exact ⟨rfl,uQ HB0⟩
    ·rw[if_neg h0,if_pos (by simp)]
     go_wp2_with (first
      |(go_at_call 162;refine (uQ TX _).mono ?_;rintro e w1 ⟨rfl,hk⟩;obtain ⟨⟨d0,d1,d2,d3,d4⟩,HT1,HB1⟩:=uQ PC w1 hk;clear hk PC)
      |(go_at_call 163;first|(refine (uQ SG _ (uQ HT1)).mono ?_;rintro e w2 ⟨rfl,hw2⟩;subst hw2;clear HT1)|(refine (uQ SG _ (uQ HT0)).mono ?_;rintro e w2 ⟨rfl,hw2⟩;subst hw2;clear HT0))
      |(go_at_call 164;refine (uQ FK _).mono ?_;rintro e w3 ⟨rfl,hw3⟩;subst hw3))
     go_ret
     first|exact ⟨rfl,uQ HB1⟩|exact ⟨rfl,uQ HB0⟩
  ·have h0: ¬ (true=true/\0<=n):=fun h=>hn h.2
   cases b2
   ·have h1: ¬ (false=true/\bt=true):=by simp
    cases b3
    ·rw[if_neg h0,if_neg h1,if_neg (by simp)]
     go_wp2_with (first
      |(go_at_call 162;refine (uQ TX _).mono ?_;rintro e w1 ⟨rfl,hk⟩;obtain ⟨⟨d0,d1,d2,d3,d4⟩,HT1,HB1⟩:=uQ PC w1 hk;clear hk PC)
      |(go_at_call 163;first|(refine (uQ SG _ (uQ HT1)).mono ?_;rintro e w2 ⟨rfl,hw2⟩;subst hw2;clear HT1)|(refine (uQ SG _ (uQ HT0)).mono ?_;rintro e w2 ⟨rfl,hw2⟩;subst hw2;clear HT0))
      |(go_at_call 164;refine (uQ FK _).mono ?_;rintro e w3 ⟨rfl,hw3⟩;subst hw3))
     go_ret
     first|exact ⟨rfl,uQ HB1⟩|exact ⟨rfl,uQ HB0⟩
    ·cases be
     ·cases bs
      ·rw[if_neg h0,if_neg h1,if_neg (by simp)]
       go_wp2_with (first
        |(go_at_call 162;refine (uQ TX _).mono ?_;rintro e w1 ⟨rfl,hk⟩;obtain ⟨⟨d0,d1,d2,d3,d4⟩,HT1,HB1⟩:=uQ PC w1 hk;clear hk PC)
        |(go_at_call 163;first|(refine (uQ SG _ (uQ HT1)).mono ?_;rintro e w2 ⟨rfl,hw2⟩;subst hw2;clear HT1)|(refine (uQ SG _ (uQ HT0)).mono ?_;rintro e w2 ⟨rfl,hw2⟩;subst hw2;clear HT0))
        |(go_at_call 164;refine (uQ FK _).mono ?_;rintro e w3 ⟨rfl,hw3⟩;subst hw3))
       go_ret
       first|exact ⟨rfl,uQ HB1⟩|exact ⟨rfl,uQ HB0⟩
      ·rw[if_neg h0,if_neg h1,if_pos (by simp)]
       go_wp2_with (first
        |(go_at_call 162;refine (uQ TX _).mono ?_;rintro e w1 ⟨rfl,hk⟩;obtain ⟨⟨d0,d1,d2,d3,d4⟩,HT1,HB1⟩:=uQ PC w1 hk;clear hk PC)
        |(go_at_call 163;first|(refine (uQ SG _ (uQ HT1)).mono ?_;rintro e w2 ⟨rfl,hw2⟩;subst hw2;clear HT1)|(refine (uQ SG _ (uQ HT0)).mono ?_;rintro e w2 ⟨rfl,hw2⟩;subst hw2;clear HT0))
        |(go_at_call 164;refine (uQ FK _).mono ?_;rintro e w3 ⟨rfl,hw3⟩;subst hw3))
       go_ret
       first|exact ⟨rfl,uQ HB1⟩|exact ⟨rfl,uQ HB0⟩
     ·rw[if_neg h0,if_neg h1,if_pos (by simp)]
      go_wp2_with (first
       |(go_at_call 162;refine (uQ TX _).mono ?_;rintro e w1 ⟨rfl,hk⟩;obtain ⟨⟨d0,d1,d2,d3,d4⟩,HT1,HB1⟩:=uQ PC w1 hk;clear hk PC)
       |(go_at_call 163;first|(refine (uQ SG _ (uQ HT1)).mono ?_;rintro e w2 ⟨rfl,hw2⟩;subst hw2;clear HT1)|(refine (uQ SG _ (uQ HT0)).mono ?_;rintro e w2 ⟨rfl,hw2⟩;subst hw2;clear HT0))
       |(go_at_call 164;refine (uQ FK _).mono ?_;rintro e w3 ⟨rfl,hw3⟩;subst hw3))
      go_ret
      first|exact ⟨rfl,uQ HB1⟩|exact ⟨rfl,uQ HB0⟩
   ·cases bt
    ·have h1: ¬ (true=true/\false=true):=by simp
     cases b3
     ·rw[if_neg h0,if_neg h1,if_neg (by simp)]
      go_wp2_with (first
       |(go_at_call 162;refine (uQ TX _).mono ?_;rintro e w1 ⟨rfl,hk⟩;obtain ⟨⟨d0,d1,d2,d3,d4⟩,HT1,HB1⟩:=uQ PC w1 hk;clear hk PC)
       |(go_at_call 163;first|(refine (uQ SG _ (uQ HT1)).mono ?_;rintro e w2 ⟨rfl,hw2⟩;subst hw2;clear HT1)|(refine (uQ SG _ (uQ HT0)).mono ?_;rintro e w2 ⟨rfl,hw2⟩;subst hw2;clear HT0))
       |(go_at_call 164;refine (uQ FK _).mono ?_;rintro e w3 ⟨rfl,hw3⟩;subst hw3))
      go_ret
      first|exact ⟨rfl,uQ HB1⟩|exact ⟨rfl,uQ HB0⟩
     ·cases be
      ·cases bs
       ·rw[if_neg h0,if_neg h1,if_neg (by simp)]
        go_wp2_with (first
         |(go_at_call 162;refine (uQ TX _).mono ?_;rintro e w1 ⟨rfl,hk⟩;obtain ⟨⟨d0,d1,d2,d3,d4⟩,HT1,HB1⟩:=uQ PC w1 hk;clear hk PC)
         |(go_at_call 163;first|(refine (uQ SG _ (uQ HT1)).mono ?_;rintro e w2 ⟨rfl,hw2⟩;subst hw2;clear HT1)|(refine (uQ SG _ (uQ HT0)).mono ?_;rintro e w2 ⟨rfl,hw2⟩;subst hw2;clear HT0))
         |(go_at_call 164;refine (uQ FK _).mono ?_;rintro e w3 ⟨rfl,hw3⟩;subst hw3))
        go_ret
        first|exact ⟨rfl,uQ HB1⟩|exact ⟨rfl,uQ HB0⟩
       ·rw[if_neg h0,if_neg h1,if_pos (by simp)]
        go_wp2_with (first
         |(go_at_call 162;refine (uQ TX _).mono ?_;rintro e w1 ⟨rfl,hk⟩;obtain ⟨⟨d0,d1,d2,d3,d4⟩,HT1,HB1⟩:=uQ PC w1 hk;clear hk PC)
         |(go_at_call 163;first|(refine (uQ SG _ (uQ HT1)).mono ?_;rintro e w2 ⟨rfl,hw2⟩;subst hw2;clear HT1)|(refine (uQ SG _ (uQ HT0)).mono ?_;rintro e w2 ⟨rfl,hw2⟩;subst hw2;clear HT0))
         |(go_at_call 164;refine (uQ FK _).mono ?_;rintro e w3 ⟨rfl,hw3⟩;subst hw3))
        go_ret
        first|exact ⟨rfl,uQ HB1⟩|exact ⟨rfl,uQ HB0⟩
      ·rw[if_neg h0,if_neg h1,if_pos (by simp)]
       go_wp2_with (first
        |(go_at_call 162;refine (uQ TX _).mono ?_;rintro e w1 ⟨rfl,hk⟩;obtain ⟨⟨d0,d1,d2,d3,d4⟩,HT1,HB1⟩:=uQ PC w1 hk;clear hk PC)
        |(go_at_call 163;first|(refine (uQ SG _ (uQ HT1)).mono ?_;rintro e w2 ⟨rfl,hw2⟩;subst hw2;clear HT1)|(refine (uQ SG _ (uQ HT0)).mono ?_;rintro e w2 ⟨rfl,hw2⟩;subst hw2;clear HT0))
        |(go_at_call 164;refine (uQ FK _).mono ?_;rintro e w3 ⟨rfl,hw3⟩;subst hw3))
       go_ret
       first|exact ⟨rfl,uQ HB1⟩|exact ⟨rfl,uQ HB0⟩
    ·rw[if_neg h0,if_pos (by simp)]
     go_wp2_with (first
      |(go_at_call 162;refine (uQ TX _).mono ?_;rintro e w1 ⟨rfl,hk⟩;obtain ⟨⟨d0,d1,d2,d3,d4⟩,HT1,HB1⟩:=uQ PC w1 hk;clear hk PC)
      |(go_at_call 163;first|(refine (uQ SG _ (uQ HT1)).mono ?_;rintro e w2 ⟨rfl,hw2⟩;subst hw2;clear HT1)|(refine (uQ SG _ (uQ HT0)).mono ?_;rintro e w2 ⟨rfl,hw2⟩;subst hw2;clear HT0))
      |(go_at_call 164;refine (uQ FK _).mono ?_;rintro e w3 ⟨rfl,hw3⟩;subst hw3))
     go_ret
     first|exact ⟨rfl,uQ HB1⟩|exact ⟨rfl,uQ HB0⟩
def opsV:Array Value:=#[.string ⟨#[]⟩, .int .i64 0, .int .u64 0, .int .i64 0, .nilFunc, .string ⟨#[]⟩, .int .i64 0, .int .u64 0, .int .i64 0, .nilFunc, .string ⟨#[]⟩, .int .i64 0, .int .u64 0, .int .i64 0, .nilFunc, .string ⟨#[]⟩, .int .i64 0, .int .u64 0, .int .i64 0, .nilFunc, .string ⟨#[43]⟩, .int .i64 2, .int .u64 2, .int .i64 1, .func (.func 134) #[] #[], .string ⟨#[45]⟩, .int .i64 2, .int .u64 2, .int .i64 1, .func (.func 135) #[] #[], .string ⟨#[42]⟩, .int .i64 2, .int .u64 2, .int .i64 1, .func (.func 136) #[] #[], .string ⟨#[60]⟩, .int .i64 2, .int .u64 2, .int .i64 3, .func (.func 137) #[] #[], .string ⟨#[60,61]⟩, .int .i64 2, .int .u64 2, .int .i64 3, .func (.func 138) #[] #[], .string ⟨#[61,61]⟩, .int .i64 2, .int .u64 6, .int .i64 3, .func (.func 139) #[] #[], .string ⟨#[33,61]⟩, .int .i64 2, .int .u64 6, .int .i64 3, .func (.func 140) #[] #[], .string ⟨#[97,110,100]⟩, .int .i64 2, .int .u64 8, .int .i64 3, .func (.func 141) #[] #[], .string ⟨#[111,114]⟩, .int .i64 2, .int .u64 8, .int .i64 3, .func (.func 142) #[] #[], .string ⟨#[110,111,116]⟩, .int .i64 1, .int .u64 8, .int .i64 3, .func (.func 143) #[] #[]]
theorem q0x:opsV.size=70:=rfl
theorem q3N:opsV.all (·.oneCell')=true:=by kernel_rfl
theorem q3I:(Tryz.prog.info? 214).map (·.size)=some 70:=by kernel_rfl
theorem q1B (w:World):Calls Tryz.prog 120 #[] w fun e w'=>e= .returned (.agg opsV)/\Kp [] w w':=by
 go_enter Tryz.func120,Tryz.ntmps120
 go_wp2
 generalize hX:Array.setIfInBounds _ 69 _=X
 obtain rfl:X=opsV:=hX.symm.trans (by kernel_rfl)
 clear hX
 generalize hY:List.set _ 69 _=Y
 obtain rfl:Y=opsV.toList:=hY.symm.trans (by kernel_rfl)
 clear hY
 rw[run_storeCells_new w _ _ opsV q3I (by kernel_rfl) q3N]
 simp only[Result.andThen_ok]
 rw[Oper.upon_skip]
 go_wp2
 exact bodyPost_ret (results_cell_row Tryz.results120 _ _ w.heap.size 214 opsV (0,0) _ rfl (heap_alloc_new w _) Tryz.underlying214 rfl q3I) rfl ⟨rfl,Kp.alloc _ _⟩
def ofO (k:Int):Int:=if k<4 then 0 else if k<=8 then 2 else if k<=10 then 6 else if k<=13 then 8 else 0
def isO (k:Int):Int:=if k<4 then 0 else if k<=6 then 1 else if k<=13 then 3 else 0
def fnO (k:Int):Value:=if k=4 then .func (.func 134) #[] #[] else if k=5 then .func (.func 135) #[] #[] else if k=6 then .func (.func 136) #[] #[] else if k=7 then .func (.func 137) #[] #[] else if k=8 then .func (.func 138) #[] #[] else if k=9 then .func (.func 139) #[] #[] else if k=10 then .func (.func 140) #[] #[] else if k=11 then .func (.func 141) #[] #[] else if k=12 then .func (.func 142) #[] #[] else if k=13 then .func (.func 143) #[] #[] else .nilFunc
def rowC (k:Int):Array Value:=#[.string (txt (sgO k)), .int .i64 (sds k:Nat), .int .u64 (ofO k), .int .i64 (isO k),fnO k]
theorem q6i: ∀k:Fin 14,opsV[k.val * 5]?=some (.string (txt (sgO (k.val:Int))))/\opsV[k.val * 5+1]?=some (.int .i64 (sds (k.val:Int):Nat))/\opsV[k.val * 5+2]?=some (.int .u64 (ofO (k.val:Int)))/\opsV[k.val * 5+3]?=some (.int .i64 (isO (k.val:Int)))/\opsV[k.val * 5+4]?=some (fnO (k.val:Int))
 |⟨0,_⟩=>⟨rfl,rfl,rfl,rfl,rfl⟩
 |⟨1,_⟩=>⟨rfl,rfl,rfl,rfl,rfl⟩
 |⟨2,_⟩=>⟨rfl,rfl,rfl,rfl,rfl⟩
 |⟨3,_⟩=>⟨rfl,rfl,rfl,rfl,rfl⟩
 |⟨4,_⟩=>⟨rfl,rfl,rfl,rfl,rfl⟩
 |⟨5,_⟩=>⟨rfl,rfl,rfl,rfl,rfl⟩
 |⟨6,_⟩=>⟨rfl,rfl,rfl,rfl,rfl⟩
 |⟨7,_⟩=>⟨rfl,rfl,rfl,rfl,rfl⟩
 |⟨8,_⟩=>⟨rfl,rfl,rfl,rfl,rfl⟩
 |⟨9,_⟩=>⟨rfl,rfl,rfl,rfl,rfl⟩
 |⟨10,_⟩=>⟨rfl,rfl,rfl,rfl,rfl⟩
 |⟨11,_⟩=>⟨rfl,rfl,rfl,rfl,rfl⟩
 |⟨12,_⟩=>⟨rfl,rfl,rfl,rfl,rfl⟩
 |⟨13,_⟩=>⟨rfl,rfl,rfl,rfl,rfl⟩
theorem q57 {k:Int}(h:k<0\/14<=k):rowC k=#[.string ⟨#[]⟩, .int .i64 0, .int .u64 0, .int .i64 0, .nilFunc]:=by
 have e1:sgO k=[]:=by unfold sgO;repeat rw[if_neg (by omega)]
 have e2:sds k=0:=by unfold sds;rw[if_neg (by omega),if_neg (by omega)]
 have e3:ofO k=0:=by unfold ofO;split;rfl;rw[if_neg (by omega),if_neg (by omega),if_neg (by omega)]
 have e4:isO k=0:=by unfold isO;split;rfl;rw[if_neg (by omega),if_neg (by omega)]
 have e5:fnO k= .nilFunc:=by unfold fnO;repeat rw[if_neg (by omega)]
 unfold rowC
 rw[e1,e2,e3,e4,e5]
 rfl
theorem q1U (k:Int):(fnO k).oneCell'=true:=by
 unfold fnO
 repeat' split
 all_goals rfl
theorem qdh:(Tryz.prog.info? 212).map (·.size)=some 5:=by kernel_rfl
theorem q4J {w:World}{S:ByteArray}{N O I:Int}{F:Value}{tmps:Array Value}(ht:tmps.getD 4 undef= .pointer (some ⟨w.heap.size,0,none⟩)):(results Tryz.f122 tmps).run Tryz.prog (w.alloc (.cells #[.string S, .int .i64 N, .int .u64 O, .int .i64 I,F] 212))= .ok (.agg #[.string S, .int .i64 N, .int .u64 O, .int .i64 I,F]) (w.alloc (.cells #[.string S, .int .i64 N, .int .u64 O, .int .i64 I,F] 212)):=
 results_cell_row Tryz.results122 _ _ w.heap.size 212 _ (0,0) _ ht (heap_alloc_new w _) Tryz.underlying212 rfl qdh
theorem q80 (g:Nat)(k:Int)(w:World)(hg:CBox g opsV 214 w):Calls Tryz.prog 122 #[.pointer (some ⟨g,0,none⟩), .int .i64 k] w fun e w'=>e= .returned (.agg (rowC k))/\Kp [] w w':=by
 by_cases h0:k<0
 ·rw[q57 (Or.inl h0)]
  clear hg
  go_enter Tryz.func122,Tryz.ntmps122
  go_wp2
  exact bodyPost_ret (v:= .agg #[.string ⟨#[]⟩, .int .i64 0, .int .u64 0, .int .i64 0, .nilFunc]) (q4J (w:=w) rfl) rfl ⟨rfl,Kp.alloc _ _⟩
 ·by_cases h1:14<=k
  ·rw[q57 (Or.inr h1)]
   clear hg
   go_enter Tryz.func122,Tryz.ntmps122
   go_wp2
   exact bodyPost_ret (v:= .agg #[.string ⟨#[]⟩, .int .i64 0, .int .u64 0, .int .i64 0, .nilFunc]) (q4J (w:=w) rfl) rfl ⟨rfl,Kp.alloc _ _⟩
  ·obtain ⟨n,rfl⟩: ∃n:Nat,k=(n:Int):=⟨k.toNat,by omega⟩
   obtain ⟨c0,c1,c2,c3,c4⟩:=q6i ⟨n,by omega⟩
   have hg2:=hg.kp (Kp.alloc w (.cells #[.string ⟨#[]⟩, .int .i64 0, .int .u64 0, .int .i64 0, .nilFunc] 212)) (by simp)
   have d0:=hg2.cell c0
   have d1:=hg2.cell c1
   have d2:=hg2.cell c2
   have d3:=hg2.cell c3
   have d4:=hg2.cell c4
   have hone:=q1U (n:Int)
   unfold rowC
   generalize fnO (n:Int)=F at *
   generalize txt (sgO (n:Int))=S at *
   generalize sds (n:Int)=N at *
   generalize ofO (n:Int)=O at *
   generalize isO (n:Int)=I at *
   have st: ∀W a m,(store a F m).run Tryz.prog W=stored Tryz.prog W a F m:=fun W a m=>run_store Tryz.prog W a F m hone
   clear hg hg2 c0 c1 c2 c3 c4 hone
   dsimp only at *
   go_enter Tryz.func122,Tryz.ntmps122
   go_wp2
   exact bodyPost_ret (v:= .agg #[.string S, .int .i64 (N:Int), .int .u64 O, .int .i64 I,F]) (q4J (w:=w) rfl) rfl ⟨rfl,Kp.alloc _ _⟩
def fitB (k a b:Int):Bool:=decide (opK k a b≠0)
theorem qdx (k a b:Int):opK k a b=if fitB k a b then isO k else 0:=by
 unfold fitB
 by_cases h:opK k a b=0
 ·simp[h]
 ·simp only[ne_eq,h,not_false_eq_true,decide_true,if_true]
  unfold opK at h ⊢
  unfold isO
  repeat' split at h
  all_goals first|(exact absurd rfl h)|skip
  all_goals (repeat' split)
  all_goals first|rfl|omega
theorem q1t {k a b:Int}(h:a≠b)(hk:k≠13):fitB k a b=false:=by
 unfold fitB opK
 repeat' split
 all_goals first|rfl|(exfalso;omega)
theorem q0w:bits .and .u64 0 1=0/\bits .and .u64 1 1=1/\bits .and .u64 2 1=0/\bits .and .u64 3 1=1/\bits .and .u64 4 1=0/\bits .and .u64 6 1=0/\bits .and .u64 8 1=0:=by decide
theorem qec (S:ByteArray)(F:Value)(a b:Int)(w:World)(ha:0<=a)(ha2:a<=3):Calls Tryz.prog 133 #[.agg #[.string S, .int .i64 2, .int .u64 2, .int .i64 1,F], .int .i64 a, .int .i64 b] w fun e w'=>e= .returned (.bool (fitB 4 a b))/\Kp [] w w':=by
 obtain ⟨t0,t1,t2,t3,t4,t6,t8⟩:=q0w
 by_cases hab:a=b
 ·subst hab
  rcases (show a=0\/a=1\/a=2\/a=3 by omega)with rfl|rfl|rfl|rfl
  all_goals (
   go_enter Tryz.func133,Tryz.ntmps133
   go_wp2
   go_ret
   exact ⟨rfl,Kp.alloc _ _⟩)
 ·rw[q1t hab (by decide)]
  have q1:(a==b)=false:=beq_eq_false_iff_ne.2 hab
  rcases (show a=0\/a=1\/a=2\/a=3 by omega)with rfl|rfl|rfl|rfl
  all_goals (
   go_enter Tryz.func133,Tryz.ntmps133
   go_wp2
   go_ret
   exact ⟨rfl,Kp.alloc _ _⟩)
theorem qed (S:ByteArray)(F:Value)(a b:Int)(w:World)(ha:0<=a)(ha2:a<=3):Calls Tryz.prog 133 #[.agg #[.string S, .int .i64 2, .int .u64 2, .int .i64 1,F], .int .i64 a, .int .i64 b] w fun e w'=>e= .returned (.bool (fitB 5 a b))/\Kp [] w w':=by
 obtain ⟨t0,t1,t2,t3,t4,t6,t8⟩:=q0w
 by_cases hab:a=b
 ·subst hab
  rcases (show a=0\/a=1\/a=2\/a=3 by omega)with rfl|rfl|rfl|rfl
  all_goals (
   go_enter Tryz.func133,Tryz.ntmps133
   go_wp2
   go_ret
   exact ⟨rfl,Kp.alloc _ _⟩)
 ·rw[q1t hab (by decide)]
  have q1:(a==b)=false:=beq_eq_false_iff_ne.2 hab
  rcases (show a=0\/a=1\/a=2\/a=3 by omega)with rfl|rfl|rfl|rfl
  all_goals (
   go_enter Tryz.func133,Tryz.ntmps133
   go_wp2
   go_ret
   exact ⟨rfl,Kp.alloc _ _⟩)
theorem qee (S:ByteArray)(F:Value)(a b:Int)(w:World)(ha:0<=a)(ha2:a<=3):Calls Tryz.prog 133 #[.agg #[.string S, .int .i64 2, .int .u64 2, .int .i64 1,F], .int .i64 a, .int .i64 b] w fun e w'=>e= .returned (.bool (fitB 6 a b))/\Kp [] w w':=by
 obtain ⟨t0,t1,t2,t3,t4,t6,t8⟩:=q0w
 by_cases hab:a=b
 ·subst hab
  rcases (show a=0\/a=1\/a=2\/a=3 by omega)with rfl|rfl|rfl|rfl
  all_goals (
   go_enter Tryz.func133,Tryz.ntmps133
   go_wp2
   go_ret
   exact ⟨rfl,Kp.alloc _ _⟩)
 ·rw[q1t hab (by decide)]
  have q1:(a==b)=false:=beq_eq_false_iff_ne.2 hab
  rcases (show a=0\/a=1\/a=2\/a=3 by omega)with rfl|rfl|rfl|rfl
  all_goals (
   go_enter Tryz.func133,Tryz.ntmps133
   go_wp2
   go_ret
   exact ⟨rfl,Kp.alloc _ _⟩)
theorem qef (S:ByteArray)(F:Value)(a b:Int)(w:World)(ha:0<=a)(ha2:a<=3):Calls Tryz.prog 133 #[.agg #[.string S, .int .i64 2, .int .u64 2, .int .i64 3,F], .int .i64 a, .int .i64 b] w fun e w'=>e= .returned (.bool (fitB 7 a b))/\Kp [] w w':=by
 obtain ⟨t0,t1,t2,t3,t4,t6,t8⟩:=q0w
 by_cases hab:a=b
 ·subst hab
  rcases (show a=0\/a=1\/a=2\/a=3 by omega)with rfl|rfl|rfl|rfl
  all_goals (
   go_enter Tryz.func133,Tryz.ntmps133
   go_wp2
   go_ret
   exact ⟨rfl,Kp.alloc _ _⟩)
 ·rw[q1t hab (by decide)]
  have q1:(a==b)=false:=beq_eq_false_iff_ne.2 hab
  rcases (show a=0\/a=1\/a=2\/a=3 by omega)with rfl|rfl|rfl|rfl
  all_goals (
   go_enter Tryz.func133,Tryz.ntmps133
   go_wp2
   go_ret
   exact ⟨rfl,Kp.alloc _ _⟩)
theorem qeg (S:ByteArray)(F:Value)(a b:Int)(w:World)(ha:0<=a)(ha2:a<=3):Calls Tryz.prog 133 #[.agg #[.string S, .int .i64 2, .int .u64 2, .int .i64 3,F], .int .i64 a, .int .i64 b] w fun e w'=>e= .returned (.bool (fitB 8 a b))/\Kp [] w w':=by
 obtain ⟨t0,t1,t2,t3,t4,t6,t8⟩:=q0w
 by_cases hab:a=b
 ·subst hab
  rcases (show a=0\/a=1\/a=2\/a=3 by omega)with rfl|rfl|rfl|rfl
  all_goals (
   go_enter Tryz.func133,Tryz.ntmps133
   go_wp2
   go_ret
   exact ⟨rfl,Kp.alloc _ _⟩)
 ·rw[q1t hab (by decide)]
  have q1:(a==b)=false:=beq_eq_false_iff_ne.2 hab
  rcases (show a=0\/a=1\/a=2\/a=3 by omega)with rfl|rfl|rfl|rfl
  all_goals (
   go_enter Tryz.func133,Tryz.ntmps133
   go_wp2
   go_ret
   exact ⟨rfl,Kp.alloc _ _⟩)
theorem qeh (S:ByteArray)(F:Value)(a b:Int)(w:World)(ha:0<=a)(ha2:a<=3):Calls Tryz.prog 133 #[.agg #[.string S, .int .i64 2, .int .u64 6, .int .i64 3,F], .int .i64 a, .int .i64 b] w fun e w'=>e= .returned (.bool (fitB 9 a b))/\Kp [] w w':=by
 obtain ⟨t0,t1,t2,t3,t4,t6,t8⟩:=q0w
 by_cases hab:a=b
 ·subst hab
  rcases (show a=0\/a=1\/a=2\/a=3 by omega)with rfl|rfl|rfl|rfl
  all_goals (
   go_enter Tryz.func133,Tryz.ntmps133
   go_wp2
   go_ret
   exact ⟨rfl,Kp.alloc _ _⟩)
 ·rw[q1t hab (by decide)]
  have q1:(a==b)=false:=beq_eq_false_iff_ne.2 hab
  rcases (show a=0\/a=1\/a=2\/a=3 by omega)with rfl|rfl|rfl|rfl
  all_goals (
   go_enter Tryz.func133,Tryz.ntmps133
   go_wp2
   go_ret
   exact ⟨rfl,Kp.alloc _ _⟩)
theorem qcQ (S:ByteArray)(F:Value)(a b:Int)(w:World)(ha:0<=a)(ha2:a<=3):Calls Tryz.prog 133 #[.agg #[.string S, .int .i64 2, .int .u64 6, .int .i64 3,F], .int .i64 a, .int .i64 b] w fun e w'=>e= .returned (.bool (fitB 10 a b))/\Kp [] w w':=by
 obtain ⟨t0,t1,t2,t3,t4,t6,t8⟩:=q0w
 by_cases hab:a=b
 ·subst hab
  rcases (show a=0\/a=1\/a=2\/a=3 by omega)with rfl|rfl|rfl|rfl
  all_goals (
   go_enter Tryz.func133,Tryz.ntmps133
   go_wp2
   go_ret
   exact ⟨rfl,Kp.alloc _ _⟩)
 ·rw[q1t hab (by decide)]
  have q1:(a==b)=false:=beq_eq_false_iff_ne.2 hab
  rcases (show a=0\/a=1\/a=2\/a=3 by omega)with rfl|rfl|rfl|rfl
  all_goals (
   go_enter Tryz.func133,Tryz.ntmps133
   go_wp2
   go_ret
   exact ⟨rfl,Kp.alloc _ _⟩)
theorem qcR (S:ByteArray)(F:Value)(a b:Int)(w:World)(ha:0<=a)(ha2:a<=3):Calls Tryz.prog 133 #[.agg #[.string S, .int .i64 2, .int .u64 8, .int .i64 3,F], .int .i64 a, .int .i64 b] w fun e w'=>e= .returned (.bool (fitB 11 a b))/\Kp [] w w':=by
 obtain ⟨t0,t1,t2,t3,t4,t6,t8⟩:=q0w
 by_cases hab:a=b
 ·subst hab
  rcases (show a=0\/a=1\/a=2\/a=3 by omega)with rfl|rfl|rfl|rfl
  all_goals (
   go_enter Tryz.func133,Tryz.ntmps133
   go_wp2
   go_ret
   exact ⟨rfl,Kp.alloc _ _⟩)
 ·rw[q1t hab (by decide)]
  have q1:(a==b)=false:=beq_eq_false_iff_ne.2 hab
  rcases (show a=0\/a=1\/a=2\/a=3 by omega)with rfl|rfl|rfl|rfl
  all_goals (
   go_enter Tryz.func133,Tryz.ntmps133
   go_wp2
   go_ret
   exact ⟨rfl,Kp.alloc _ _⟩)
theorem qcS (S:ByteArray)(F:Value)(a b:Int)(w:World)(ha:0<=a)(ha2:a<=3):Calls Tryz.prog 133 #[.agg #[.string S, .int .i64 2, .int .u64 8, .int .i64 3,F], .int .i64 a, .int .i64 b] w fun e w'=>e= .returned (.bool (fitB 12 a b))/\Kp [] w w':=by
 obtain ⟨t0,t1,t2,t3,t4,t6,t8⟩:=q0w
 by_cases hab:a=b
 ·subst hab
  rcases (show a=0\/a=1\/a=2\/a=3 by omega)with rfl|rfl|rfl|rfl
  all_goals (
   go_enter Tryz.func133,Tryz.ntmps133
   go_wp2
   go_ret
   exact ⟨rfl,Kp.alloc _ _⟩)
 ·rw[q1t hab (by decide)]
  have q1:(a==b)=false:=beq_eq_false_iff_ne.2 hab
  rcases (show a=0\/a=1\/a=2\/a=3 by omega)with rfl|rfl|rfl|rfl
  all_goals (
   go_enter Tryz.func133,Tryz.ntmps133
   go_wp2
   go_ret
   exact ⟨rfl,Kp.alloc _ _⟩)
theorem qcT (S:ByteArray)(F:Value)(a b:Int)(w:World)(ha:0<=a)(ha2:a<=3)(hb:b=0):Calls Tryz.prog 133 #[.agg #[.string S, .int .i64 1, .int .u64 8, .int .i64 3,F], .int .i64 a, .int .i64 b] w fun e w'=>e= .returned (.bool (fitB 13 a b))/\Kp [] w w':=by
 obtain ⟨t0,t1,t2,t3,t4,t6,t8⟩:=q0w
 subst hb
 rcases (show a=0\/a=1\/a=2\/a=3 by omega)with rfl|rfl|rfl|rfl
 all_goals (
  go_enter Tryz.func133,Tryz.ntmps133
  go_wp2
  go_ret
  exact ⟨rfl,Kp.alloc _ _⟩)
theorem qb5 (S:ByteArray)(F:Value)(k a b:Int)(w:World)(hk:4<=k)(hk2:k<=13)(ha:0<=a)(ha2:a<=3)(hb:k=13->b=0):Calls Tryz.prog 133 #[.agg #[.string S, .int .i64 (sds k:Nat), .int .u64 (ofO k), .int .i64 (isO k),F], .int .i64 a, .int .i64 b] w fun e w'=>e= .returned (.bool (fitB k a b))/\Kp [] w w':=by
 rcases (show k=4\/k=5\/k=6\/k=7\/k=8\/k=9\/k=10\/k=11\/k=12\/k=13 by omega)with rfl|rfl|rfl|rfl|rfl|rfl|rfl|rfl|rfl|rfl
 ·exact qec S F a b w ha ha2
 ·exact qed S F a b w ha ha2
 ·exact qee S F a b w ha ha2
 ·exact qef S F a b w ha ha2
 ·exact qeg S F a b w ha ha2
 ·exact qeh S F a b w ha ha2
 ·exact qcQ S F a b w ha ha2
 ·exact qcR S F a b w ha ha2
 ·exact qcS S F a b w ha ha2
 ·exact qcT S F a b w ha ha2 (hb rfl)
def Sh.ok (a:Sh):Prop:=(0<=a.kd/\a.kd<=3)/\0<=a.dp/\a.dp<=1000000
def q5r {α:Type}(n:Nat)(a b:α):List α:=if n=0 then [] else if n=1 then [a] else [a,b]
theorem qe2 {p:Pt}{a b:Sh}(h:sds p.kd≠0)(hb:sds p.kd=1->b=⟨0,0⟩):shp p (q5r (sds p.kd) a b)=⟨if q1p p then opK p.kd a.kd b.kd else 0,1+max a.dp b.dp⟩:=by
 have h2:=q22 p.kd
 unfold q5r
 rcases (show sds p.kd=1\/sds p.kd=2 by omega)with e|e
 ·rw[e,hb e,if_neg (by omega),if_pos rfl]
  rfl
 ·rw[e,if_neg (by omega),if_neg (by omega)]
  rfl
theorem q1M:(Tryz.prog.info? 205).map (·.size)=some 2:=by kernel_rfl
theorem CBox.cells2 {g:Nat}{a b:Value}{t:TypeId}{w:World}(h:CBox g #[a,b] t w):w.cell? ⟨g,0,none⟩=some a/\w.cell? ⟨g,1,none⟩=some b:=⟨h.cell rfl,h.cell rfl⟩
theorem qeN {w w1:World}{A B C:Obj}{a b:Value}{t:TypeId}(hb:Below ((((w.alloc A).alloc B).alloc C).alloc (.cells #[a,b] t)).heap.size ((((w.alloc A).alloc B).alloc C).alloc (.cells #[a,b] t)) w1):CBox (w.heap.size+3) #[a,b] t w1:=by
 have h:=CBox.new (((w.alloc A).alloc B).alloc C) #[a,b] t
 rw[show (((w.alloc A).alloc B).alloc C).heap.size=w.heap.size+3 by simp]at h
 unfold CBox
 rw[hb.block _ (by simp)]
 exact h
theorem qbU {w w1:World}{A B C D:Obj}(hb:Below ((((w.alloc A).alloc B).alloc C).alloc D).heap.size ((((w.alloc A).alloc B).alloc C).alloc D) w1):Below w.heap.size w w1:=
 (((((Below.refl _ _).alloc (zM _) _).alloc (by simp) _).alloc (by simp;omega) _).alloc (by simp;omega) _).trans (hb.mono (by simp;omega))
theorem q6D (p:Pt)(a b:Sh)(w:World)(hT:TbE w)(hf:p.fit)(h0:sds p.kd=0):Calls Tryz.prog 119 #[p.v, .agg (rowC p.kd), .agg #[.int .i64 a.kd, .int .i64 a.dp, .int .i64 b.kd, .int .i64 b.dp]] w fun e w'=>e= .returned (.agg #[.int .i64 (lfK p), .int .i64 1])/\Below w.heap.size w w':=by
 have LK:=hZq (fun W hW=>q64 p W hW hf)
 unfold rowC
 rw[h0]
 have hone:=q1U p.kd
 generalize fnO p.kd=F at *
 generalize txt (sgO p.kd)=S at *
 generalize ofO p.kd=O at *
 generalize isO p.kd=I at *
 generalize lfK p=K at *
 clear hf h0
 unfold Pt.v at *
 have HT:=hZq hT
 clear hT
 go_enter Tryz.func119,Tryz.ntmps119
 go_wp2_with fail
 refine (uQ LK _ ((((uQ HT).alloc _).alloc _).alloc _ |>.alloc _)).mono ?_
 rintro e w1 ⟨rfl,hb⟩
 have hbx:=qeN hb
 obtain ⟨c0,c1⟩:=hbx.cells2
 have z0:=hbx.froz 0
 have z1:=hbx.froz 1
 have HE:Hid (CBox (w.heap.size+3) #[.int .i64 K, .int .i64 1] 205 ((w1.setCell ⟨w.heap.size+3,0,none⟩ (.int .i64 K)).setCell ⟨w.heap.size+3,1,none⟩ (.int .i64 1))/\Below w.heap.size w ((w1.setCell ⟨w.heap.size+3,0,none⟩ (.int .i64 K)).setCell ⟨w.heap.size+3,1,none⟩ (.int .i64 1))):=hZq ⟨(hbx.set 0 _).set 1 _,((qbU hb).setCell (p:=⟨w.heap.size+3,0,none⟩) (by show w.heap.size<=w.heap.size+3;omega) _).setCell (p:=⟨w.heap.size+3,1,none⟩) (by show w.heap.size<=w.heap.size+3;omega) _⟩
 clear hb hbx
 go_wp2
 obtain ⟨hx,hy⟩:=uQ HE
 exact bodyPost_ret (results_cell_row Tryz.results119 _ _ (w.heap.size+3) 205 _ (0,0) _ rfl hx Tryz.underlying205 rfl q1M) rfl ⟨rfl,hy⟩
theorem qcv (w:World)(A B C D X:Obj):(((((w.alloc A).alloc B).alloc C).alloc X).alloc D).heap[w.heap.size+1+1+1]?=some X:=by
 rw[Below.heap_alloc _ _ _ (by simp)]
 have:=heap_alloc_new (((w.alloc A).alloc B).alloc C) X
 rwa [show (((w.alloc A).alloc B).alloc C).heap.size=w.heap.size+1+1+1 by simp]at this
theorem qaf (w:World)(A B C D X:Obj):Below w.heap.size w (((((w.alloc A).alloc B).alloc C).alloc X).alloc D):=
 (((((Below.refl _ _).alloc (zM _) _).alloc (by simp) _).alloc (by simp;omega) _).alloc (by simp;omega) _).alloc (by simp;omega) _
theorem qdK {w W:World}{A C:Obj}{o0 o1 o2 o3 o4 r0 r1 s0 s1:Value}{t t' t'':TypeId}(hk:Kp [] (((((w.alloc A).alloc (.cells #[o0,o1,o2,o3,o4] t)).alloc C).alloc (.cells #[r0,r1] t')).alloc (.cells #[s0,s1] t'')) W):
  W.cell? ⟨w.heap.size+1,3,none⟩=some o3/\W.cell? ⟨w.heap.size+1+1+1,0,none⟩=some r0/\W.cell? ⟨w.heap.size+1+1+1,1,none⟩=some r1/\W.cell? ⟨w.heap.size+1+1+1+1,0,none⟩=some s0/\W.cell? ⟨w.heap.size+1+1+1+1,1,none⟩=some s1/\(∀i,W.frozen? ⟨w.heap.size+1+1+1,i,none⟩=false)/\(∀i,W.frozen? ⟨w.heap.size+1+1+1+1,i,none⟩=false)/\w.heap.size+1+1+1+1<W.heap.size/\Hid (CBox (w.heap.size+1+1+1) #[r0,r1] t' W/\CBox (w.heap.size+1+1+1+1) #[s0,s1] t'' W/\Below w.heap.size w W):=by
 have hb:=hk.below (zM _) (by simp)
 have h1:CBox (w.heap.size+1) #[o0,o1,o2,o3,o4] t W:=by
  unfold CBox
  rw[hb.block _ (by simp),Below.heap_alloc _ _ _ (by simp),Below.heap_alloc _ _ _ (by simp),Below.heap_alloc _ _ _ (by simp)]
  have:=heap_alloc_new (w.alloc A) (.cells #[o0,o1,o2,o3,o4] t)
  rwa [show (w.alloc A).heap.size=w.heap.size+1 by simp]at this
 have h2:CBox (w.heap.size+1+1+1) #[r0,r1] t' W:=by
  unfold CBox
  rw[hb.block _ (by simp)]
  exact qcv w A _ C _ _
 have h3:CBox (w.heap.size+1+1+1+1) #[s0,s1] t'' W:=by
  unfold CBox
  rw[hb.block _ (by simp)]
  have:=heap_alloc_new ((((w.alloc A).alloc (.cells #[o0,o1,o2,o3,o4] t)).alloc C).alloc (.cells #[r0,r1] t')) (.cells #[s0,s1] t'')
  rwa [show ((((w.alloc A).alloc (.cells #[o0,o1,o2,o3,o4] t)).alloc C).alloc (.cells #[r0,r1] t')).heap.size=w.heap.size+1+1+1+1 by simp]at this
 refine ⟨h1.cell rfl,h2.cell rfl,h2.cell rfl,h3.cell rfl,h3.cell rfl,h2.froz,h3.froz,?_,hZq ⟨h2,h3,(qaf w _ _ _ _ _).trans (hb.mono (by simp;omega))⟩⟩
 have:=hk.size
 simp at this
 omega
theorem q4N {w W:World}{r0 r1 s0 s1:Value}{t t':TypeId}(h:CBox (w.heap.size+1+1+1) #[r0,r1] t W/\CBox (w.heap.size+1+1+1+1) #[s0,s1] t' W/\Below w.heap.size w W)(x y:Int):
  CBox (w.heap.size+1+1+1) #[.int .i64 x, .int .i64 y] t ((W.setCell ⟨w.heap.size+1+1+1,0,none⟩ (.int .i64 x)).setCell ⟨w.heap.size+1+1+1,1,none⟩ (.int .i64 y))/\Below w.heap.size w ((W.setCell ⟨w.heap.size+1+1+1,0,none⟩ (.int .i64 x)).setCell ⟨w.heap.size+1+1+1,1,none⟩ (.int .i64 y)):=
 ⟨(h.1.set 0 _).set 1 _,(h.2.2.setCell (p:=⟨w.heap.size+1+1+1,0,none⟩) (by show w.heap.size<=w.heap.size+1+1+1;omega) _).setCell (p:=⟨w.heap.size+1+1+1,1,none⟩) (by show w.heap.size<=w.heap.size+1+1+1;omega) _⟩
theorem q82 {w W:World}{r0 r1 s0 s1:Value}{t t':TypeId}(h:CBox (w.heap.size+1+1+1) #[r0,r1] t W/\CBox (w.heap.size+1+1+1+1) #[s0,s1] t' W/\Below w.heap.size w W)(z x y:Int):
  CBox (w.heap.size+1+1+1) #[.int .i64 x, .int .i64 y] t (((W.setCell ⟨w.heap.size+1+1+1+1,0,none⟩ (.int .i64 z)).setCell ⟨w.heap.size+1+1+1,0,none⟩ (.int .i64 x)).setCell ⟨w.heap.size+1+1+1,1,none⟩ (.int .i64 y))/\Below w.heap.size w (((W.setCell ⟨w.heap.size+1+1+1+1,0,none⟩ (.int .i64 z)).setCell ⟨w.heap.size+1+1+1,0,none⟩ (.int .i64 x)).setCell ⟨w.heap.size+1+1+1,1,none⟩ (.int .i64 y)):=
 q4N (W:=W.setCell ⟨w.heap.size+1+1+1+1,0,none⟩ (.int .i64 z)) ⟨h.1.kp (Kp.set _ _ _ _) (by simp),h.2.1.set 0 _,h.2.2.setCell (p:=⟨w.heap.size+1+1+1+1,0,none⟩) (by show w.heap.size<=w.heap.size+1+1+1+1;omega) _⟩ x y
theorem q8Q (p:Pt)(a b:Sh)(w:World)(h4:4<=p.kd)(h13:p.kd<=13)(ha:a.ok)(hb:b.ok)(hz:p.kd=13->b=⟨0,0⟩):Calls Tryz.prog 119 #[p.v, .agg (rowC p.kd), .agg #[.int .i64 a.kd, .int .i64 a.dp, .int .i64 b.kd, .int .i64 b.dp]] w fun e w'=>e= .returned (.agg #[.int .i64 (if q1p p then opK p.kd a.kd b.kd else 0), .int .i64 (1+max a.dp b.dp)])/\Below w.heap.size w w':=by
 have FT:=hZq (fun W=>qb5 (txt (sgO p.kd)) (fnO p.kd) p.kd a.kd b.kd W h4 h13 ha.1.1 ha.1.2 (fun e=>by rw[hz e]))
 have q:=fun W=>eqP 9998 p (opP p.kd) W
 rw[eqPk]at q
 rw[qdx]
 have hone:=q1U p.kd
 have hs0:((sds p.kd:Nat):Int)≠0:=by
  unfold sds
  split
  ·omega
  ·rw[if_pos (by omega)];omega
 unfold rowC
 generalize fnO p.kd=F at *
 generalize txt (sgO p.kd)=S at *
 generalize ofO p.kd=O at *
 generalize isO p.kd=I at *
 generalize sds p.kd=N at *
 generalize fitB p.kd a.kd b.kd=fb at *
 generalize q1p p=bp at *
 obtain ⟨ak,ad⟩:=a
 obtain ⟨bk,bd⟩:=b
 obtain ⟨_,ha1,ha2⟩:=ha
 obtain ⟨_,hb1,hb2⟩:=hb
 clear hz h4 h13
 obtain ⟨kd,n,s,st,fl⟩:=p
 unfold Pt.v opP txt at *
 dsimp only at *
 have g0:((N:Int)==0)=false:=beq_eq_false_iff_ne.2 hs0
 clear hs0
 cases bp with
 |false=>
  go_enter Tryz.func119,Tryz.ntmps119
  go_wp2
  all_goals exact bodyPost_ret (results_cell_row Tryz.results119 _ _ (w.heap.size+1+1+1) 205 _ (0,0) _ rfl (qcv w _ _ _ _ _) Tryz.underlying205 rfl q1M) rfl ⟨rfl,qaf w _ _ _ _ _⟩
 |true=>
  have HL:=hZq (fun W1 (hk:Kp [] (((((w.alloc (.cells #[.int .i64 kd, .int .i64 n, .string s, .string st, .int .i64 fl] 178)).alloc (.cells #[.string S, .int .i64 (N:Int), .int .u64 O, .int .i64 I,F] 212)).alloc (.cells #[.int .i64 ak, .int .i64 ad, .int .i64 bk, .int .i64 bd] 230)).alloc (.cells #[.int .i64 0, .int .i64 0] 205)).alloc (.cells #[.int .i64 0, .int .i64 (1+max ad bd)] 205)) W1)=>qdK hk)
  go_enter Tryz.func119,Tryz.ntmps119
  go_wp2_with (go_at_call 133;refine (uQ FT _).mono ?_;rintro e w1 ⟨rfl,hk⟩;obtain ⟨i3,b0,b1,e0,e1,f0,f1,g0',HB⟩:=uQ HL w1 hk;clear hk HL FT)
  all_goals first
   |exact bodyPost_ret (results_cell_row Tryz.results119 _ _ (w.heap.size+1+1+1) 205 _ (0,0) _ rfl (q82 (uQ HB) I I (1+max ad bd)).1 Tryz.underlying205 rfl q1M) rfl ⟨rfl,(q82 (uQ HB) I I (1+max ad bd)).2⟩
   |exact bodyPost_ret (results_cell_row Tryz.results119 _ _ (w.heap.size+1+1+1) 205 _ (0,0) _ rfl (q4N (uQ HB) 0 (1+max ad bd)).1 Tryz.underlying205 rfl q1M) rfl ⟨rfl,(q4N (uQ HB) 0 (1+max ad bd)).2⟩
theorem q2n (p:Pt)(a b:Sh)(w:World)(hT:TbE w)(hf:p.fit)(ha:a.ok)(hb:b.ok)(hz:sds p.kd=1->b=⟨0,0⟩):Calls Tryz.prog 119 #[p.v, .agg (rowC p.kd), .agg #[.int .i64 a.kd, .int .i64 a.dp, .int .i64 b.kd, .int .i64 b.dp]] w fun e w'=>e= .returned (.agg #[.int .i64 (shp p (q5r (sds p.kd) a b)).kd, .int .i64 (shp p (q5r (sds p.kd) a b)).dp])/\Below w.heap.size w w':=by
 by_cases h0:sds p.kd=0
 ·rw[h0]
  exact q6D p a b w hT hf h0
 ·rw[qe2 h0 hz]
  have hk:4<=p.kd/\p.kd<=13:=by
   have:=q22 p.kd
   rcases (show sds p.kd=1\/sds p.kd=2 by omega)with e|e
   ·have:=q4K e;omega
   ·have:=q4L e;omega
  exact q8Q p a b w hk.1 hk.2 ha hb (fun e=>hz (by rw[e];rfl))
section
variable {P:Program} {ops:Array Oper} {Q:Exit->Act->World->Prop} {md:Region.Mode} {S:World->Prop} {late:Nat}
def q0a (P:Program)(md:Region.Mode)(ops:Array Oper)(Q:Exit->Act->World->Prop)(S:World->Prop)(late:Nat):Nat->Array Bool->Act->World->Prop
 |0,listed,a,w=>Region.ready md ops listed=[]/\Q .normal a w
 |fuel+1,listed,a,w=>
  (Region.ready md ops listed=[]->Q .normal a w)/\
  ∀i∈Region.ready md ops listed,wpOp P ops Q i (fun a' w'=>(i=late\/S w')/\q0a P md ops Q S late fuel (listed.setIfInBounds i true) a' w') a w
theorem q1K: ∀(fuel:Nat) (listed:Array Bool) (a:Act) (w:World),q0a P md ops Q S late fuel listed a w->wpAny P md ops Q fuel listed a w
 |0,_,_,_,h=>h
 |fuel+1,_,_,_,h=>⟨h.1,fun i hi=>wpOp_mono (fun a' w' h'=>q1K fuel _ a' w' h'.2) (h.2 i hi)⟩
def q1Q (md:Region.Mode)(ops:Array Oper)(late i:Nat):Bool:=match ops[late]? with
 |some o=>o.after.any fun e=>Region.binds md e && e.on==i
 |none=>false
theorem q4s {i:Nat}{o:Oper}(ho:ops[late]?=some o)(h:q1Q md ops late i=true): ∃e∈o.after,Region.binds md e=true/\e.on=i:=by
 unfold q1Q at h
 rw[ho]at h
 simp only[Array.any_eq_true]at h
 obtain ⟨j,hj,hb⟩:=h
 rw[Bool.and_eq_true,beq_iff_eq]at hb
 exact ⟨_,Array.getElem_mem hj,hb.1,hb.2⟩
theorem q6P {i:Nat}{oi:Oper}{v:Value}(hi:ops[i]?=some oi)(hw:q1Q md ops late i=true)(hsel: ∀(j:Nat) (o:Oper) cs b,ops[j]?=some o->o.op≠ .select cs b)
  (hQ: ∀c a w,Q (.panic c) (a.put oi.dst v) w->Q (.panic c) a w):
  ∀(fuel:Nat) (listed:Array Bool) (a:Act) (w:World),
   (∀j oj,ops[j]?=some oj->j≠i->listed.getD j true=false->(∀e∈oj.after,Region.binds md e=true->e.on≠i)->oi.apart ops oj=true)->
   i∈Region.ready md ops listed->YieldsIf P ops S oi v a->S w->
   q0a P md ops Q S late fuel (listed.setIfInBounds i true) (a.put oi.dst v) w->q0a P md ops Q S late (fuel+1) listed a w:=by
 intro fuel
 induction fuel with
 |zero=>
  intro listed a w _ hr hy hS H
  refine ⟨fun h=>(by rw[h]at hr;cases hr),fun j hj=>?_⟩
  by_cases hji:j=i
  ·subst hji;exact hy.wpOp hi hS ⟨Or.inr hS,H⟩
  ·have:=ready_mono hj hji
   rw[H.1]at this
   cases this
 |succ fuel ih=>
  intro listed a w hfree hr hy hS H
  refine ⟨fun h=>(by rw[h]at hr;cases hr),fun j hj=>?_⟩
  by_cases hji:j=i
  ·subst hji;exact hy.wpOp hi hS ⟨Or.inr hS,H⟩
  ·have h1:=H.2 j (ready_mono hj hji)
   obtain ⟨hjun,oj,hoj,hall⟩:=mem_ready.1 hj
   have hnot: ∀e∈oj.after,Region.binds md e=true->e.on≠i:=fun e he hb heq=>by
    have h1:=hall e he hb
    have h0:=(mem_ready.1 hr).1
    rw[heq]at h1
    rcases Nat.lt_or_ge i listed.size with h'|h'
    ·simp[h']at h0 h1;rw[h0]at h1;cases h1
    ·simp[Array.getElem?_eq_none h']at h1
   have hjl:j≠late:=by
    rintro rfl
    obtain ⟨e,he,hb,hon⟩:=q4s hoj hw
    exact hnot e he hb hon
   have h1':wpOp P ops Q j (fun a' w'=>S w'/\q0a P md ops Q S late fuel ((listed.setIfInBounds i true).setIfInBounds j true) a' w') (a.put oi.dst v) w:=wpOp_mono (fun a' w' h=>⟨h.1.resolve_left hjl,h.2⟩) h1
   have h2:=wpOp_putIf hoj (hfree j oj hoj hji hjun hnot) (fun cs b=>hsel i oi cs b hi) (fun cs b=>hsel j oj cs b hoj) hQ hy h1'
   have hfree': ∀k ok,ops[k]?=some ok->k≠i->(listed.setIfInBounds j true).getD k true=false->
     (∀e∈ok.after,Region.binds md e=true->e.on≠i)->oi.apart ops ok=true:=fun k ok hk hki hun hno=>by
    refine hfree k ok hk hki ?_ hno
    by_cases hjk:j=k
    ·subst hjk;exact hjun
    ·rw[getD_set_ne true hjk]at hun;exact hun
   refine wpOp_mono (fun a' w' h3=>⟨Or.inr h3.2.1,ih (listed.setIfInBounds j true) a' w' hfree' (ready_mono hr (Ne.symm hji)) h3.1 h3.2.1 ?_⟩) h2
   rw[Array.setIfInBounds_comm _ _ hji]
   exact h3.2.2
theorem q7l {i:Nat}{oi:Oper}{v:Value}{fuel:Nat}{listed:Array Bool}{a:Act}{w:World}(hi:ops[i]?=some oi)
  (hw:q1Q md ops late i=true) (hs:Region.noSelect ops=true) (hf:Region.free md ops listed i=true) (hr:(Region.ready md ops listed).contains i=true)
  (hQ: ∀c a w,Q (.panic c) (a.put oi.dst v) w->Q (.panic c) a w) (hy:YieldsIf P ops S oi v a) (hS:S w)
  (h:q0a P md ops Q S late fuel (listed.setIfInBounds i true) (a.put oi.dst v) w):q0a P md ops Q S late (fuel+1) listed a w:=
 q6P hi hw (Region.noSelect_spec hs) hQ fuel listed a w (Region.free_spec hi hf) (by simpa using hr) hy hS h
theorem zzL {i:Nat}{oi:Oper}{v:Value}{fuel:Nat}{listed:Array Bool}{a:Act}{w:World}(hi:ops[i]?=some oi)(hy:YieldsIf P ops S oi v a)(hS:S w)(h:q0a P md ops Q S late fuel (listed.setIfInBounds i true) (a.put oi.dst v) w)(hQ:∀ c a w,Q (.panic c) (a.put oi.dst v) w->Q (.panic c) a w:=by exact fun _ _ _ h=>h)(hw:q1Q md ops late i=true:=by kernel_rfl)(hs:Region.noSelect ops=true:=by kernel_rfl)(hf:Region.free md ops listed i=true:=by kernel_rfl)(hr:(Region.ready md ops listed).contains i=true:=by kernel_rfl):q0a P md ops Q S late (fuel+1) listed a w:=q7l hi hw hs hf hr hQ hy hS h
theorem zzH {i:Nat}{oi:Oper}{v:Value}{fuel:Nat}{listed:Array Bool}{a:Act}{w:World}(hi:ops[i]?=some oi)(hy:YieldsIf P ops S oi v a)(hS:S w)(h:wpAnyH P md ops Q S fuel (listed.setIfInBounds i true) (a.put oi.dst v) w)(hQ:∀ c a w,Q (.panic c) (a.put oi.dst v) w->Q (.panic c) a w:=by exact fun _ _ _ h=>h)(hs:Region.noSelect ops=true:=by kernel_rfl)(hf:Region.free md ops listed i=true:=by kernel_rfl)(hr:(Region.ready md ops listed).contains i=true:=by kernel_rfl):wpAnyH P md ops Q S (fuel+1) listed a w:=wpAnyH_take hi hs hf hr hQ hy hS h
theorem q01 {i:Nat}{o:Oper}{fuel:Nat}{listed:Array Bool}{a:Act}{w:World}(ho:ops[i]?=some o)(hr:Region.ready md ops listed=[i])
  (h: ∀K:Act->World->Prop,(∀a' w',(i=late\/S w')->q0a P md ops Q S late fuel (listed.setIfInBounds i true) a' w'->K a' w')->if Region.wanted o (yielded ops a.tmps)=true then Oper.wp P o a w K Q else K (a.put o.dst undef) w):q0a P md ops Q S late (fuel+1) listed a w:=by
 refine ⟨fun h0=>(by rw[hr]at h0;cases h0),fun j hj=>?_⟩
 rw[hr,List.mem_singleton]at hj
 subst hj
 have:=h (fun a' w'=>(j=late\/S w')/\q0a P md ops Q S late fuel (listed.setIfInBounds j true) a' w') (fun a' w' h1 h2=>⟨h1,h2⟩)
 unfold wpOp
 rw[ho]
 dsimp only
 split
 ·rename_i hc
  rw[if_pos hc]at this
  exact Or.inl this
 ·rename_i hc
  rw[if_neg hc]at this
  exact this
theorem q0c {listed:Array Bool}{a:Act}{w:World}(hr:Region.ready md ops listed=[])(h:Q .normal a w): ∀fuel,q0a P md ops Q S late fuel listed a w
 |0=>⟨hr,h⟩
 |_+1=>⟨fun _=>h,by rw[hr];simp⟩
theorem q0m (S:World->Prop)(late:Nat){id:Nat}{a:Act}{w:World}(hm:P.follows .mixedOrders=true)
  (h:q0a P .any ops Q S late ops.size (Array.replicate ops.size false) a w.drew):(Code.region id ops true).wp P Q a w:=wp_region_any hm (q1K _ _ _ _ h)
end
open Go.RowKit Go.Shelf
attribute [local go_sem] Oper.semAt_some
section
variable {P:Program} {ops:Array Oper} {Q:Exit->Act->World->Prop} {md:Region.Mode} {l n:Nat}
theorem qac {row:String}{args:Array Value}{w:World}{R:Value->World->Prop}(h:Rows P row args w R):RowsIn (Fence.wide.inRound l) n P row args w R:=fun c cs _=>
 let ⟨v,w',r,s⟩:=h c cs
 ⟨v,w',r,stepsIn_wide.2 s⟩
theorem qa {o:Oper}{a:Act}{w:World}{K:Act->World->Prop}(hd: ∀c,o.op≠ .defer c)(h:o.wp P a w K Q):o.wpIn (Fence.wide.inRound l) n P a w K Q:=by
 refine ⟨fun _ _=>trivial,?_⟩
 show o.uponIn _ _ _ _ _ _ ((o.semAt (some l) a.eval).run P w)
 rw[Oper.semAt_some l a.eval o hd]
 unfold Oper.wp at h
 generalize (execOp a.eval o).run P w=r at *
 cases r with
 |ok x w'=>
  cases x <;> first|exact h|exact h.elim|exact ⟨(fun e=>by cases e),CallsIn.inRound l (callsIn_wide.2 h)⟩|exact ⟨(fun e=>by cases e),qac h⟩
 |halt x w'=>cases x <;> first|exact h|exact h.elim
theorem qdw {i:Nat}{K:Act->World->Prop}{a:Act}{w:World}(hd: ∀(j:Nat) (o:Oper) c,ops[j]?=some o->o.op≠ .defer c)(hl: ¬ LetsOut Q)(h:wpOp P ops Q i K a w):wpOpIn (Fence.wide.inRound l) n P ops Q i K a w:=by
 unfold wpOp at h
 unfold wpOpIn
 cases ho:ops[i]? with
 |none=>rw[ho]at h;exact h
 |some o=>
  rw[ho]at h
  dsimp only at h ⊢
  split
  ·rename_i hw
   rw[if_pos hw]at h
   rcases h with h|h
   ·exact qa (hd i o · ho) h
   ·exact absurd h.2 hl
  ·rename_i hw
   rw[if_neg hw]at h
   exact ⟨fun _ _=>trivial,h⟩
theorem q5s (hd: ∀(j:Nat) (o:Oper) c,ops[j]?=some o->o.op≠ .defer c)(hl: ¬ LetsOut Q): ∀(fuel:Nat) (listed:Array Bool) (a:Act) (w:World),wpAny P md ops Q fuel listed a w->wpAnyIn (Fence.wide.inRound l) n P md ops Q fuel listed a w
 |0,_,_,_,h=>h
 |fuel+1,_,_,_,h=>⟨h.1,fun i hi=>wpOpIn_mono (fun a' w' h'=>q5s hd hl fuel _ a' w' h') (qdw hd hl (h.2 i hi))⟩
def q4F (ops:Array Oper):Bool:=ops.all fun o=>match o.op with| .defer _=>false|_=>true
theorem q68 (h:q4F ops=true): ∀(j:Nat) (o:Oper) c,ops[j]?=some o->o.op≠ .defer c:=fun j o c ho e=>by
 unfold q4F at h
 rw[Array.all_eq_true]at h
 obtain ⟨hj,rfl⟩:=zB.1 ho
 have:=h j hj
 rw[e]at this
 cases this
theorem q0l (S:World->Prop)(late:Nat){id:Nat}{a:Act}{w:World}(hm:P.follows .mixedOrders=true)(hd:q4F ops=true)(hl: ¬ LetsOut Q)
  (h:q0a P .any ops Q S late ops.size (Array.replicate ops.size false) a w.drew):(Code.region id ops true).wpIn (Fence.wide.inRound l) n P Q a w:=
 wpIn_region_any hm (q5s (q68 hd) hl _ _ _ _ (q1K _ _ _ _ h))
end
end Go.Proofs.YtfgkikeeadlcfaaGreatDoor
namespace Go.Proofs.YtfgkikeeadlcfaaGreatDoor
section
open Go.RowKit Go.Deep
def Pt.ok (a:Pt):Prop:=(-9223372036854775808<=a.kd/\a.kd<=9223372036854775807)/\(-9223372036854775808<=a.n/\a.n<=9223372036854775807)/\a.s.size<=9223372036854775807/\a.st.size<=9223372036854775807/\(-9223372036854775808<=a.fl/\a.fl<=9223372036854775807)
def PtsAt (w:World)(ad:Option Addr)(l:List Pt):Prop:=
 l≠[]-> ∃b off,ad=some ⟨b,off,none⟩/\b<w.heap.size/\ ∀i (h:i<l.length),w.cell? ⟨b,off+i * 5,none⟩=some (.int .i64 l[i].kd)/\w.cell? ⟨b,off+i * 5+1,none⟩=some (.int .i64 l[i].n)/\w.cell? ⟨b,off+i * 5+2,none⟩=some (.string l[i].s)/\w.cell? ⟨b,off+i * 5+3,none⟩=some (.string l[i].st)/\w.cell? ⟨b,off+i * 5+4,none⟩=some (.int .i64 l[i].fl)
theorem PtsAt.kp {w w':World}{ad:Option Addr}{l:List Pt}(h:PtsAt w ad l)(hk:Kp [] w w'):PtsAt w' ad l:=fun hl=>by
 obtain ⟨b,off,e,hlt,hc⟩:=h hl
 refine ⟨b,off,e,Nat.lt_of_lt_of_le hlt hk.size,fun i hi=>?_⟩
 obtain ⟨c0,c1,c2,c3,c4⟩:=hc i hi
 exact ⟨hk.cell c0 (by simp),hk.cell c1 (by simp),hk.cell c2 (by simp),hk.cell c3 (by simp),hk.cell c4 (by simp)⟩
theorem PtsAt.at {w:World}{ad:Option Addr}{l:List Pt}(h:PtsAt w ad l)(i:Nat)(hi:i<l.length): ∃b off,ad=some ⟨b,off,none⟩/\b<w.heap.size/\w.cell? ⟨b,off+i * 5,none⟩=some (.int .i64 l[i].kd)/\w.cell? ⟨b,off+i * 5+1,none⟩=some (.int .i64 l[i].n)/\w.cell? ⟨b,off+i * 5+2,none⟩=some (.string l[i].s)/\w.cell? ⟨b,off+i * 5+3,none⟩=some (.string l[i].st)/\w.cell? ⟨b,off+i * 5+4,none⟩=some (.int .i64 l[i].fl):=by
 obtain ⟨b,off,e,hlt,hc⟩:=h (by intro e;subst e;simp at hi)
 exact ⟨b,off,e,hlt,hc i hi⟩
theorem q2x:Tryz.prog.cellsOf 178=5:=by kernel_rfl
theorem q0X:Tryz.prog.cellsOf 3=1:=by kernel_rfl
theorem q2M:Tryz.prog.cellsOf 2=1:=by kernel_rfl
theorem q0J:Tryz.prog.cellsOf 9=1:=by kernel_rfl
theorem q2e: ∃f0 f1 f2 f3 f4:Field,Tryz.prog.underlying 178=some (.struct #[f0,f1,f2,f3,f4])/\f0.type=3/\f1.type=2/\f2.type=9/\f3.type=9/\f4.type=3/\f0.offset=0/\f1.offset=1/\f2.offset=2/\f3.offset=3/\f4.offset=4:=
 ⟨_,_,_,_,_,Tryz.underlying178,rfl,rfl,rfl,rfl,rfl,rfl,rfl,rfl,rfl,rfl⟩
theorem q2Z {α:Type}: ∀(l:List α),l.length=5-> ∃x0 x1 x2 x3 x4,l=[x0,x1,x2,x3,x4]
 |[x0,x1,x2,x3,x4],_=>⟨x0,x1,x2,x3,x4,rfl⟩
theorem q6f {H:Type}{enc:TypeId × Value->H}{W:World}{spare:Nat->Bool}{held:Bool}{fuel:Nat}{v:Value}{x:DataW H × List MemPlace}
  (h:DataW.trod enc Tryz.prog W 0 spare held fuel 86 [v]=some x):
  ∃(ad:Option Addr) (cap:Nat) (l:List Pt),v= .slice ad l.length cap/\l.length<=9223372036854775807/\PtsAt W ad l/\ ∀y∈l,y.ok:=by
 obtain ⟨f0,f1,f2,f3,f4,hu,t0,t1,t2,t3,t4,o0,o1,o2,o3,o4⟩:=q2e
 rcases open_slice Tryz.underlying86 h with ⟨hcs,_⟩|⟨a,len,cap,m,n,D,Pl,hcs,hb,hl,hm,hmm,_,hx⟩
 ·simp only[List.cons.injEq,and_true]at hcs
  subst hcs
  exact ⟨none,0,[],rfl,by simp,fun hne=>absurd rfl hne,by simp⟩
 ·simp only[List.cons.injEq,and_true]at hcs
  subst hcs
  have hlm:len<=m:=by rw[hmm];split <;> omega
  have each: ∀i,i<len-> ∃y:Pt,W.cell? (a.add (i * 5))=some (.int .i64 y.kd)/\W.cell? (a.add (i * 5+1))=some (.int .i64 y.n)/\W.cell? (a.add (i * 5+2))=some (.string y.s)/\W.cell? (a.add (i * 5+3))=some (.string y.st)/\W.cell? (a.add (i * 5+4))=some (.int .i64 y.fl)/\y.ok:=by
   intro i hi
   obtain ⟨cs',h1,h2⟩:=hx i (by omega)
   rw[q2x]at h1
   obtain ⟨_,hlen,hcell⟩:=World.cells?_some h1
   obtain ⟨xs,k,hk,hxy,_,hxl,hf⟩:=DataW.trod_struct hu h2
   obtain ⟨y0,y1,y2,y3,y4,rfl⟩:=q2Z xs hxl
   obtain ⟨v0,v1,v2,v3,v4,rfl⟩:=q2Z cs' hlen
   have g0:=hf 0 f0 rfl
   have g1:=hf 1 f1 rfl
   have g2:=hf 2 f2 rfl
   have g3:=hf 3 f3 rfl
   have g4:=hf 4 f4 rfl
   simp[o0,o1,o2,o3,o4,t0,t1,t2,t3,t4,q0X,q2M,q0J]at g0 g1 g2 g3 g4
   have e0:=hcell 0 (by omega)
   have e1:=hcell 1 (by omega)
   have e2:=hcell 2 (by omega)
   have e3:=hcell 3 (by omega)
   have e4:=hcell 4 (by omega)
   rw[Go.Deep.add_add]at e0 e1 e2 e3 e4
   obtain ⟨k0,q0,_,wf0⟩:=DataW.trod_int Tryz.underlying3 g0
   obtain ⟨k1,q1,_,wf1⟩:=DataW.trod_int Tryz.underlying2 g1
   obtain ⟨k2,q2,_,wf2⟩:=DataW.trod_string Tryz.underlying9 g2
   obtain ⟨k3,q3,_,wf3⟩:=DataW.trod_string Tryz.underlying9 g3
   obtain ⟨k4,q4,_,wf4⟩:=DataW.trod_int Tryz.underlying3 g4
   simp only[List.cons.injEq,and_true]at q0 q1 q2 q3 q4
   subst q0 q1 q2 q3 q4
   have b0:=bounds_i64 wf0
   have b1:=bounds_i64 wf1
   unfold maxLen at wf2
   unfold maxLen at wf3
   have b4:=bounds_i64 wf4
   exact ⟨⟨k0,k1,k2,k3,k4⟩,by simpa using e0,by simpa using e1,by simpa using e2,by simpa using e3,by simpa using e4,⟨b0.1,by show k0<=_;omega⟩,⟨b1.1,by show k1<=_;omega⟩,by show k2.size<=_;omega,by show k3.size<=_;omega,⟨b4.1,by show k4<=_;omega⟩⟩
  have hinh:Inhabited Pt:=⟨⟨0,0,⟨#[]⟩,⟨#[]⟩,0⟩⟩
  obtain ⟨q,hq⟩:=choose_lt each
  refine ⟨some a,cap,(List.range len).map q,by simp,by simp;unfold maxLen at hm;omega,fun hne=>?_,fun y hy=>?_⟩
  ·have h0:0<len:=by
    rcases Nat.eq_zero_or_pos len with e|e
    ·subst e;simp at hne
    ·exact e
   obtain ⟨b,off,spot⟩:=a
   have hc0:=(hq 0 h0).1
   have hspot:spot=none:=by simpa [Addr.add] using World.cell?_spot hc0
   subst hspot
   refine ⟨b,off,rfl,?_,fun i hi=>?_⟩
   ·rcases Nat.lt_or_ge b W.heap.size with hlt|hge
    ·exact hlt
    ·exfalso
     rw[Go.WideShapes.add_plain]at hc0
     simp[World.cell?,Array.getElem?_eq_none hge]at hc0
   ·have hi':i<len:=by simpa using hi
    obtain ⟨c0,c1,c2,c3,c4,_⟩:=hq i hi'
    rw[Go.WideShapes.add_plain]at c0 c1 c2 c3 c4
    simp only[List.getElem_map,List.getElem_range]
    exact ⟨c0,by rw[Nat.add_assoc];exact c1,by rw[Nat.add_assoc];exact c2,by rw[Nat.add_assoc];exact c3,by rw[Nat.add_assoc];exact c4⟩
  ·obtain ⟨i,hi,rfl⟩:=List.mem_map.1 hy
   exact (hq i (List.mem_range.1 hi)).2.2.2.2.2
end
open Go.RowKit Go.Shelf
attribute [local go_sem] Oper.semAt_some
def bkL (xs:List Pt):Nat->List (Fin xs.length)
 |0=>[]
 |k+1=>bkL xs k++(if h:k<xs.length then [⟨xs.length-1-k,by omega⟩] else [])
theorem qcy (xs:List Pt)(k:Nat)(h:k<=xs.length):(bkL xs k).length=k:=by
 induction k with
 |zero=>rfl
 |succ k ih=>rw[bkL,zF,ih (by omega),dif_pos (by omega)];rfl
theorem q3E (xs:List Pt)(k:Nat)(h:k<xs.length):bkL xs (k+1)=bkL xs k++[⟨xs.length-1-k,by omega⟩]:=by rw[bkL,dif_pos h]
theorem q3n (xs:List Pt)(k:Nat)(h:k<=xs.length):((bkL xs k).map fun i=>xs[i]).reverse=xs.drop (xs.length-k):=by
 induction k with
 |zero=>rw[Nat.sub_zero,List.drop_length];rfl
 |succ k ih=>
  rw[q3E xs k (by omega),List.map_append,List.reverse_append,ih (by omega)]
  have e:xs.length-(k+1)=xs.length-1-k:=by omega
  rw[e,List.drop_eq_getElem_cons (i:=xs.length-1-k) (by omega),show xs.length-1-k+1=xs.length-k by omega]
  rfl
def PtsLow (n₀:Nat)(W:World)(ad:Option Addr)(xs:List Pt):Prop:= ∀j (h:j<xs.length), ∃b off,ad=some ⟨b,off,none⟩/\b<n₀/\W.cell? ⟨b,off+j * 5,none⟩=some (.int .i64 xs[j].kd)/\W.cell? ⟨b,off+j * 5+1,none⟩=some (.int .i64 xs[j].n)/\W.cell? ⟨b,off+j * 5+2,none⟩=some (.string xs[j].s)/\W.cell? ⟨b,off+j * 5+3,none⟩=some (.string xs[j].st)/\W.cell? ⟨b,off+j * 5+4,none⟩=some (.int .i64 xs[j].fl)
theorem PtsLow.below {n₀:Nat}{A B:World}{ad:Option Addr}{xs:List Pt}(h:PtsLow n₀ A ad xs)(hb:Below n₀ A B):PtsLow n₀ B ad xs:=fun j hj=>by
 obtain ⟨b,off,e,hlt,c0,c1,c2,c3,c4⟩:=h j hj
 exact ⟨b,off,e,hlt,(hb.cell (p:=⟨b,_,none⟩) hlt).trans c0,(hb.cell (p:=⟨b,_,none⟩) hlt).trans c1,(hb.cell (p:=⟨b,_,none⟩) hlt).trans c2,(hb.cell (p:=⟨b,_,none⟩) hlt).trans c3,(hb.cell (p:=⟨b,_,none⟩) hlt).trans c4⟩
theorem PtsLow.of {w:World}{ad:Option Addr}{xs:List Pt}(h:PtsAt w ad xs):PtsLow w.heap.size w ad xs:=fun j hj=>by
 obtain ⟨b,off,e,hlt,c⟩:=h.at j hj
 exact ⟨b,off,e,hlt,c⟩
def KpB (n₀ Bs:Nat)(A B:World):Prop:=Below n₀ A B/\B.heap[Bs]?=A.heap[Bs]?
theorem KpB.trans {n₀ Bs:Nat}{A B C:World}(h:KpB n₀ Bs A B)(k:KpB n₀ Bs B C):KpB n₀ Bs A C:=⟨h.1.trans k.1,k.2.trans h.2⟩
theorem KpB.put {n₀ Bs:Nat}{w:World}(hn:n₀<=w.heap.size)(hB:Bs<w.heap.size)(W:World)(l:Nat)(o o':Obj)(hl:w.heap.size<=l)(h:W.heap[l]?=some o)(h1:o.isCells=false)(h2:o.isWalk=false):KpB n₀ Bs W (W.putObj l o'):=
 ⟨belowK_b hn W l o o' hl h h1 h2,World.putObj_heap_other (by omega)⟩
theorem qaH (n:Nat)(l Bs n₀ cap:Nat)(ad:Option Addr)(xs:List Pt)(hsz:xs.length<=1000000)(J Jx:List (Fin xs.length)->World->Prop)
  (hY: ∀pre x W,J pre W->pre.length<xs.length->YieldAt Fence.wide (n-1) Tryz.prog l #[.int .i64 (x.val:Int),(xs[x]).v] W fun e W'=>
   (e= .returned (.bool true)/\J (pre++[x]) W'/\KpB n₀ Bs W W')\/(e= .returned (.bool false)/\Jx (pre++[x]) W'))
  (W:World) (hBs:W.cell? ⟨Bs,0,none⟩=some (.slice ad xs.length cap)) (hc:PtsLow n₀ W ad xs) (h0:J [] W):
  CallsIn Fence.wide n Tryz.prog 144 #[.func (.yield l) #[] #[], .pointer (some ⟨Bs,0,none⟩)] W fun e W'=>(∃v,e= .returned v)/\
   ((∃ys,ys=bkL xs xs.length/\J ys W')\/(∃pre,(∃k,k<=xs.length/\pre=bkL xs k)/\Jx pre W')):=by
 refine callsIn_of_wp Tryz.func144 rfl trivial ?_ rfl
 simp only[Tryz.ntmps144,List.size_toArray,List.length_cons,List.length_nil,Nat.reduceAdd,Nat.reduceSub,Array.replicate_succ,Array.replicate_zero,List.push_toArray,List.append_toArray,List.nil_append,List.cons_append]
 gi_wp2
 gi_loopw [3] (fun i wr=> ∃k:Nat,k<=xs.length/\i= .int .i64 ((xs.length:Int)-1-k)/\J (bkL xs k) wr/\Hid (KpB n₀ Bs W wr)) (fun i _=>(intOf i+1).toNat)
 case atStart=>exact ⟨0,Nat.zero_le _,by go_num,h0,hZq ⟨Below.refl _ _,rfl⟩⟩
 case round=>
  obtain ⟨k,hk,rfl,hJs,HB⟩:=hrel
  have hBs':wr.cell? ⟨Bs,0,none⟩=some (.slice ad xs.length cap):=(World.cell?_of_block (uQ HB).2).trans hBs
  by_cases hlt:k<xs.length
  ·obtain ⟨b,off,rfl,hbn,c0,c1,c2,c3,c4⟩:=(hc.below (uQ HB).1) (xs.length-1-k) (by omega)
   obtain ⟨m,hm⟩: ∃m:Nat,xs.length-1-k=m:=⟨_,rfl⟩
   have d0:wr.cell? ⟨b,off+m * 5,none⟩=some (.int .i64 (xs[m]'(by omega)).kd):=by subst hm;exact c0
   have d1:wr.cell? ⟨b,off+m * 5+1,none⟩=some (.int .i64 (xs[m]'(by omega)).n):=by subst hm;exact c1
   have d2:wr.cell? ⟨b,off+m * 5+2,none⟩=some (.string (xs[m]'(by omega)).s):=by subst hm;exact c2
   have d3:wr.cell? ⟨b,off+m * 5+3,none⟩=some (.string (xs[m]'(by omega)).st):=by subst hm;exact c3
   have d4:wr.cell? ⟨b,off+m * 5+4,none⟩=some (.int .i64 (xs[m]'(by omega)).fl):=by subst hm;exact c4
   obtain ⟨fn,tmps,assign,body,hy,hR⟩:=hY _ ⟨xs.length-1-k,by omega⟩ wr hJs (by rw[qcy xs k hk];exact hlt)
   have HR:=hZq hR
   have hm2:m<xs.length:=by omega
   have e1:(xs.length:Int)-1-(k:Int)=(m:Int):=by omega
   have hy2:Sem.run Tryz.prog (Instr.yield l #[.int .i64 (m:Int), .agg #[.int .i64 (xs[m]'hm2).kd, .int .i64 (xs[m]'hm2).n, .string (xs[m]'hm2).s, .string (xs[m]'hm2).st, .int .i64 (xs[m]'hm2).fl]]) wr= .ok (.round l fn tmps assign body) wr:=by
    subst hm
    exact hy
   have HJ:=hZq hJs
   rw[e1]
   generalize xs[m]'hm2=q at *
   obtain ⟨qk,qn,qs,qt,qf⟩:=q
   dsimp only at *
   clear hy hR hBs hc h0 c0 c1 c2 c3 c4 hJs
   gi_wp2
   refine ⟨(fun h=>by cases h),?_⟩
   refine (uQ HR).mono ?_
   rintro e W3 (⟨rfl,hJ3,hk3⟩|⟨rfl,hJx3⟩)
   all_goals clear HR
   ·gi_wp2
    go_roundw
    case rel=>exact ⟨k+1,by omega,by go_num,by rw[q3E xs k hlt];exact hJ3,hZq ((uQ HB).trans hk3)⟩
    case measure=>simp[intOf]
   ·gi_wp2
    refine bodyPost_ret (results_none rfl _ _ _) rfl ?_
    exact ⟨⟨_,rfl⟩, .inr ⟨_,⟨k+1,by omega,(q3E xs k hlt).symm⟩,hJx3⟩⟩
  ·obtain rfl:k=xs.length:=by omega
   have e1:(xs.length:Int)-1-(xs.length:Int)= -1:=by omega
   rw[e1]
   gi_wp2
   go_end0
   exact ⟨⟨_,rfl⟩, .inl ⟨_,rfl,hJs⟩⟩
theorem q7r (n:Nat)(ad:Option Addr)(len cap:Nat)(w:World):CallsIn Fence.wide n Tryz.prog 121 #[.slice ad len cap] w fun e w'=>e= .returned (.func (.func 144) #[] #[.pointer (some ⟨w.heap.size,0,none⟩)])/\w'=w.alloc (.cells #[.slice ad len cap] 86):=by
 refine callsIn_of_wp Tryz.func121 rfl trivial ?_ rfl
 simp only[Tryz.ntmps121,List.size_toArray,List.length_cons,List.length_nil,Nat.reduceAdd,Nat.reduceSub,Array.replicate_succ,Array.replicate_zero,List.push_toArray,List.append_toArray,List.nil_append,List.cons_append]
 gi_wp2
 go_ret
 exact ⟨rfl,rfl⟩
theorem q41 (n:Nat)(Bs n₀ cap:Nat)(ad:Option Addr)(xs:List Pt)(hsz:xs.length<=1000000)(w:World)(hn₀:n₀<=w.heap.size)(hBs:w.cell? ⟨Bs,0,none⟩=some (.slice ad xs.length cap))(hc:PtsLow n₀ w ad xs):
  SeqStopsK Fence.wide n Tryz.prog 144 #[.pointer (some ⟨Bs,0,none⟩)] (fun x:Fin xs.length=>#[.int .i64 (x.val:Int),(xs[x]).v]) (KpB n₀ Bs) (fun ys=>ys=bkL xs xs.length) (fun pre=> ∃k,k<=xs.length/\pre=bkL xs k) xs.length w:=fun l J Jx W hW _ _ hY h0=>
 qaH n l Bs n₀ cap ad xs hsz J Jx hY W ((hW.cell (p:=⟨Bs,0,none⟩) (World.block_lt_of_cell? _ _ hBs)).trans hBs) (hc.below (hW.mono hn₀)) h0
end Go.Proofs.YtfgkikeeadlcfaaGreatDoor
namespace Go.Proofs.YtfgkikeeadlcfaaGreatDoor
open Go.RowKit
theorem q3s {α:Type}(enc:α->List Value)(sz:Nat)(he: ∀a,(enc a).length=sz): ∀(l:List α) (j i:Nat) (h:j<l.length),i<sz->(l.flatMap enc)[j * sz+i]?=(enc l[j])[i]?
 |a::r,0,i,_,hi=>by
  rw[List.flatMap_cons,Nat.zero_mul,Nat.zero_add,List.getElem?_append_left (by rw[he];exact hi)]
  rfl
 |a::r,j+1,i,h,hi=>by
  rw[List.flatMap_cons,List.getElem?_append_right (by rw[he,Nat.add_mul];omega),he,show (j+1) * sz+i-sz=j * sz+i by rw[Nat.add_mul];omega,q3s enc sz he r j i (by simpa using h) hi]
  rfl
theorem q1Y {α:Type}(enc:α->List Value)(sz:Nat)(he: ∀a,(enc a).length=sz)(l:List α):(l.flatMap enc).length=l.length * sz:=by
 induction l with
 |nil=>simp
 |cons a r ih=>rw[List.flatMap_cons,zF,ih,he,List.length_cons,Nat.add_mul];omega
theorem q2a {α:Type}(enc:α->List Value)(sz:Nat)(he: ∀a,(enc a).length=sz)(l:List α)(m:Nat):(l.flatMap enc).take (m * sz)=(l.take m).flatMap enc:=by
 induction l generalizing m with
 |nil=>simp
 |cons a r ih=>
  cases m with
  |zero=>simp
  |succ m=>
   rw[List.flatMap_cons,List.take_succ_cons,List.flatMap_cons, <-ih m,List.take_append,he,List.take_of_length_le (by rw[he,Nat.add_mul];omega),show (m+1) * sz-sz=m * sz by rw[Nat.add_mul];omega]
theorem q6l {w:World}{B e sz g n cap:Nat}{xs:List Value}(h:w.ownsRow B e sz (.slice (some ⟨g,0,none⟩) n cap) n xs)(m:Nat)(hm:m<=n):w.ownsRow B e sz (.slice (some ⟨g,0,none⟩) m cap) m (xs.take (m * sz)):=by
 obtain ⟨h1,⟨h2,_⟩|⟨g',cap',cur,h2,h3,h4,h5,h6,h7,h8⟩⟩:=h
 ·cases h2
 ·cases h2
  have hmn:m * sz<=n * sz:=Nat.mul_le_mul_right _ hm
  refine ⟨by rw[zL,h1];omega,Or.inr ⟨g,cap,cur,rfl,h3,h4,by omega,h6,h7,?_⟩⟩
  rw[<-h8,List.take_take,Nat.min_eq_left hmn]
theorem q0t {α:Type}{enc:α->List Value}{sz:Nat}(he: ∀a,(enc a).length=sz){w:World}{B e g cap:Nat}{l:List α}(h:w.ownsRow B e sz (.slice (some ⟨g,0,none⟩) l.length cap) l.length (l.flatMap enc))(j i:Nat)(hj:j<l.length)(hi:i<sz):w.cell? ⟨g,j * sz+i,none⟩=(enc l[j])[i]?:=by
 have hlt:j * sz+i<l.length * sz:=by
  have:(j+1) * sz<=l.length * sz:=Nat.mul_le_mul_right _ hj
  rw[Nat.add_mul]at this
  omega
 rw[World.ownsRow.cellAt h (j * sz+i) hlt]
 exact q3s enc sz he l j i hj hi
theorem q0b {g:Nat}{cs:Array Value}{t:TypeId}{W W':World}{row:Option Nat}(h:CBox g cs t W)(hg:W.grownBy W' row)(hr: ∀r,row=some r-> ∃o:Obj,W.heap[r]?=some o/\o.isCells=false):CBox g cs t W':=by
 unfold CBox at *
 rw[hg.block g (zB.1 h).1 (fun e=>by
  obtain ⟨o,ho,hc⟩:=hr g e.symm
  rw[h]at ho
  cases ho
  cases hc)]
 exact h
theorem q81 {W W':World}{row:Option Nat}{B e sz n:Nat}{v:Value}{xs:List Value}(h:W.ownsRow B e sz v n xs)(hg:W.grownBy W' row)(hr: ∀r,row=some r-> ∃o:Obj,W.heap[r]?=some o/\o.isCells=false):W'.ownsRow B e sz v n xs:=by
 obtain ⟨h1,h2|⟨g,cap,cur,h2,h3,h4,h5,h6,h7,h8⟩⟩:=h
 ·exact ⟨h1,Or.inl h2⟩
 ·exact ⟨h1,Or.inr ⟨g,cap,cur,h2,h3,q0b (show CBox g cur e W from h4) hg hr,h5,h6,h7,h8⟩⟩
theorem q03 {W W':World}{F:List Nat}{B e sz n:Nat}{v:Value}{xs:List Value}(h:W.ownsRow B e sz v n xs)(hk:Kp F W W')(hF: ∀g,v.ownBlock=some g->g∉F):W'.ownsRow B e sz v n xs:=by
 obtain ⟨h1,h2|⟨g,cap,cur,h2,h3,h4,h5,h6,h7,h8⟩⟩:=h
 ·exact ⟨h1,Or.inl h2⟩
 ·refine ⟨h1,Or.inr ⟨g,cap,cur,h2,h3,CBox.kp (show CBox g cur e W from h4) hk (hF g (by rw[h2];rfl)),h5,h6,h7,h8⟩⟩
theorem q0d {W:World}{B e sz n g:Nat}{v:Value}{xs:List Value}{cs:Array Value}{t:TypeId}(h:W.ownsRow B e sz v n xs)(hg:CBox g cs t W)(ht:t≠e):v.ownBlock≠some g:=fun he=>by
 obtain ⟨_,⟨rfl,_⟩|⟨g',cap,cur,rfl,_,h4,_⟩⟩:=h
 ·cases he
 ·simp[Value.ownBlock]at he
  subst he
  unfold CBox at hg
  rw[h4]at hg
  cases hg
  exact ht rfl
theorem KeepsOthers.ofKp {W W':World}(h:Kp [] W W'):KeepsOthers W W':=⟨h.size,fun k _ hk _=>(h.block k (zB.1 hk).1 (by simp)).trans hk⟩
theorem q3x {α:Type}{ev:Pt->List α->α}{x:List Pt}{l:List α}(h:stk ev x=some l):l.length<=x.length:=by
 obtain ⟨ts,_,rfl,rfl⟩:=q2S ev x l h
 rw[zI]
 clear h
 induction ts with
 |nil=>simp
 |cons t r ih=>rw[List.flatMap_cons,zF,List.length_cons];have:=t.flat_pos;have:=ih (by simp_all);omega
theorem q4l {α:Type}(ev:Pt->List α->α)(a b:List Pt)(h:stk ev b=none):stk ev (a++b)=none:=by
 induction a with
 |nil=>exact h
 |cons p r ih=>rw[List.cons_append,stk,ih]
open Go.RowKit Go.Shelf
theorem KeepsOthers.ofCells {W W':World}{F:List Nat}(h:Kp F W W')(hF: ∀y∈F, ∃cs t,CBox y cs t W):KeepsOthers W W':=⟨h.size,fun k o hk ho=>by
 refine (h.block k (zB.1 hk).1 (fun hm=>?_)).trans hk
 obtain ⟨cs,t,hc⟩:=hF k hm
 unfold CBox at hc
 rw[hk]at hc
 cases hc
 cases ho⟩
theorem q52 (W:World)(news:List Value)(t:TypeId): ∀(j:Nat) (u:Value),news[j]?=some u->(W.alloc (.cells news.toArray t)).cell? ((⟨W.heap.size,0,none⟩:Addr).add j)=some u:=fun j u hj=>by
 have:=(CBox.new W news.toArray t).cell (i:=j) (v:=u) (by simpa using hj)
 rw[show (⟨W.heap.size,0,none⟩:Addr).add j=⟨W.heap.size,j,none⟩ by cases j <;> simp[Addr.add]]
 exact this
theorem q3a (ts:List Ex)(k:Nat):((ts.take k).flatMap Ex.flat).length<=(ts.flatMap Ex.flat).length:=by
 conv=>rhs;rw[<-List.take_append_drop k ts,List.flatMap_append,zF]
 omega
theorem q89 (w:World):(storeCells ⟨w.heap.size,0,none⟩ opsV.toList 0).run Tryz.prog (w.alloc (.cells Tryz.zeroCells214 214))= .ok () (w.alloc (.cells opsV 214)):=
 run_storeCells_new w _ _ opsV q3I (by kernel_rfl) q3N
theorem q3Q {P:Program}{fn:Func}{p u:Tmp}{ty ty2:TypeId}(h:fn.results=#[.cell p ty, .cell u ty2])(tmps:Array Value)(w:World)(g:Nat)(t:TypeId)(cs:Array Value)(fr:Nat × Nat)(fs:Array Field)
  (hp:tmps.getD p undef= .pointer (some ⟨g,0,none⟩)) (hg:w.heap[g]?=some (.cells cs t fr))
  (hu:P.underlying ty=some (.struct fs)) (hi:(P.info? ty).map (·.size)=some cs.size)
  (g2:Nat) (v:Value) (hp2:tmps.getD u undef= .pointer (some ⟨g2,0,none⟩)) (h2:(loadVar ty2 ⟨g2,0,none⟩).run P w= .ok v w):
  (results fn tmps).run P w= .ok (.tuple #[.agg cs,v]) w:=by
 have hp':tmps[p]?.getD undef= .pointer (some ⟨g,0,none⟩):=by simpa using hp
 have hp2':tmps[u]?.getD undef= .pointer (some ⟨g2,0,none⟩):=by simpa using hp2
 simp[results,h,hp',hp2',asAddr,run_loadVar_row w g t ty cs fr (.struct fs) hg hu rfl hi,h2,Sem.run_bind,Result.andThen]
theorem q9M {W:World}{g:Nat}{b:Bool}(h:CBox g #[.bool b] 4 W):(loadVar 4 ⟨g,0,none⟩).run Tryz.prog W= .ok (.bool b) W:=by
 have c:=h.cell (i:=0) (v:= .bool b) rfl
 go_simp
theorem CBox.putObj {g D:Nat}{cs:Array Value}{t:TypeId}{W:World}{o o':Obj}(h:CBox g cs t W)(hD:W.heap[D]?=some o)(ho:o.isCells=false):CBox g cs t (W.putObj D o'):=by
 unfold CBox at *
 rw[World.putObj_heap_other (fun e=>by subst e;rw[h]at hD;cases hD;cases ho)]
 exact h
theorem q2u {n:Nat}{fn:Func}{R:Ending->World->Prop}{tmps:Array Value}{W:World}{D b1 b2 n₀:Nat}{ty:TypeId}{cs:Array Value}{b:Bool}{fs:Array Field}{w:World}(h:fn.results=#[.cell 4 ty, .cell 5 4])
  (h4:tmps.getD 4 undef= .pointer (some ⟨b1,0,none⟩)) (h5:tmps.getD 5 undef= .pointer (some ⟨b2,0,none⟩)) (hu:Tryz.prog.underlying ty=some (.struct fs)) (hi:(Tryz.prog.info? ty).map (·.size)=some cs.size)
  (hK:W.heap[D]?=some (.deferred (some []))) (c1:CBox b1 cs ty W) (c2:CBox b2 #[.bool b] 4 W) (hb:Below n₀ w W) (hD:n₀<=D)
  (hR: ∀W',Below n₀ w W'->R (.returned (.tuple #[.agg cs, .bool b])) W'):
  bodyPostM Fence.wide n Tryz.prog fn R .ret { tmps:=tmps,defers:=[{ target:= .collected D,args:=#[] }] } W:=by
 refine ⟨by simp, .inl ⟨_,_,rfl,run_takeDeferred hK,?_⟩⟩
 have k1:=c1.putObj (o':= .deferred none) hK rfl
 have k2:=c2.putObj (o':= .deferred none) hK rfl
 refine ⟨_,q3Q h tmps _ b1 ty cs (0,0) fs h4 k1 hu hi b2 (.bool b) h5 (q9M k2),hR _ ?_⟩
 exact hb.trans ⟨rfl,rfl,rfl,by simp,fun k hk=>World.putObj_heap_other (by omega)⟩
end Go.Proofs.YtfgkikeeadlcfaaGreatDoor
