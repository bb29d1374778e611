/-
  Walks.
-/
import Derived.Test.YtfgkikeeadlcfaaGreatDoorMs07
import Derived.Laws.Cover3
import Derived.Maps.OwnSet
import Derived.WideKeyRuns
set_option maxRecDepth 100000
set_option maxHeartbeats 8000000
set_option linter.unusedSimpArgs false
namespace Go.Proofs.YtfgkikeeadlcfaaGreatDoor
open Go.RowKit Go.Shelf
structure RdG (ss:List Stg)(x:RdC):Prop where
 oh:x.oh=stay (hwAt ss x.td) true
 oe:x.oe=stay (hwAt ss x.td) false
 lt: ∀i∈x.bs,i<x.fr
 al: ∀i,i<x.fr-> ∀t,x.td<=t->t<ss.length->i∈asT ss t->i∈x.bs
 ln:x.bs.length<=2000
def rdA (ss:List Stg)(i:Nat):List Nat:=if mnAt ss i=true then [i] else []
def rdT (ss:List Stg)(i:Nat):List Nat:=rdA ss i++(if i+1<ss.length then [i+1] else [])
theorem qdD (ss:List Stg)(i:Nat):(rdA ss i).length<=2:=by unfold rdA;split <;> simp
def RdY (ss:List Stg)(i:Nat)(ts:List Nat)(r:List RdC):Prop:=r.map (·.td)=ts/\ ∀x∈r,x.fr=i/\RdG ss x
theorem RdY.snoc {ss:List Stg}{i:Nat}{ts:List Nat}{r:List RdC}(h:RdY ss i ts r){x:RdC}(hx:x.fr=i/\RdG ss x):RdY ss i (ts++[x.td]) (r++[x]):=by
 refine ⟨by rw[List.map_append,h.1];rfl,fun y hy=>?_⟩
 rw[zG,zD]at hy
 exact hy.elim (h.2 y) (fun e=>by rw[e];exact hx)
structure RoA (w:World)(B:Nat)(ss:List Stg)(n i:Nat)(ts:List Nat)(rs:List Value)(R:List (List RdC))(wr:World):Prop where
 ro:RoS w B rs R wr
 ln:R.length=n
 dn: ∀j r,j<i->R[j]?=some r->RdY ss j (rdT ss j) r
 nw: ∀r,R[i]?=some r->RdY ss i ts r
 cm: ∀j r,i<j->R[j]?=some r->r=[]
theorem RoA.go {w wr w':World}{B:Nat}{ss:List Stg}{n i:Nat}{ts:List Nat}{rs:List Value}{R:List (List RdC)}(h:RoA w B ss n i ts rs R wr)(hk:Kp [] wr w'):RoA w B ss n i ts rs R w':=⟨h.ro.go hk,h.ln,h.dn,h.nw,h.cm⟩
theorem RoA.next {w wr:World}{B:Nat}{ss:List Stg}{n i:Nat}{rs:List Value}{R:List (List RdC)}(h:RoA w B ss n i (rdT ss i) rs R wr):RoA w B ss n (i+1) [] rs R wr:=by
 refine ⟨h.ro,h.ln,fun j r hj hr=>?_,fun r hr=>?_,fun j r hj hr=>h.cm j r (by omega) hr⟩
 ·rcases Nat.lt_or_ge j i with h1|h1
  ·exact h.dn j r h1 hr
  ·have:j=i:=by omega
   subst this
   exact h.nw r hr
 ·rw[h.cm (i+1) r (by omega) hr]
  exact ⟨rfl,by simp⟩
theorem RoA.push {w V w5:World}{B:Nat}{l:List SR}{n i td:Nat}{ts:List Nat}{rs:List Value}{R:List (List RdC)}{nc:Array Value}{nb:Nat}(h:RoA w B (stgs l) n i ts rs R V)(hi:i<n){v:Value}(hv:rs[i]?=some v)(hts:ts.length<=2)(hnb:CBox nb nc 143 V)
  {pc:Array Value} {pb:Nat} (hpb: ∀W,Kp [] w W->CBox pb pc 24 W) {xa:Option Addr} {xc:Nat} {bs:List Nat} (hA:AbS V i (.slice xa bs.length xc) bs (fun j=> ∃t,td<=t/\t<l.length/\j∈asT (stgs l) t) 2000 w5):
  ∃g' cap' w6,(Builtin.append_ #[146,146] 146 #[v, .slice (some ⟨w5.heap.size,0,none⟩) 1 1]).run Tryz.prog (w5.alloc (.cells #[.int .i64 (i:Int), .int .i64 (td:Int), .bool (stay (hwAt (stgs l) td) true), .bool (stay (hwAt (stgs l) td) false), .slice xa bs.length xc] 148))= .ok (.slice (some ⟨g',0,none⟩) (ts.length+1) cap') w6/\CBox B rs.toArray 146 w6/\
   RoA w B (stgs l) n i (ts++[td]) (rs.set i (.slice (some ⟨g',0,none⟩) (ts.length+1) cap')) (R.set i ((R.getD i [])++[⟨i,td,stay (hwAt (stgs l) td) true,stay (hwAt (stgs l) td) false,xa,xc,bs⟩])) (w6.setCell ⟨B,i,none⟩ (.slice (some ⟨g',0,none⟩) (ts.length+1) cap'))/\
   CBox nb nc 143 (w6.setCell ⟨B,i,none⟩ (.slice (some ⟨g',0,none⟩) (ts.length+1) cap'))/\(w5.cell? ⟨B,i,none⟩=some v/\CBox pb pc 24 w5)/\((w5.alloc (.cells #[.int .i64 (i:Int), .int .i64 (td:Int), .bool (stay (hwAt (stgs l) td) true), .bool (stay (hwAt (stgs l) td) false), .slice xa bs.length xc] 148)).cell? ⟨B,i,none⟩=some v/\CBox pb pc 24 (w5.alloc (.cells #[.int .i64 (i:Int), .int .i64 (td:Int), .bool (stay (hwAt (stgs l) td) true), .bool (stay (hwAt (stgs l) td) false), .slice xa bs.length xc] 148)))/\(w6.cell? ⟨B,i,none⟩=some v/\CBox pb pc 24 w6):=by
 have hiR:i<R.length:=by rw[h.ln];exact hi
 have hRi:R[i]?=some R[i]:=zE hiR
 have hgd:R.getD i []=R[i]:=by rw[List.getD_eq_getElem?_getD,hRi];rfl
 have hnw:=h.nw _ hRi
 have hrl:R[i].length=ts.length:=by rw[<-hnw.1,zI]
 have k5:=hA.kp
 have ka:=Kp.alloc w5 (.cells #[.int .i64 (i:Int), .int .i64 (td:Int), .bool (stay (hwAt (stgs l) td) true), .bool (stay (hwAt (stgs l) td) false), .slice xa bs.length xc] 148)
 have h5:=(h.ro.go k5)
 have h6:=h5.go ka
 have hBV:=h.ro.row
 have hlt:B<V.heap.size:=(zB.1 hBV).1
 obtain ⟨x,hx⟩: ∃x:RdC,x=⟨i,td,stay (hwAt (stgs l) td) true,stay (hwAt (stgs l) td) false,xa,xc,bs⟩:=⟨_,rfl⟩
 obtain ⟨g',cap',w6,hrun,hb6,hkv,hR6⟩:=h6.push hv hRi x (by rw[hx];exact hA.row.kp ka (by simp)) (by
  rw[hx]
  intro b hb
  have:=hA.nw b hb
  omega) (g:=w5.heap.size) (c:=1) (by rw[hx];exact CBox.new w5 _ _) (by rw[hrl];omega) 146
 rw[hrl]at hrun hR6
 have hG:x.fr=i/\RdG (stgs l) x:=by
  rw[hx]
  refine ⟨rfl,rfl,rfl,hA.lt,fun j hj t h1 h2 h3=>hA.al j ⟨t,h1,by rw[q02]at h2;exact h2,h3⟩ hj,hA.ln⟩
 have hown:=h6.ins i v _ hv hRi
 have nb6:=((hnb.kp k5 (by simp)).kp ka (by simp)).kp hkv (fun hm=>q0d hown ((hnb.kp k5 (by simp)).kp ka (by simp)) (by decide) (by simpa using hm))
 have hvc:rs.toArray[i]?=some v:=by simpa using hv
 have p5:=hpb w5 h5.kp
 have p6:CBox pb pc 24 w6:=(p5.kp ka (by simp)).kp hkv (fun hm=>q0d hown (p5.kp ka (by simp)) (by decide) (by simpa using hm))
 refine ⟨g',cap',w6,hrun,hb6,⟨by rw[hgd, <-hx];exact hR6,by rw[List.length_set];exact h.ln,fun j r hj hr=>?_,fun r hr=>?_,fun j r hj hr=>?_⟩,nb6.kp (Kp.set _ _ _ _) (fun hm=>?_),⟨h5.row.cell hvc,p5⟩,⟨h6.row.cell hvc,p5.kp ka (by simp)⟩,⟨hb6.cell hvc,p6⟩⟩
 ·rw[List.getElem?_set,if_neg (by omega)]at hr
  exact h.dn j r hj hr
 ·rw[List.getElem?_set,if_pos rfl,if_pos hiR]at hr
  cases hr
  rw[hgd, <-hx]
  have:=hnw.snoc hG
  rw[show x.td=td by rw[hx]]at this
  exact this
 ·rw[List.getElem?_set,if_neg (by omega)]at hr
  exact h.cm j r hj hr
 ·rw[zD]at hm
  exact q0p nb6 hb6 (by decide) hm
theorem q7g (sa:Option Addr)(sc:Nat)(l:List SR)(wi:Int)(w:World)(h:StsAt w sa l)(hp:(pcR ⟨stgs l,wi⟩).2=0)(hT:TbE w)(hok: ∀r∈l,r.s.ok)(hsc:l.length<=sc):
  Calls Tryz.prog 57 #[.agg #[.slice sa l.length sc, .int .i64 wi]] w fun e w'=>e= .returned (.slice (some ⟨w.heap.size+1,0,none⟩) l.length l.length)/\ ∃rs R,RoS w (w.heap.size+1) rs R w'/\R.length=l.length/\ ∀j r,R[j]?=some r->RdY (stgs l) j (rdT (stgs l) j) r:=by
 have h8:l.length<=8:=by have:=(q16 hp).2.1;rw[show (⟨stgs l,wi⟩:Ptn).ss.length=l.length from q02 l]at this;exact this
 have k1:=Kp.alloc w (.cells #[.slice sa l.length sc, .int .i64 wi] 24)
 have p1:=CBox.new w #[.slice sa l.length sc, .int .i64 wi] 24
 obtain ⟨Wp,hWp⟩: ∃Wp,Wp=w.alloc (.cells #[.slice sa l.length sc, .int .i64 wi] 24):=⟨_,rfl⟩
 have hszp:Wp.heap.size=w.heap.size+1:=by rw[hWp];simp
 rw[<-hWp]at k1 p1
 have HPB:Hid (∀W,Kp [] Wp W->CBox w.heap.size #[.slice sa l.length sc, .int .i64 wi] 24 W):=hZq (fun W hk=>p1.kp hk (by simp))
 have HKW:Hid (∀W,Kp [] Wp W->Kp [] w W):=hZq (fun W hk=>k1.trans hk (by simp))
 have BG:=hZq (fun (i:Nat) W (hk:Kp [] w W)=>q8G sa sc l wi ((i:Int)+1) W (h.kp hk) (hT.kp hk (by simp)) hok (by omega))
 have HBG:Hid (∀i,i<l.length->nbN ⟨stgs l,wi⟩ ((i:Int)+1)=⟨(i:Int)+1,mnAt (stgs l) i,decide (i+1<l.length)⟩):=hZq (fun i hi=>by
  have e1:((i:Int)+1).toNat=i+1:=by omega
  have e0:nbE ⟨stgs l,wi⟩ ((i:Int)+1)=0:=by
   unfold nbE
   rw[if_pos hp,if_pos]
   unfold isS
   dsimp only
   rw[q02]
   simp
   omega
  unfold nbN
  rw[if_pos e0]
  unfold bgN
  dsimp only
  rw[e1,Nat.add_sub_cancel,q02]
  congr 1)
 have RD0:=hZq (fun (fr td:Nat) (hft:(td=fr/\mnAt (stgs l) fr=true/\fr<l.length)\/(td=fr+1/\td<l.length)) W (hk:Kp [] w W)=>q8P sa sc l wi fr td W (h.kp hk) hp (hT.kp hk (by simp)) hok hsc hft)
 have MK:=qbD l.length (by omega)
 have H0:Hid (RoA Wp Wp.heap.size (stgs l) l.length 0 [] (List.replicate l.length (Value.slice none 0 0)) (List.replicate l.length []) (Wp.alloc (.cells (List.replicate l.length (Value.slice none 0 0)).toArray 146))):=hZq ⟨RoS.new Wp l.length,by simp,fun j r hj=>by omega,fun r hr=>by
  rw[List.eq_of_mem_replicate (List.mem_of_getElem? hr)]
  exact ⟨rfl,by simp⟩,fun j r _ hr=>List.eq_of_mem_replicate (List.mem_of_getElem? hr)⟩
 have c0:=p1.cell (i:=0) (v:= .slice sa l.length sc) rfl
 have c1:=((p1.kp (Kp.alloc Wp (.cells (List.replicate l.length (Value.slice none 0 0)).toArray 146)) (by simp))).cell (i:=0) (v:= .slice sa l.length sc) rfl
 have hwl:w.heap.size<Wp.heap.size:=by omega
 have HSZ:=hZq hszp
 have HPU0:=hZq (fun (V w5:World) (i td:Nat) (ts:List Nat) rs R (nc:Array Value) (nb:Nat) (h1:RoA Wp Wp.heap.size (stgs l) l.length i ts rs R V) (h2:i<l.length) v h3 h4 (h5:CBox nb nc 143 V) xa xc bs hA=>h1.push h2 (v:=v) (td:=td) h3 h4 h5 (fun W hk=>uQ HPB W hk) (w5:=w5) (xa:=xa) (xc:=xc) (bs:=bs) hA)
 clear h hT hok hp k1 p1 hszp
 obtain ⟨n,hn⟩: ∃n,l.length=n:=⟨_,rfl⟩
 rw[hn]at h8 hsc HPB HBG RD0 MK H0 c0 c1 hWp HPU0 BG ⊢
 have HSL:(stgs l).length=n:=by rw[q02,hn]
 clear hn
 generalize stgs l=SS at *
 go_enter Tryz.func57,Tryz.ntmps57
 go_upto_region 1 with fail
 rw[<-hWp]
 clear hWp
 go_wp2_with fail
 go_loopw [14] (fun iv wr=> ∃(i:Nat) (rs:List Value) (R:List (List RdC)),i<=n/\iv= .int .i64 (i:Int)/\Hid (RoA Wp Wp.heap.size SS n i [] rs R wr)) (fun iv _=>n-(intOf iv).toNat)
 case atStart=>exact ⟨0,_,_,Nat.zero_le _,rfl,H0⟩
 case round=>
  obtain ⟨i,rs,R,hi,rfl,HC⟩:=hrel
  clear H0 MK c0 c1
  by_cases hlt:i<n
  ·have hli:(i:Int)<(n:Int):=by omega
   have hiw:IntKind.i64.wrap ((i:Int)+1)=(i:Int)+1:=by simp only[IntKind.wrap_i64];omega
   have pw:=uQ HPB wr (uQ HC).ro.kp
   have p0:=pw.cell (i:=0) (v:= .slice sa n sc) rfl
   have p1:=pw.cell (i:=1) (v:= .int .i64 wi) rfl
   have B1:=hZq (uQ BG i wr (uQ HKW wr (uQ HC).ro.kp))
   rw[uQ HBG i hlt]at B1
   unfold Nd.c at B1
   dsimp only at B1
   generalize nbE ⟨SS,wi⟩ ((i:Int)+1)=BE at *
   clear pw
   go_wp2_with fail
   refine (uQ B1).mono ?_
   rintro e w2 ⟨rfl,hk2⟩
   have kn:=hk2.trans (Kp.alloc w2 (.cells #[.int .i64 ((i:Int)+1), .bool (mnAt SS i), .bool (decide (i+1<n))] 143)) (by simp)
   have nb0:=CBox.new w2 #[.int .i64 ((i:Int)+1), .bool (mnAt SS i), .bool (decide (i+1<n))] 143
   have m1:=nb0.cell (i:=1) (v:= .bool (mnAt SS i)) rfl
   have HRO:Hid (RoA Wp Wp.heap.size SS n i [] rs R (w2.alloc (.cells #[.int .i64 ((i:Int)+1), .bool (mnAt SS i), .bool (decide (i+1<n))] 143))/\CBox w2.heap.size #[.int .i64 ((i:Int)+1), .bool (mnAt SS i), .bool (decide (i+1<n))] 143 (w2.alloc (.cells #[.int .i64 ((i:Int)+1), .bool (mnAt SS i), .bool (decide (i+1<n))] 143))):=hZq ⟨(uQ HC).go kn,nb0⟩
   clear B1 hk2 kn nb0 HC p0 p1
   go_upto_if 25 with fail
   go_cut [] (fun wc=> ∃(rs:List Value) (R:List (List RdC)),Hid (RoA Wp Wp.heap.size SS n i (rdA SS i) rs R wc/\CBox w2.heap.size #[.int .i64 ((i:Int)+1), .bool (mnAt SS i), .bool (decide (i+1<n))] 143 wc))
   case first=>
    cases hmn:mnAt SS i with
    |true=>
     have HFT:(i=i/\mnAt SS i=true/\i<n)\/(i=i+1/\i<n):=Or.inl ⟨rfl,hmn,hlt⟩
     have hra:rdA SS i=[]++[i]:=by unfold rdA;rw[if_pos hmn];rfl
     obtain ⟨Wn,hWn⟩: ∃Wn,Wn=w2.alloc (.cells #[.int .i64 ((i:Int)+1), .bool true, .bool (decide (i+1<n))] 143):=⟨_,rfl⟩
     rw[hmn]at HRO m1
     rw[<-hWn]at HRO m1
     rw[<-hWn]
     clear hWn
     obtain ⟨V,hV⟩: ∃V,V=Wn.drew:=⟨_,rfl⟩
     have kV:Kp [] Wn V:=by rw[hV];exact Kp.drew _
     have hRV:=(uQ HRO).1.go kV
     have nbV:=(uQ HRO).2.kp kV (by simp)
     have hiR:i<R.length:=by rw[hRV.ln];exact hlt
     have hirs:i<rs.length:=by rw[hRV.ro.len];exact hiR
     have hts:=(hRV.nw _ (zE hiR)).1
     have hrl:R[i].length=([]:List Nat).length:=by rw[<-hts,zI]
     have hrow:=hRV.ro.ins i _ _ (zE hirs) (zE hiR)
     rw[hrl]at hrow
     obtain ⟨vn,hvn⟩: ∃vn,vn=([]:List Nat).length:=⟨_,rfl⟩
     obtain ⟨va,vc,hvi⟩: ∃a c,rs[i]= .slice a vn c:=by
      obtain ⟨_,⟨e,e2⟩|⟨g,c,cur,e,_⟩⟩:=hrow
      ·exact ⟨none,0,by rw[e,hvn,e2]⟩
      ·exact ⟨_,c,by rw[e,hvn]⟩
     have hv:rs[i]?=some (.slice va vn vc):=by rw[zE hirs,hvi]
     have kwV:=uQ HKW V hRV.ro.kp
     have RD:=hZq (uQ RD0 i i HFT V kwV)
     have HPU:=hZq (fun (w5:World) xa xc bs hA=>uQ HPU0 V w5 i i ([]:List Nat) rs R _ _ hRV hlt (.slice va vn vc) hv (by simp) nbV xa xc bs hA)
     rw[<-hvn]at HPU
     have pV:=uQ HPB V hRV.ro.kp
     have b0:V.cell? ⟨Wp.heap.size,i,none⟩=some (.slice va vn vc)/\V.cell? ⟨w.heap.size,0,none⟩=some (.slice sa n sc)/\V.cell? ⟨w.heap.size,1,none⟩=some (.int .i64 wi):=⟨hRV.ro.row.cell (by simpa using hv),pV.cell rfl,pV.cell rfl⟩
     clear hRV nbV hrow hts hrl hvi kwV pV kV hv hirs hiR HRO HPU0 RD0 HPB HKW BG HBG HSZ hvn HFT
     go_upto_region 7 with fail
     refine q0m (fun W=>W.cell? ⟨Wp.heap.size,i,none⟩=some (.slice va vn vc)/\W.cell? ⟨w.heap.size,0,none⟩=some (.slice sa n sc)/\W.cell? ⟨w.heap.size,1,none⟩=some (.int .i64 wi)) 13 (by kernel_rfl) ?_
     rw[<-hV]
     clear hV
     show q0a _ _ _ _ _ _ 14 (Array.replicate 14 false) _ _
     refine zzL (i:=0) (v:=?_) rfl (Or.inl ⟨by rfl,?_⟩) b0 ?_
     rotate_left
     ·intro w0 s9;(try dsimp only at s9);go_simp;(try with_reducible rfl)
     try simp only[Act.put,zz1,zz2,zz3]
     refine zzL (i:=1) (v:=?_) rfl (Or.inl ⟨by rfl,?_⟩) b0 ?_
     rotate_left
     ·intro w0 s9;(try dsimp only at s9);go_simp;(try with_reducible rfl)
     try simp only[Act.put,zz1,zz2,zz3]
     refine zzL (i:=2) (v:=?_) rfl (Or.inl ⟨by rfl,?_⟩) b0 ?_
     rotate_left
     ·intro w0 s9;(try dsimp only at s9);go_simp;(try with_reducible rfl)
     try simp only[Act.put,zz1,zz2,zz3]
     refine zzL (i:=3) (v:=?_) rfl (Or.inl ⟨by rfl,?_⟩) b0 ?_
     rotate_left
     ·intro w0 s9;(try dsimp only at s9);go_simp;(try with_reducible rfl)
     try simp only[Act.put,zz1,zz2,zz3]
     refine zzL (i:=4) (v:=?_) rfl (Or.inl ⟨by rfl,?_⟩) b0 ?_
     rotate_left
     ·intro w0 s9;(try dsimp only at s9);go_simp;(try with_reducible rfl)
     try simp only[Act.put,zz1,zz2,zz3]
     refine zzL (i:=5) (v:=?_) rfl (Or.inl ⟨by rfl,?_⟩) b0 ?_
     rotate_left
     ·intro w0 s9;(try dsimp only at s9);go_simp;(try with_reducible rfl)
     try simp only[Act.put,zz1,zz2,zz3]
     refine zzL (i:=6) (v:=?_) rfl (Or.inl ⟨by rfl,?_⟩) b0 ?_
     rotate_left
     ·intro w0 s9;(try dsimp only at s9);go_simp;(try with_reducible rfl)
     try simp only[Act.put,zz1,zz2,zz3]
     refine zzL (i:=7) (v:=?_) rfl (Or.inl ⟨by rfl,?_⟩) b0 ?_
     rotate_left
     ·intro w0 s9;(try dsimp only at s9);go_simp;(try with_reducible rfl)
     try simp only[Act.put,zz1,zz2,zz3]
     refine zzL (i:=8) (v:=?_) rfl (Or.inl ⟨by rfl,?_⟩) b0 ?_
     rotate_left
     ·intro w0 s9;(try dsimp only at s9);go_simp;(try with_reducible rfl)
     try simp only[Act.put,zz1,zz2,zz3]
     refine q01 (i:=9) rfl (by kernel_rfl) (fun K hK=>?_)
     go_simp
     refine (uQ RD).mono ?_
     rintro e w5 ⟨xa,xc,bs,rfl,hA5⟩
     obtain ⟨g',cap',w6,hrun,hB6,hR6,hn6,hb5,hb6,hb7⟩:=uQ HPU w5 xa xc bs hA5
     have HR6:=hZq hR6
     have f6:=hB6.froz i
     have hb5:=And.intro hb5.1 (And.intro (hb5.2.cell (i:=0) (v:= .slice sa n sc) rfl) (hb5.2.cell (i:=1) (v:= .int .i64 wi) rfl))
     have hb6:=And.intro hb6.1 (And.intro (hb6.2.cell (i:=0) (v:= .slice sa n sc) rfl) (hb6.2.cell (i:=1) (v:= .int .i64 wi) rfl))
     have hb7:=And.intro hb7.1 (And.intro (hb7.2.cell (i:=0) (v:= .slice sa n sc) rfl) (hb7.2.cell (i:=1) (v:= .int .i64 wi) rfl))
     refine hK _ _ (Or.inr hb5) ?_
     clear hK K
     try simp only[Act.put,zz1,zz2,zz3]
     refine q01 (i:=10) rfl (by kernel_rfl) (fun K hK=>?_)
     go_simp
     refine hK _ _ (Or.inr hb6) ?_
     clear hK K
     try simp only[Act.put,zz1,zz2,zz3]
     refine q01 (i:=11) rfl (by kernel_rfl) (fun K hK=>?_)
     refine q11 rfl (.tmp 31) (.tmp 36) 146 rfl rfl rfl hrun ?_
     refine hK _ _ (Or.inr hb7) ?_
     clear hK K
     try simp only[Act.put,zz1,zz2,zz3]
     refine zzL (i:=12) (v:=?_) rfl (Or.inl ⟨by rfl,?_⟩) hb7 ?_
     rotate_left
     ·intro w0 s9;(try dsimp only at s9);go_simp;(try with_reducible rfl)
     try simp only[Act.put,zz1,zz2,zz3]
     refine q01 (i:=13) rfl (by kernel_rfl) (fun K hK=>?_)
     go_simp
     refine hK _ _ (Or.inl rfl) ?_
     clear hK K
     try simp only[Act.put,zz1,zz2,zz3]
     refine q0c (by kernel_rfl) ?_ _
     go_wp2
     go_meet
     exact ⟨_,_,by rw[hra,hmn];exact hZq ⟨uQ HR6,hn6⟩⟩
    |false=>
     have hra:rdA SS i=[]:=by unfold rdA;rw[if_neg (by rw[hmn];simp)]
     rw[hmn]at HRO m1
     clear HPU0 RD0 HPB HKW BG HBG
     go_wp2
     go_meet
     exact ⟨rs,R,by rw[hra,hmn];exact HRO⟩
   case rest=>
    obtain ⟨rs,R,HRO⟩:=hcut
    clear m1
    have m2:=(uQ HRO).2.cell (i:=2) (v:= .bool (decide (i+1<n))) rfl
    by_cases hin:i+1<n
    ·have hdc:decide (i+1<n)=true:=decide_eq_true hin
     rw[hdc]at m2
     have HFT:(i+1=i/\mnAt SS i=true/\i<n)\/(i+1=i+1/\i+1<n):=Or.inr ⟨rfl,hin⟩
     obtain ⟨V,hV⟩: ∃V,V=wc.drew:=⟨_,rfl⟩
     have kV:Kp [] wc V:=by rw[hV];exact Kp.drew _
     have hRV:=(uQ HRO).1.go kV
     have nbV:=(uQ HRO).2.kp kV (by simp)
     have hiR:i<R.length:=by rw[hRV.ln];exact hlt
     have hirs:i<rs.length:=by rw[hRV.ro.len];exact hiR
     have hts:=(hRV.nw _ (zE hiR)).1
     have hrl:R[i].length=(rdA SS i).length:=by rw[<-hts,zI]
     have hrow:=hRV.ro.ins i _ _ (zE hirs) (zE hiR)
     rw[hrl]at hrow
     obtain ⟨vn,hvn⟩: ∃vn,vn=(rdA SS i).length:=⟨_,rfl⟩
     obtain ⟨va,vc,hvi⟩: ∃a c,rs[i]= .slice a vn c:=by
      obtain ⟨_,⟨e,e2⟩|⟨g,c,cur,e,_⟩⟩:=hrow
      ·exact ⟨none,0,by rw[e,hvn,e2]⟩
      ·exact ⟨_,c,by rw[e,hvn]⟩
     have hv:rs[i]?=some (.slice va vn vc):=by rw[zE hirs,hvi]
     have kwV:=uQ HKW V hRV.ro.kp
     have RD:=hZq (uQ RD0 i (i+1) HFT V kwV)
     have HPU:=hZq (fun (w5:World) xa xc bs hA=>uQ HPU0 V w5 i (i+1) (rdA SS i) rs R _ _ hRV hlt (.slice va vn vc) hv (qdD SS i) nbV xa xc bs hA)
     rw[<-hvn]at HPU
     have pV:=uQ HPB V hRV.ro.kp
     have b0:V.cell? ⟨Wp.heap.size,i,none⟩=some (.slice va vn vc)/\V.cell? ⟨w.heap.size,0,none⟩=some (.slice sa n sc)/\V.cell? ⟨w.heap.size,1,none⟩=some (.int .i64 wi):=⟨hRV.ro.row.cell (by simpa using hv),pV.cell rfl,pV.cell rfl⟩
     clear hRV nbV hrow hts hrl hvi kwV pV kV hv hirs hiR HRO HPU0 RD0 HPB HKW BG HBG HSZ hvn HFT
     go_upto_region 9 with fail
     refine q0m (fun W=>W.cell? ⟨Wp.heap.size,i,none⟩=some (.slice va vn vc)/\W.cell? ⟨w.heap.size,0,none⟩=some (.slice sa n sc)/\W.cell? ⟨w.heap.size,1,none⟩=some (.int .i64 wi)) 14 (by kernel_rfl) ?_
     rw[<-hV]
     clear hV
     show q0a _ _ _ _ _ _ 15 (Array.replicate 15 false) _ _
     refine zzL (i:=0) (v:=?_) rfl (Or.inl ⟨by rfl,?_⟩) b0 ?_
     rotate_left
     ·intro w0 s9;(try dsimp only at s9);go_simp;(try with_reducible rfl)
     try simp only[Act.put,zz1,zz2,zz3]
     refine zzL (i:=1) (v:=?_) rfl (Or.inl ⟨by rfl,?_⟩) b0 ?_
     rotate_left
     ·intro w0 s9;(try dsimp only at s9);go_simp;(try with_reducible rfl)
     try simp only[Act.put,zz1,zz2,zz3]
     refine zzL (i:=2) (v:=?_) rfl (Or.inl ⟨by rfl,?_⟩) b0 ?_
     rotate_left
     ·intro w0 s9;(try dsimp only at s9);go_simp;(try with_reducible rfl)
     try simp only[Act.put,zz1,zz2,zz3]
     refine zzL (i:=3) (v:=?_) rfl (Or.inl ⟨by rfl,?_⟩) b0 ?_
     rotate_left
     ·intro w0 s9;(try dsimp only at s9);go_simp;(try with_reducible rfl)
     try simp only[Act.put,zz1,zz2,zz3]
     refine zzL (i:=4) (v:=?_) rfl (Or.inl ⟨by rfl,?_⟩) b0 ?_
     rotate_left
     ·intro w0 s9;(try dsimp only at s9);go_simp;(try with_reducible rfl)
     try simp only[Act.put,zz1,zz2,zz3]
     refine zzL (i:=5) (v:=?_) rfl (Or.inl ⟨by rfl,?_⟩) b0 ?_
     rotate_left
     ·intro w0 s9;(try dsimp only at s9);go_simp;(try with_reducible rfl)
     try simp only[Act.put,zz1,zz2,zz3]
     refine zzL (i:=6) (v:=?_) rfl (Or.inl ⟨by rfl,?_⟩) b0 ?_
     rotate_left
     ·intro w0 s9;(try dsimp only at s9);go_simp;(try with_reducible rfl)
     try simp only[Act.put,zz1,zz2,zz3]
     refine zzL (i:=7) (v:=?_) rfl (Or.inl ⟨by rfl,?_⟩) b0 ?_
     rotate_left
     ·intro w0 s9;(try dsimp only at s9);go_simp;(try with_reducible rfl)
     try simp only[Act.put,zz1,zz2,zz3]
     refine zzL (i:=8) (v:=?_) rfl (Or.inl ⟨by rfl,?_⟩) b0 ?_
     rotate_left
     ·intro w0 s9;(try dsimp only at s9);go_simp;(try with_reducible rfl)
     try simp only[Act.put,zz1,zz2,zz3]
     refine zzL (i:=9) (v:=?_) rfl (Or.inl ⟨by rfl,?_⟩) b0 ?_
     rotate_left
     ·intro w0 s9;(try dsimp only at s9);go_simp;(try with_reducible rfl)
     try simp only[Act.put,zz1,zz2,zz3]
     refine q01 (i:=10) rfl (by kernel_rfl) (fun K hK=>?_)
     go_simp
     refine (uQ RD).mono ?_
     rintro e w5 ⟨xa,xc,bs,rfl,hA5⟩
     obtain ⟨g',cap',w6,hrun,hB6,hR6,hn6,hb5,hb6,hb7⟩:=uQ HPU w5 xa xc bs hA5
     have HR6:=hZq hR6
     have f6:=hB6.froz i
     have hb5:=And.intro hb5.1 (And.intro (hb5.2.cell (i:=0) (v:= .slice sa n sc) rfl) (hb5.2.cell (i:=1) (v:= .int .i64 wi) rfl))
     have hb6:=And.intro hb6.1 (And.intro (hb6.2.cell (i:=0) (v:= .slice sa n sc) rfl) (hb6.2.cell (i:=1) (v:= .int .i64 wi) rfl))
     have hb7:=And.intro hb7.1 (And.intro (hb7.2.cell (i:=0) (v:= .slice sa n sc) rfl) (hb7.2.cell (i:=1) (v:= .int .i64 wi) rfl))
     refine hK _ _ (Or.inr hb5) ?_
     clear hK K
     try simp only[Act.put,zz1,zz2,zz3]
     refine q01 (i:=11) rfl (by kernel_rfl) (fun K hK=>?_)
     go_simp
     refine hK _ _ (Or.inr hb6) ?_
     clear hK K
     try simp only[Act.put,zz1,zz2,zz3]
     refine q01 (i:=12) rfl (by kernel_rfl) (fun K hK=>?_)
     refine q11 rfl (.tmp 46) (.tmp 52) 146 rfl rfl rfl hrun ?_
     refine hK _ _ (Or.inr hb7) ?_
     clear hK K
     try simp only[Act.put,zz1,zz2,zz3]
     refine zzL (i:=13) (v:=?_) rfl (Or.inl ⟨by rfl,?_⟩) hb7 ?_
     rotate_left
     ·intro w0 s9;(try dsimp only at s9);go_simp;(try with_reducible rfl)
     try simp only[Act.put,zz1,zz2,zz3]
     refine q01 (i:=14) rfl (by kernel_rfl) (fun K hK=>?_)
     go_simp
     refine hK _ _ (Or.inl rfl) ?_
     clear hK K
     try simp only[Act.put,zz1,zz2,zz3]
     refine q0c (by kernel_rfl) ?_ _
     have HFIN:Hid (RoA Wp Wp.heap.size SS n (i+1) [] _ _ _):=hZq (RoA.next (i:=i) (by
      have hT:rdT SS i=rdA SS i++[i+1]:=by unfold rdT;rw[if_pos (by rw[HSL];exact hin)]
      rw[hT]
      exact uQ HR6))
     clear HR6 hn6 hrun hB6 hb5 hb6 hb7
     go_wp2
     go_roundw
     case rel=>exact ⟨i+1,_,_,by omega,by go_num,HFIN⟩
     case measure=>simp[intOf];omega
    ·have hdc:decide (i+1<n)=false:=zK hin
     rw[hdc]at m2
     have HFIN:Hid (RoA Wp Wp.heap.size SS n (i+1) [] rs R wc):=hZq (RoA.next (i:=i) (by
      have hT:rdT SS i=rdA SS i:=by unfold rdT;rw[if_neg (by rw[HSL];exact hin),List.append_nil]
      rw[hT]
      exact (uQ HRO).1))
     clear HRO HPU0 RD0 HPB HKW BG HBG
     go_wp2
     go_roundw
     case rel=>exact ⟨i+1,_,_,by omega,by go_num,HFIN⟩
     case measure=>simp[intOf];omega
  ·obtain rfl:i=n:=by omega
   have hC:=uQ HC
   have hsz:=uQ HSZ
   have hkw:=uQ HKW wr hC.ro.kp
   clear HC HPU0 RD0 HPB HKW BG HBG
   go_wp2
   go_ret
   refine ⟨by rw[<-hsz];rfl,rs,R,?_,hC.ln,fun j r hr=>hC.dn j r ?_ hr⟩
   ·rw[<-hsz]
    exact ⟨hC.ro.row,hC.ro.len,hC.ro.ins,hC.ro.nd,hC.ro.az,hC.ro.nw,hkw,by omega⟩
   ·have:=(zC.1 hr).1
    rw[hC.ln]at this
    exact this
end Go.Proofs.YtfgkikeeadlcfaaGreatDoor
namespace Go.Proofs.YtfgkikeeadlcfaaGreatDoor.Mt
def all (P:Pm)(en:Nat)(T:List (List Nat)):List (List (List Nat)):=dfs P en (P.len+1) T
def alo (P:Pm)(en:Nat)(T:List (List Nat))(t:Nat):List (List (List Nat)):=alg P en (P.len+1) T t
def wal (P:Pm)(en:Nat)(T:List (List Nat))(t q:Nat):List (List (List Nat)):=wlk P en (P.len+1) T t q
theorem all_unf {P:Pm}{en:Nat}(T:List (List Nat))(hen:en<=P.len)(h1:1<=P.len):all P en T=(if T.length=P.N then [T] else [])++(rds P T).flatMap (alo P en T):=by
 unfold all
 rw[q0N]
 congr 1
 refine q0S fun t _=>?_
 unfold alo alg
 refine q0S fun q hq=>?_
 obtain ⟨m,hm⟩: ∃m,P.len=m+1:=⟨P.len-1,by omega⟩
 rw[hm]
 exact (qaU m _ (by rw[endT_ext];omega)).symm
theorem wal_end {P:Pm}{en t q:Nat}{T:List (List Nat)}(h:en<=q):wal P en T t q=[]:=qdU h
theorem wal_step {P:Pm}{en t q:Nat}{T:List (List Nat)}(hp:endT T<q)(hb:btw P T t (endT T) q=true)(hq:q<en):wal P en T t q=(if P.H t (las T t) q=true then all P en (ext T t q) else [])++(if opn P T t q=true then wal P en T t (q+1) else []):=qcl hp hb hq
theorem wal_loop {P:Pm}{ask:Nat->Nat->Bool}(hA:Asks P ask){en s q:Nat}{T:List (List Nat)}(hen:en<=P.len)(hs:s+1=T.length)(hm:P.many s=true)(hp:endT T<q)(hb:btw P T s (endT T) q=true)(hq:q<en)(hH:P.H s (las T s) q=true)(hd:all P en (ext T s q)=[]):wal P en T s (q+1)=[]:=qck hA hs hm hp hb hq hH (by omega) hd
theorem fnd_all (P:Pm)(wi:Nat):fnd P wi=(List.range P.len).reverse.flatMap fun x=>if P.H 0 [] x=true then all P (min (x+wi) P.len) [[x]] else []:=rfl
def spE (az:List Nat)(T:List (List Nat))(i:Nat):Nat:=if i∈az then lst (T.getD i []) else 0
def Dd (P:Pm)(en q fr tz:Nat)(az:List Nat)(f:Nat->Nat):Prop:= ∀T:List (List Nat),T.length=fr+1->endT T=q->(∀i,i<8->spE az T i=f i)->alo P en T tz=[]
theorem Dd.of {P:Pm}{ask:Nat->Nat->Bool}(hA:Asks P ask){en q fr tz:Nat}{az:List Nat}(has: ∀i,i<fr-> ∀t,tz<=t->ask t i=true->i∈az)(h8: ∀i∈az,i<8){U:List (List Nat)}(hU:U.length=fr+1)(hq:endT U=q)(hto:tz=fr\/tz=fr+1)(hen:en<=P.len)(hd:alo P en U tz=[]):Dd P en q fr tz az (spE az U):=by
 intro T hT hq' hsp
 have hne:T≠[]:=fun e=>by rw[e]at hT;simp at hT
 have hal:Alk ask tz T U:=by
  refine ⟨by omega,by omega,fun i hi t ht ha=>?_⟩
  have him:=has i (by omega) t ht ha
  have:=hsp i (h8 i him)
  unfold spE at this
  rw[if_pos him,if_pos him]at this
  have g1:T[i]?=some T[i]:=zE (by omega)
  have g2:U[i]?=some (U[i]'(by omega)):=zE (by omega)
  rw[List.getD_eq_getElem?_getD,List.getD_eq_getElem?_getD,g1,g2]at this
  rw[g1,g2]
  simpa using this
 exact hal.dead hA hne (by omega) (by omega) hd
theorem Dd.less {P:Pm}{en en' q fr tz:Nat}{az:List Nat}{f:Nat->Nat}(h:Dd P en q fr tz az f)(hle:en'<=en)(hen:en<=P.len):Dd P en' q fr tz az f:=fun T hT hq hsp=>qaz hle (f:=P.len) (by omega) (h T hT hq hsp)
def apN (az L:List Nat)(q:Nat):Nat:=match az with
 |[]=>0
 |i::_=>q-L.getD i 0
def NtOk (P:Pm)(t W:Nat)(az:List Nat)(row:List Int):Prop:= ∀(j:Nat) (v:Int),row[j]?=some v->v=0\/((v=1\/v=2)/\ ∀(L:List Nat) (q:Nat),L.length=t->(∀i∈az.head?,L.getD i 0<=q)->j=q * W+apN az L q->apN az L q<W->P.H t L q=decide (v=2))
theorem NtOk.zero (P:Pm)(t W:Nat)(az:List Nat)(n:Nat):NtOk P t W az (List.replicate n 0):=fun j v h=>by
 have:=List.mem_of_getElem? h
 exact Or.inl (List.eq_of_mem_replicate this)
theorem NtOk.put {P:Pm}{ask:Nat->Nat->Bool}(hA:Asks P ask){t W:Nat}{az:List Nat}{row:List Int}(h:NtOk P t W az row)(has: ∀i,ask t i=true->i∈az)(h1:az.length<=1)(hlt: ∀i∈az,i<t){L:List Nat}{q:Nat}(hL:L.length=t)(hle: ∀i∈az.head?,L.getD i 0<=q)(hap:apN az L q<W){v:Int}(hv:v=1\/v=2)(hH:P.H t L q=decide (v=2)):NtOk P t W az (row.set (q * W+apN az L q) v):=by
 intro j u hu
 rw[List.getElem?_set]at hu
 by_cases e:q * W+apN az L q=j
 ·rw[if_pos e]at hu
  split at hu
  ·cases hu
   refine Or.inr ⟨hv,fun L' q' hL' hle' hj hap'=>?_⟩
   rw[<-hH]
   have hqq:q'=q:=by
    have h2:q' * W+apN az L' q'=q * W+apN az L q:=by omega
    have hW:0<W:=by omega
    have e1:(q' * W+apN az L' q') / W=q':=by rw[Nat.mul_comm,Nat.mul_add_div hW,Nat.div_eq_of_lt hap'];rfl
    have e2:(q * W+apN az L q) / W=q:=by rw[Nat.mul_comm,Nat.mul_add_div hW,Nat.div_eq_of_lt hap];rfl
    rw[<-e1,h2,e2]
   subst hqq
   have hapq:apN az L' q'=apN az L q':=by omega
   refine hA t L' L q' (by omega) (fun i hi=>?_)
   have him:=has i hi
   match az,h1,him with
   |[a],_,him=>
    rw[zD]at him
    subst him
    have g:=hlt i (by simp)
    have l1:=hle i (by simp)
    have l2:=hle' i (by simp)
    unfold apN at hapq
    simp only at hapq
    have e1:L[i]?=some L[i]:=zE (by omega)
    have e2:L'[i]?=some (L'[i]'(by omega)):=zE (by omega)
    rw[e1,e2]
    simp only[List.getD_eq_getElem?_getD,e1,e2,Option.getD_some]at l1 l2 hapq
    simp only[Option.some.injEq]
    omega
  ·cases hu
 ·rw[if_neg e]at hu
  exact h j u hu
end Go.Proofs.YtfgkikeeadlcfaaGreatDoor.Mt
namespace Go.Proofs.YtfgkikeeadlcfaaGreatDoor
open Go.RowKit Go.Shelf
theorem NmsAt.take {w:World}{ad:Option Addr}{l:List ByteArray}(h:NmsAt w ad l)(n:Nat):NmsAt w ad (l.take n):=fun hl=>by
 obtain ⟨b,off,e,hlt,hc⟩:=h (fun e=>hl (by rw[e];simp))
 refine ⟨b,off,e,hlt,fun i hi=>?_⟩
 rw[zL]at hi
 rw[List.getElem_take]
 exact hc i (by omega)
theorem EvsAt.take {w:World}{ad:Option Addr}{l:List Ev}(h:EvsAt w ad l)(n:Nat):EvsAt w ad (l.take n):=fun hl=>by
 obtain ⟨b,off,e,hlt,hc⟩:=h (fun e=>hl (by rw[e];simp))
 refine ⟨b,off,e,hlt,fun i x hx=>hc i x ?_⟩
 rw[List.getElem?_take]at hx
 split at hx
 ·exact hx
 ·cases hx
theorem qbn (k:HK)(T:List (List Nat))(t:Nat):(hkL k T).take t=Mt.lasE k.es (Mt.las T t):=by
 unfold hkL Mt.lasE Mt.las
 rw[List.take_length, <-List.map_take, <-List.map_take]
theorem qai (al:Option Addr)(n cl t:Nat)(h:t<=n)(hc:n<=cl)(hz: ∀a,al=some a->a.spot=none)(hn:al=none->n=0/\cl=0)(W:World):(Instr.slice 25 (.slice al n cl) none (some (.int .i64 (t:Int))) none).run Tryz.prog W= .ok (.slice al t cl) W:=by
 have h3:(t:Int)<=(cl:Int):=by omega
 cases al with
 |none=>
  obtain ⟨rfl,rfl⟩:=hn rfl
  obtain rfl:t=0:=by omega
  simp[Instr.slice,Instr.sliceBounds,run_underlying Tryz.underlying25,Tryz.sizeOf30,go_sem]
 |some a=>
  simp[Instr.slice,Instr.sliceBounds,run_underlying Tryz.underlying25,Tryz.sizeOf30,go_sem,h3]
theorem qeS (a:Addr)(n cl t:Nat)(h:t<=n)(hc:n<=cl)(W:World):(Instr.slice 102 (.slice (some a) n cl) none (some (.int .i64 (t:Int))) none).run Tryz.prog W= .ok (.slice (some a) t cl) W:=by
 have h3:(t:Int)<=(cl:Int):=by omega
 simp[Instr.slice,Instr.sliceBounds,run_underlying Tryz.underlying102,Tryz.sizeOf9,go_sem,h3]
theorem HK.H_eq (k:HK)(t:Nat)(ht:t<k.l.length)(L:List Nat)(q:Nat)(hq:q<k.es.length):k.P.H t L q=hdB k.l[t].s.cd ⟨k.es[q],(q00 (stgs k.l)).take t,Mt.lasE k.es L⟩:=by
 show Mt.Hp k.p k.es t L q=_
 unfold Mt.Hp
 have h1:k.p.ss[t]?=some k.l[t].s:=by
  show (stgs k.l)[t]?=_
  rw[zE (by rw[q02];exact ht),q0L ht]
 rw[h1]
 dsimp only
 rw[List.getD_eq_getElem?_getD,zE hq]
 rfl
theorem q1P (k:HK)(hI:HkI k)(w:World)(T:List (List Nat))(pv lv:Value)(vs:List Value)(h:HkS k w T (hkL k T) pv lv vs)(t q:Nat)(ht:t<k.l.length)(htT:t<=T.length)(hq:q<k.es.length):
  Calls Tryz.prog 44 #[.pointer (some ⟨k.gt,0,none⟩), .int .i64 (t:Int), .int .i64 (q:Int)] w fun e w'=>e= .returned (.bool (k.P.H t (Mt.las T t) q))/\Kp [] w w':=by
 rw[k.H_eq t ht _ q hq]
 have hd:=h.al (Kp.drew w)
 have kb:=hd.kb hI
 obtain ⟨sb,so,hsa, -, -, -, -,s3,hpt⟩:=(hI.st.kp kb).at t ht
 have hev:=hI.ev.kp kb (by simp)
 obtain ⟨eb,eo,hea,e0,e1,e2,e3,e4,e5,e6⟩:=hev.seven q hq
 have hnm:=(hI.nm.kp hd.kp hI.nf).take t
 obtain ⟨nb,no,hna,_⟩:=(hI.nm.kp hd.kp hI.nf) (fun e=>by have:=congrArg List.length e;rw[q0F,q02]at this;have h0:([]:List ByteArray).length=0:=rfl;omega)
 have htk:=qbn k T t
 have hln:(hkL k T).length=T.length:=by unfold hkL;rw[q3J,q61]
 obtain ⟨al,cl,hlv,hle,hcl,hsp,hno⟩: ∃al cl,lv= .slice al T.length cl/\EvsAt w.drew al (hkL k T)/\T.length<=cl/\(∀a,al=some a->a.spot=none)/\(al=none->T.length=0/\cl=0):=by
  obtain ⟨a,c,e,hat⟩:=hd.la.at
  rw[hln]at e
  obtain ⟨_,⟨e2,h1⟩|⟨g,cap,cur,e2,_,hh,hc,_⟩⟩:=id hd.la
  ·rw[hln]at h1
   rw[e]at e2
   injection e2 with e3 e4 e5
   exact ⟨a,c,e,hat,by omega,by rw[e3];simp,fun _=>⟨h1,e5⟩⟩
  ·rw[hln]at hc
   rw[e]at e2
   injection e2 with e3 e4 e5
   refine ⟨a,c,e,hat,by omega,fun x hx=>?_,fun hx=>?_⟩
   ·rw[e3]at hx;cases hx;rfl
   ·rw[e3]at hx;cases hx
 have hlt:=hle.take t
 rw[htk]at hlt
 have hsE:=hZq (qai al T.length cl t htT hcl hsp hno)
 have hsN:=hZq (qeS ⟨nb,no,none⟩ k.l.length k.cn t (by omega) hI.cn)
 have HH:=hZq (q9y k.l[t].ad (some ⟨nb,no,none⟩) al k.l[t].c k.cn cl k.l[t].s.cd k.es[q] ((q00 (stgs k.l)).take t) (Mt.lasE k.es (Mt.las T t)) w.drew hpt (by rw[<-hna];exact hnm) (by rw[zL,q0F,q02];have:=hI.l8;omega) hlt (hI.tb.kp kb (by simp)) (hI.ft _ (zJ ht)))
 have hl1:((q00 (stgs k.l)).take t).length=t:=by rw[zL,q0F,q02];omega
 have hl2:(Mt.lasE k.es (Mt.las T t)).length=t:=by rw[q3J,Mt.las_len htT]
 rw[hl1,hl2]at HH
 have b0:w.drew.cell? ⟨k.gt,0,none⟩=some (.slice (some ⟨sb,so,none⟩) k.l.length k.sc):=by rw[<-hsa];exact hd.box.cell rfl
 have b2:w.drew.cell? ⟨k.gt,2,none⟩=some (.slice (some ⟨eb,eo,none⟩) k.es.length k.ec):=by rw[<-hea];exact hd.box.cell rfl
 have b3:w.drew.cell? ⟨k.gt,3,none⟩=some (.slice (some ⟨nb,no,none⟩) k.l.length k.cn):=by rw[<-hna];exact hd.box.cell rfl
 have b5:w.drew.cell? ⟨k.gt,5,none⟩=some (.slice al T.length cl):=by rw[<-hlv];exact hd.box.cell rfl
 have hti:(t:Int)<(k.l.length:Int):=by omega
 have hqi:(q:Int)<(k.es.length:Int):=by omega
 have hl8:=hI.l8
 have hel:=hI.el
 clear hI hd kb hpt hev hnm htk hln hle hlt hsa hea hna hlv h hl1 hl2 hno hsp
 generalize hdB k.l[t].s.cd ⟨k.es[q],(q00 (stgs k.l)).take t,Mt.lasE k.es (Mt.las T t)⟩=B at *
 generalize hdE k.l[t].s.cd ⟨k.es[q],(q00 (stgs k.l)).take t,Mt.lasE k.es (Mt.las T t)⟩=E at *
 generalize k.l[t].s.cd.length=m at *
 generalize k.l[t].ad=ad at *
 generalize k.l[t].c=sc at *
 generalize k.es[q]=ev at *
 obtain ⟨ek,et,n0,n1,n2,n3,ex⟩:=ev
 unfold Ev.c at HH
 dsimp only at HH e0 e1 e2 e3 e4 e5 e6
 generalize k.l.length=N at *
 generalize k.es.length=M at *
 have cS:w.drew.cell? ⟨k.gt,0,none⟩=some (.slice (some ⟨sb,so,none⟩) N k.sc)/\w.drew.cell? ⟨k.gt,2,none⟩=some (.slice (some ⟨eb,eo,none⟩) M k.ec)/\w.drew.cell? ⟨k.gt,3,none⟩=some (.slice (some ⟨nb,no,none⟩) N k.cn)/\w.drew.cell? ⟨k.gt,5,none⟩=some (.slice al T.length cl)/\w.drew.cell? ⟨sb,so+t * 4+3,none⟩=some (.slice ad m sc)/\w.drew.cell? ⟨eb,eo+q * 7,none⟩=some (.string ek)/\w.drew.cell? ⟨eb,eo+q * 7+1,none⟩=some (.string et)/\w.drew.cell? ⟨eb,eo+q * 7+2,none⟩=some (.int .i64 n0)/\w.drew.cell? ⟨eb,eo+q * 7+3,none⟩=some (.int .i64 n1)/\w.drew.cell? ⟨eb,eo+q * 7+4,none⟩=some (.int .i64 n2)/\w.drew.cell? ⟨eb,eo+q * 7+5,none⟩=some (.int .i64 n3)/\w.drew.cell? ⟨eb,eo+q * 7+6,none⟩=some (.string ex):=⟨b0,b2,b3,b5,s3,e0,e1,e2,e3,e4,e5,e6⟩
 have HS:Hid (∀W,Below w.drew.heap.size w.drew W->W.cell? ⟨k.gt,0,none⟩=some (.slice (some ⟨sb,so,none⟩) N k.sc)/\W.cell? ⟨k.gt,2,none⟩=some (.slice (some ⟨eb,eo,none⟩) M k.ec)/\W.cell? ⟨k.gt,3,none⟩=some (.slice (some ⟨nb,no,none⟩) N k.cn)/\W.cell? ⟨k.gt,5,none⟩=some (.slice al T.length cl)/\W.cell? ⟨sb,so+t * 4+3,none⟩=some (.slice ad m sc)/\W.cell? ⟨eb,eo+q * 7,none⟩=some (.string ek)/\W.cell? ⟨eb,eo+q * 7+1,none⟩=some (.string et)/\W.cell? ⟨eb,eo+q * 7+2,none⟩=some (.int .i64 n0)/\W.cell? ⟨eb,eo+q * 7+3,none⟩=some (.int .i64 n1)/\W.cell? ⟨eb,eo+q * 7+4,none⟩=some (.int .i64 n2)/\W.cell? ⟨eb,eo+q * 7+5,none⟩=some (.int .i64 n3)/\W.cell? ⟨eb,eo+q * 7+6,none⟩=some (.string ex)):=hZq (fun W hb=>by
  have k1:=Kp.ofBelow hb
  exact ⟨k1.cell b0 (by simp),k1.cell b2 (by simp),k1.cell b3 (by simp),k1.cell b5 (by simp),k1.cell s3 (by simp),k1.cell e0 (by simp),k1.cell e1 (by simp),k1.cell e2 (by simp),k1.cell e3 (by simp),k1.cell e4 (by simp),k1.cell e5 (by simp),k1.cell e6 (by simp)⟩)
 clear b0 b2 b3 b5 s3 e0 e1 e2 e3 e4 e5 e6
 generalize T.length=n at *
 have hE1:=fun W=>uQ hsE W
 have hN1:=fun W=>uQ hsN W
 go_enter Tryz.func44,Tryz.ntmps44
 go_wp2_with fail
 go_region_held3 (fun W=>W.cell? ⟨k.gt,0,none⟩=some (.slice (some ⟨sb,so,none⟩) N k.sc)/\W.cell? ⟨k.gt,2,none⟩=some (.slice (some ⟨eb,eo,none⟩) M k.ec)/\W.cell? ⟨k.gt,3,none⟩=some (.slice (some ⟨nb,no,none⟩) N k.cn)/\W.cell? ⟨k.gt,5,none⟩=some (.slice al n cl)/\W.cell? ⟨sb,so+t * 4+3,none⟩=some (.slice ad m sc)/\W.cell? ⟨eb,eo+q * 7,none⟩=some (.string ek)/\W.cell? ⟨eb,eo+q * 7+1,none⟩=some (.string et)/\W.cell? ⟨eb,eo+q * 7+2,none⟩=some (.int .i64 n0)/\W.cell? ⟨eb,eo+q * 7+3,none⟩=some (.int .i64 n1)/\W.cell? ⟨eb,eo+q * 7+4,none⟩=some (.int .i64 n2)/\W.cell? ⟨eb,eo+q * 7+5,none⟩=some (.int .i64 n3)/\W.cell? ⟨eb,eo+q * 7+6,none⟩=some (.string ex))
  (first|with_reducible exact cS|exact uQ HS _ (by assumption))
  (first
   |(go_at_call 70;refine (uQ HH).mono ?_;rintro e w3 ⟨rfl,hb3⟩))
 have hk3:Kp [] w w3:=(Kp.drew w).trans (Kp.ofBelow hb3) (by simp)
 clear HH HS cS hE1 hN1 hsE hsN
 go_wp2
 go_ret
 exact ⟨rfl,hk3⟩
structure XK where
 k:HK
 gx:Nat
 W:Nat
 Z:Nat
 av:Value
 nv:Value
 nvs:List Value
def XK.ss (x:XK):List Stg:=stgs x.k.l
structure XkI (x:XK):Prop where
 hI:HkI x.k
 hp:(pcR x.k.p).2=0
 wi:x.k.wi=(x.W:Int)
 zz:x.Z=x.k.es.length * x.W
 xb: ∀w,Kp x.k.F0 x.k.w0 w->CBox x.gx #[.pointer (some ⟨x.k.gt,0,none⟩),x.av,x.nv] 139 w
 az: ∀w,Kp x.k.F0 x.k.w0 w-> ∀t,t<x.k.l.length-> ∃ga ca b c,x.av= .slice (some ⟨ga,0,none⟩) x.k.l.length ca/\w.cell? ⟨ga,t,none⟩=some (.slice b (asT x.ss t).length c)/\IntsAt w b ((asT x.ss t).map Int.ofNat)
 nz: ∀w,Kp x.k.F0 x.k.w0 w-> ∀t,t<x.k.l.length-> ∃gn cn v,x.nv= .slice (some ⟨gn,0,none⟩) x.k.l.length cn/\x.nvs[t]?=some v/\w.cell? ⟨gn,t,none⟩=some v/\(1<(asT x.ss t).length->v= .slice none 0 0)/\((asT x.ss t).length<=1-> ∃b,v= .slice (some ⟨b,0,none⟩) x.Z x.Z/\b∈x.k.F0)
 nd: ∀(i j:Nat) (a b:Value) (k:Nat),x.nvs[i]?=some a->x.nvs[j]?=some b->a.ownBlock=some k->b.ownBlock=some k->i=j
def NtS (x:XK)(w:World):Prop:= ∀(t b:Nat),x.nvs[t]?=some (.slice (some ⟨b,0,none⟩) x.Z x.Z)-> ∃row,CBox b (ntR row) 151 w/\row.length=x.Z/\Mt.NtOk x.k.P t x.W (asT x.ss t) row
def ntF (x:XK):List Nat:=x.nvs.flatMap fun u=>u.ownBlock.toList
theorem NtS.kp {x:XK}{w w':World}{F:List Nat}(h:NtS x w)(hk:Kp F w w')(hF: ∀b∈ntF x,b∉F):NtS x w':=fun t b hb=>by
 obtain ⟨row,h1,h2⟩:=h t b hb
 exact ⟨row,h1.kp hk (hF b (by unfold ntF;rw[List.mem_flatMap];exact ⟨_,List.mem_of_getElem? hb,by simp[Value.ownBlock]⟩)),h2⟩
theorem q62 {T:List (List Nat)}{t i:Nat}(hi:i<t):(Mt.las T t).getD i 0=Mt.lst (T.getD i []):=by
 rw[List.getD_eq_getElem?_getD,Mt.las_at hi,List.getD_eq_getElem?_getD]
 cases T[i]? with
 |none=>rfl
 |some a=>rfl
theorem q8X (x:XK)(hX:XkI x)(w:World)(T:List (List Nat))(L:List Ev)(pv lv:Value)(vs:List Value)(h:HkS x.k w T L pv lv vs)(t q:Nat)(ht:t<x.k.l.length)(htT:t<=T.length)(hne: ∀l∈T,l≠[]/\l.length<=4096)(hq:q<=4096)(hle: ∀i∈(asT x.ss t).head?,(Mt.las T t).getD i 0<=q):
  Calls Tryz.prog 87 #[.pointer (some ⟨x.gx,0,none⟩), .int .i64 (t:Int), .int .i64 (q:Int)] w fun e w'=>e= .returned (.int .i64 ((Mt.apN (asT x.ss t) (Mt.las T t) q:Nat):Int))/\Kp [] w w':=by
 have hl8:=hX.hI.l8
 have hti:(t:Int)<(x.k.l.length:Int):=by omega
 have b0:=hX.xb w h.kp
 obtain ⟨ga,ca,ab,ac,hav,a0,ai⟩:=hX.az w h.kp t ht
 have c1:w.cell? ⟨x.gx,1,none⟩=some (.slice (some ⟨ga,0,none⟩) x.k.l.length ca):=by rw[<-hav];exact b0.cell rfl
 cases has:asT x.ss t with
 |nil=>
  rw[has]at a0
  have e:Mt.apN [] (Mt.las T t) q=0:=rfl
  rw[e]
  clear h hX b0 ai hne hle has
  generalize x.k.l.length=n at *
  go_enter Tryz.func87,Tryz.ntmps87
  go_wp2
  go_ret
  exact ⟨rfl,Kp.refl _ _⟩
 |cons i r=>
  have hit:i<t:=q5q hX.hp t i (by show i∈asT x.ss t;rw[has];simp)
  have hiT:i<T.length:=by omega
  have hTi:T[i]?=some T[i]:=zE hiT
  obtain ⟨hn1,hn2⟩:=hne _ (zJ hiT)
  have hgd:T.getD i []=T[i]:=by rw[List.getD_eq_getElem?_getD,hTi];rfl
  have hla:(Mt.las T t).getD i 0=Mt.lst T[i]:=by rw[q62 hit,hgd]
  have hlq:Mt.lst T[i]<=q:=by rw[<-hla];exact hle i (by rw[has];simp)
  have e:((Mt.apN (i::r) (Mt.las T t) q:Nat):Int)=(q:Int)-(Mt.lst T[i]:Int):=by
   unfold Mt.apN
   dsimp only
   rw[hla]
   omega
  rw[e]
  rw[has]at a0 ai
  obtain ⟨gb,go,hab,hgb,hcs⟩:=ai (by simp)
  have i0:=hcs 0 (by simp)
  rw[Nat.add_zero]at i0
  have i0':w.cell? ⟨gb,go,none⟩=some (.int .i64 (i:Int)):=i0
  have LA:=hZq (fun W (hk:Kp [] w W)=>q5a x.k W T L pv lv vs (h.al hk) i T[i] hTi hn1 (by omega))
  have cS:w.drew.cell? ⟨x.gx,0,none⟩=some (.pointer (some ⟨x.k.gt,0,none⟩))/\w.drew.cell? ⟨x.gx,1,none⟩=some (.slice (some ⟨ga,0,none⟩) x.k.l.length ca)/\w.drew.cell? ⟨ga,t,none⟩=some (.slice (some ⟨gb,go,none⟩) (i::r).length ac)/\w.drew.cell? ⟨gb,go,none⟩=some (.int .i64 (i:Int)):=⟨b0.cell rfl,c1,by rw[<-hab];exact a0,i0'⟩
  rw[hab]at a0
  have hlb:(Mt.lst T[i]:Int)<=(q:Int):=by omega
  have hw1:IntKind.i64.wrap ((q:Int)-(Mt.lst T[i]:Int))=(q:Int)-(Mt.lst T[i]:Int):=by simp only[IntKind.wrap_i64];omega
  have HK:=hZq (Kp.drew w)
  clear h hX b0 ai hne hle has hcs i0 i0' hgd hla hlq e hTi hn1 hn2 hab hgb
  generalize Mt.lst T[i]=la at *
  generalize x.k.l.length=n at *
  rw[List.length_cons]at a0 cS
  generalize r.length=rl at *
  have grl:(((rl:Int)+1)==0)=false:=beq_eq_false_iff_ne.2 (by omega)
  have gr0:(0:Int)<(rl:Int)+1:=by omega
  go_enter Tryz.func87,Tryz.ntmps87
  go_wp2_with fail
  go_region_held3 (fun W=>W.cell? ⟨x.gx,0,none⟩=some (.pointer (some ⟨x.k.gt,0,none⟩))/\W.cell? ⟨x.gx,1,none⟩=some (.slice (some ⟨ga,0,none⟩) n ca)/\W.cell? ⟨ga,t,none⟩=some (.slice (some ⟨gb,go,none⟩) (rl+1) ac)/\W.cell? ⟨gb,go,none⟩=some (.int .i64 (i:Int)))
   (first|with_reducible exact cS)
   (first
    |(go_at_call 112;refine (uQ LA _ (uQ HK)).mono ?_;rintro e w2 ⟨rfl,rfl⟩))
  clear LA cS
  go_wp2
  go_ret
  exact ⟨rfl,Kp.drew w⟩
theorem q69 {row:List Int}{j:Nat}{v:Int}(h:row[j]?=some v):(ntR row)[j]?=some (.int .i8 v):=by
 unfold ntR
 simp[h]
theorem q7T (row:List Int)(j:Nat)(v:Int):(ntR row).setIfInBounds j (.int .i8 v)=ntR (row.set j v):=by
 unfold ntR
 rw[List.setIfInBounds_toArray,List.map_set]
theorem NtS.put {x:XK}(hX:XkI x){w:World}(h:NtS x w){t b:Nat}(hv:x.nvs[t]?=some (.slice (some ⟨b,0,none⟩) x.Z x.Z)){row row':List Int}(hr:CBox b (ntR row) 151 w)(hl:row'.length=x.Z)(hok:Mt.NtOk x.k.P t x.W (asT x.ss t) row'){w':World}(hk:Kp [b] w w')(hr':CBox b (ntR row') 151 w'):NtS x w':=fun t2 b2 hb2=>by
 by_cases e:t2=t
 ·subst e
  rw[hv]at hb2
  injection hb2 with e1
  injection e1 with e2
  injection e2 with e3
  injection e3 with e4
  subst e4
  exact ⟨row',hr',hl,hok⟩
 ·obtain ⟨row2,h1,h2⟩:=h t2 b2 hb2
  refine ⟨row2,h1.kp hk (fun hm=>?_),h2⟩
  rw[zD]at hm
  subst hm
  exact e (hX.nd t2 t _ _ b2 hb2 hv rfl rfl)
theorem q4v (x:XK)(hX:XkI x)(w:World)(T:List (List Nat))(pv lv:Value)(vs:List Value)(h:HkS x.k w T (hkL x.k T) pv lv vs)(hN:NtS x w)(hFd: ∀b∈ntF x,b∉hkF x.k pv lv vs)(t q:Nat)(ht:t<x.k.l.length)(htT:t<=T.length)(hne: ∀l∈T,l≠[]/\l.length<=4096)(hq:q<x.k.es.length)(hle: ∀i∈(asT x.ss t).head?,(Mt.las T t).getD i 0<=q)(hap:Mt.apN (asT x.ss t) (Mt.las T t) q<x.W):
  Calls Tryz.prog 58 #[.pointer (some ⟨x.gx,0,none⟩), .int .i64 (t:Int), .int .i64 (q:Int)] w fun e w'=>e= .returned (.bool (x.k.P.H t (Mt.las T t) q))/\NtS x w'/\Kp (ntF x) w w':=by
 have hl8:=hX.hI.l8
 have hel:=hX.hI.el
 have hti:(t:Int)<(x.k.l.length:Int):=by omega
 have b0:=hX.xb w h.kp
 obtain ⟨gn,cn,v,hnv,hv,n0,hv1,hv2⟩:=hX.nz w h.kp t ht
 have c2:w.cell? ⟨x.gx,2,none⟩=some (.slice (some ⟨gn,0,none⟩) x.k.l.length cn):=by rw[<-hnv];exact b0.cell rfl
 have c0:w.cell? ⟨x.gx,0,none⟩=some (.pointer (some ⟨x.k.gt,0,none⟩)):=b0.cell rfl
 rcases Nat.lt_or_ge 1 (asT x.ss t).length with h1|h1
 ·have hvn:=hv1 h1
  subst hvn
  have TH:=hZq (q1P x.k hX.hI w T pv lv vs h t q ht htT hq)
  have HN:=hZq hN
  have qn: ∀W,(binOp .eql 141 (.slice none 0 0) (.slice none 0 0)).run Tryz.prog W= .ok (.bool true) W:=fun W=>by simp[binOp,run_equal_slice_nil W 141 151 none 0 0 Tryz.underlying141]
  clear h hX b0 hne hle hap hN hFd hv hv1 hv2 hnv
  generalize x.k.P.H t (Mt.las T t) q=B at *
  generalize x.k.l.length=n at *
  go_enter Tryz.func58,Tryz.ntmps58
  go_wp2_with fail
  refine (uQ TH).mono ?_
  rintro e w2 ⟨rfl,hk2⟩
  clear TH
  go_wp2
  go_ret
  exact ⟨rfl,(uQ HN).kp hk2 (by simp),hk2.mono (by simp)⟩
 ·obtain ⟨b,rfl,hbF⟩:=hv2 h1
  obtain ⟨row,hr,hrl,hok⟩:=hN t b hv
  have hbn:b∈ntF x:=by
   unfold ntF
   rw[List.mem_flatMap]
   exact ⟨_,List.mem_of_getElem? hv,by simp[Value.ownBlock]⟩
  obtain ⟨J,hJ⟩: ∃J,J=q * x.W+Mt.apN (asT x.ss t) (Mt.las T t) q:=⟨_,rfl⟩
  have hpc:=(q16 hX.hp).2.2.1
  have hW:x.W<=256:=by have h2:x.k.wi<=256:=hpc.2;have:=hX.wi;omega
  have hJZ:J<x.Z:=by
   rw[hX.zz,hJ]
   have h2:q * x.W+x.W<=x.k.es.length * x.W:=by
    rw[<-Nat.succ_mul]
    exact Nat.mul_le_mul_right _ hq
   omega
  have hZ:x.Z<=4096 * 256:=by rw[hX.zz];exact Nat.mul_le_mul hel hW
  have hrow:row[J]?=some row[J]:=zE (by rw[hrl];exact hJZ)
  have hvr:=hok J _ hrow
  have h4:q<=4096:=by omega
  have AP:=hZq (fun W (hk:Kp [] w W)=>q8X x hX W T (hkL x.k T) pv lv vs (h.al hk) t q ht htT hne h4 hle)
  have TH:=hZq (fun W (hs:HkS x.k W T (hkL x.k T) pv lv vs)=>q1P x.k hX.hI W T pv lv vs hs t q ht htT hq)
  have HST:Hid (∀(W:World) (i:Nat) (u:Value),HkS x.k W T (hkL x.k T) pv lv vs->HkS x.k (W.setCell ⟨b,i,none⟩ u) T (hkL x.k T) pv lv vs):=hZq (fun W i u hs=>hs.go (Kp.set W b i u) (fun y hy hm=>by
   rw[zD]at hm
   subst hm
   exact hFd y hbn hy) (fun y hy=>by
   rw[zD]at hy
   rw[hy]
   exact Or.inl hbF))
  have HXB:=hZq (fun W (hs:HkS x.k W T (hkL x.k T) pv lv vs)=>(hX.xb W hs.kp).cell (i:=0) (v:= .pointer (some ⟨x.k.gt,0,none⟩)) rfl)
  have HH:=hZq h
  have HFR:Hid (∀(W:World) (u:Int),Kp [] w W->(u=1\/u=2)->x.k.P.H t (Mt.las T t) q=decide (u=2)-> ∀W',Kp [b] W W'->CBox b (ntR (row.set J u)) 151 W'->NtS x W'/\Kp (ntF x) w W'):=hZq (fun W u hk hu hHu W' hk' hc'=>by
   refine ⟨(hN.kp hk (by simp)).put hX hv (hr.kp hk (by simp)) (by rw[List.length_set];exact hrl) ?_ hk' hc',(hk.mono (by simp)).trans hk' (fun y hy=>Or.inl (by rw[zD]at hy;rw[hy];exact hbn))⟩
   rw[hJ]
   exact hok.put (Mt.asks_pm x.k.p x.k.es) (fun i hi=>q93 hX.hp hi) h1 (q5q hX.hp t) (Mt.las_len htT) hle hap hu hHu)
  have HOLD:Hid (∀W,Kp [] w W->NtS x W/\Kp (ntF x) w W):=hZq (fun W hk=>⟨hN.kp hk (by simp),hk.mono (by simp)⟩)
  have HVR:Hid (row[J]=0\/((row[J]=1\/row[J]=2)/\x.k.P.H t (Mt.las T t) q=decide (row[J]=2))):=hZq (hvr.imp_right (fun hh=>⟨hh.1,hh.2 _ q (Mt.las_len htT) hle hJ hap⟩))
  have w1:w.drew.cell? ⟨x.k.gt,1,none⟩=some (.int .i64 (x.W:Int)):=by rw[<-hX.wi];exact (h.al (Kp.drew w)).box.cell rfl
  have HRC:Hid (∀W,Kp [] w W->CBox b (ntR row) 151 W):=hZq (fun W hk=>hr.kp hk (by simp))
  have cS:w.drew.cell? ⟨x.gx,0,none⟩=some (.pointer (some ⟨x.k.gt,0,none⟩))/\w.drew.cell? ⟨x.gx,2,none⟩=some (.slice (some ⟨gn,0,none⟩) x.k.l.length cn)/\w.drew.cell? ⟨gn,t,none⟩=some (.slice (some ⟨b,0,none⟩) x.Z x.Z)/\w.drew.cell? ⟨x.k.gt,1,none⟩=some (.int .i64 (x.W:Int)):=⟨c0,c2,n0,w1⟩
  have HS:Hid (∀W,Kp [] w.drew W->W.cell? ⟨x.gx,0,none⟩=some (.pointer (some ⟨x.k.gt,0,none⟩))/\W.cell? ⟨x.gx,2,none⟩=some (.slice (some ⟨gn,0,none⟩) x.k.l.length cn)/\W.cell? ⟨gn,t,none⟩=some (.slice (some ⟨b,0,none⟩) x.Z x.Z)/\W.cell? ⟨x.k.gt,1,none⟩=some (.int .i64 (x.W:Int))):=hZq (fun W hk=>⟨hk.cell cS.1 (by simp),hk.cell cS.2.1 (by simp),hk.cell cS.2.2.1 (by simp),hk.cell cS.2.2.2 (by simp)⟩)
  have qn: ∀W,(binOp .eql 141 (.slice (some ⟨b,0,none⟩) x.Z x.Z) (.slice none 0 0)).run Tryz.prog W= .ok (.bool false) W:=fun W=>by simp[binOp,run_equal_slice_nil W 141 151 (some ⟨b,0,none⟩) x.Z x.Z Tryz.underlying141]
  have hat:Hid ((ntR row)[J]?=some (.int .i8 row[J])):=hZq (q69 hrow)
  have HRS:Hid (∀u,(ntR row).setIfInBounds J (.int .i8 u)=ntR (row.set J u)):=hZq (fun u=>q7T row J u)
  obtain ⟨M1,hM1⟩: ∃M1,M1=q * x.W:=⟨_,rfl⟩
  have hm1:M1<=4096 * 256:=by rw[hM1];exact Nat.mul_le_mul h4 hW
  have hmul:IntKind.i64.wrap ((q:Int) * (x.W:Int))=(M1:Int):=by
   have h2:(q:Int) * (x.W:Int)=((q * x.W:Nat):Int):=by push_cast;rfl
   rw[h2, <-hM1]
   simp only[IntKind.wrap_i64]
   omega
  rw[<-hM1]at hJ
  have hadd:IntKind.i64.wrap ((M1:Int)+((Mt.apN (asT x.ss t) (Mt.las T t) q:Nat):Int))=(J:Int):=by
   simp only[IntKind.wrap_i64]
   omega
  have hJi:(J:Int)<(x.Z:Int):=by omega
  clear h hX b0 hne hle hN hFd hv hv1 hv2 hnv hr hok hvr hpc hM1 w1 c0 h1 hap hbF hbn hJ
  generalize x.k.P.H t (Mt.las T t) q=B at *
  generalize Mt.apN (asT x.ss t) (Mt.las T t) q=ap at *
  generalize x.k.l.length=n at *
  generalize row[J]=r0 at *
  clear hrow
  generalize x.Z=Z at *
  go_enter Tryz.func58,Tryz.ntmps58
  go_wp2_with fail
  go_region_held3 (fun W=>W.cell? ⟨x.gx,0,none⟩=some (.pointer (some ⟨x.k.gt,0,none⟩))/\W.cell? ⟨x.gx,2,none⟩=some (.slice (some ⟨gn,0,none⟩) n cn)/\W.cell? ⟨gn,t,none⟩=some (.slice (some ⟨b,0,none⟩) Z Z)/\W.cell? ⟨x.k.gt,1,none⟩=some (.int .i64 (x.W:Int)))
   (first|with_reducible exact cS|exact uQ HS _ (by assumption))
   (first
    |(go_at_call 87;refine (uQ AP _ (Kp.drew w)).mono ?_;rintro e w2 ⟨rfl,hk2⟩))
  have hkw2:Kp [] w w2:=(Kp.drew w).trans hk2 (by simp)
  have hs2:=(uQ HH).al hkw2
  have hr2:=uQ HRC w2 hkw2
  have d0:w2.cell? ⟨b,J,none⟩=some (.int .i8 r0):=hr2.cell (uQ hat)
  have f0:=hr2.froz J
  clear AP HS cS hk2 HRC hmul hadd
  rcases uQ HVR with rfl|⟨hr01,hB⟩
  ·clear HVR HOLD
   obtain ⟨w3,hw3⟩: ∃w3,w3=w2.setCell ⟨b,J,none⟩ (.int .i8 1):=⟨_,rfl⟩
   have hs3:HkS x.k w3 T (hkL x.k T) pv lv vs:=by rw[hw3];exact uQ HST w2 J _ hs2
   have hr3:CBox b (ntR (row.set J 1)) 151 w3:=by rw[hw3, <-uQ HRS];exact hr2.set J _
   have hk3:Kp [b] w2 w3:=by rw[hw3];exact Kp.set _ _ _ _
   have x3:=uQ HXB w3 hs3
   have T3:=hZq (uQ TH w3 hs3)
   have HFIN:=hZq (fun (u:Int) (hu:u=1\/u=2) (hHu:B=decide (u=2)) W' hk' hc'=>uQ HFR w2 u hkw2 hu hHu W' hk' hc')
   have HR3:=hZq hr3
   have HK3:=hZq hk3
   clear TH HST HXB HH HFR hs2 hkw2 hs3 hr3 hk3 hr2
   go_upto_region 6 with fail
   rw[<-hw3]
   clear hw3
   go_wp2_with fail
   refine (uQ T3).mono ?_
   rintro e w4 ⟨rfl,hk4⟩
   have hr4:=(uQ HR3).kp hk4 (by simp)
   have hl1:(row.set J 1)[J]?=some 1:=by rw[List.getElem?_set_self (by rw[hrl];exact hJZ)]
   have d4:w4.cell? ⟨b,J,none⟩=some (.int .i8 1):=hr4.cell (q69 hl1)
   have f4:=hr4.froz J
   have hk24:Kp [b] w2 w4:=(uQ HK3).trans hk4 (by simp)
   clear T3
   cases B with
   |true=>
    have hr5:=hr4.set J (.int .i8 2)
    rw[q7T,List.set_set]at hr5
    have hfin:=uQ HFIN 2 (Or.inr rfl) rfl _ (hk24.trans (Kp.set w4 b J (.int .i8 2)) (by simp)) hr5
    have d5:(w4.setCell ⟨b,J,none⟩ (.int .i8 2)).cell? ⟨b,J,none⟩=some (.int .i8 2):=hr5.cell (q69 (by rw[List.getElem?_set_self (by rw[hrl];exact hJZ)]))
    have HF:=hZq hfin
    clear HFIN HR3 HK3 hr4 hk4 hk24 hr5 hfin
    go_wp2
    go_ret
    exact ⟨rfl,uQ HF⟩
   |false=>
    have hfin:=uQ HFIN 1 (Or.inl rfl) rfl _ hk24 hr4
    have HF:=hZq hfin
    clear HFIN HR3 HK3 hr4 hk4 hk24 hfin
    go_wp2
    go_ret
    exact ⟨rfl,uQ HF⟩
  ·have hfin:=uQ HOLD w2 hkw2
   subst hB
   clear HVR HOLD TH HST HXB HH HFR hs2 hkw2 hr2
   rcases hr01 with rfl|rfl
   ·go_wp2
    go_ret
    exact ⟨rfl,hfin⟩
   ·go_wp2
    go_ret
    exact ⟨rfl,hfin⟩
section
open Go.RowKit Go.Shelf
open Go.ChangeMaps (setBlock)
structure Spt where
 fr:Nat
 td:Nat
 f:Nat->Nat
def Spt.a8 (x:Spt):Array Value:=#[.int .i16 (x.f 0:Int), .int .i16 (x.f 1:Int), .int .i16 (x.f 2:Int), .int .i16 (x.f 3:Int), .int .i16 (x.f 4:Int), .int .i16 (x.f 5:Int), .int .i16 (x.f 6:Int), .int .i16 (x.f 7:Int)]
def Spt.c (x:Spt):Array Value:=#[.int .i16 (x.fr:Int), .int .i16 (x.td:Int), .int .i16 (x.f 0:Int), .int .i16 (x.f 1:Int), .int .i16 (x.f 2:Int), .int .i16 (x.f 3:Int), .int .i16 (x.f 4:Int), .int .i16 (x.f 5:Int), .int .i16 (x.f 6:Int), .int .i16 (x.f 7:Int)]
def Spt.q (x y:Spt):Bool:=decide (x.fr=y.fr) && (decide (x.td=y.td) && (decide (x.f 0=y.f 0) && (decide (x.f 1=y.f 1) && (decide (x.f 2=y.f 2) && (decide (x.f 3=y.f 3) && (decide (x.f 4=y.f 4) && (decide (x.f 5=y.f 5) && (decide (x.f 6=y.f 6) && decide (x.f 7=y.f 7)))))))))
theorem Spt.q_iff (x y:Spt):x.q y=true↔x.fr=y.fr/\x.td=y.td/\ ∀i,i<8->x.f i=y.f i:=by
 unfold Spt.q
 simp only[Bool.and_eq_true,decide_eq_true_eq]
 constructor
 ·rintro ⟨h,h',h0,h1,h2,h3,h4,h5,h6,h7⟩
  refine ⟨h,h',fun i hi=>?_⟩
  match i,hi with
  |0,_=>exact h0
  |1,_=>exact h1
  |2,_=>exact h2
  |3,_=>exact h3
  |4,_=>exact h4
  |5,_=>exact h5
  |6,_=>exact h6
  |7,_=>exact h7
 ·rintro ⟨h,h',hf⟩
  exact ⟨h,h',hf 0 (by decide),hf 1 (by decide),hf 2 (by decide),hf 3 (by decide),hf 4 (by decide),hf 5 (by decide),hf 6 (by decide),hf 7 (by decide)⟩
theorem eqA8 (d:Nat)(x y:Spt)(w:World):(Op.equalIn (d+2) 194 (.agg x.a8) (.agg y.a8)).run Tryz.prog w= .ok (decide (x.f 0=y.f 0) && (decide (x.f 1=y.f 1) && (decide (x.f 2=y.f 2) && (decide (x.f 3=y.f 3) && (decide (x.f 4=y.f 4) && (decide (x.f 5=y.f 5) && (decide (x.f 6=y.f 6) && decide (x.f 7=y.f 7)))))))) w:=by
 have hi:=fun (a b:Int) (w:World)=>run_equalIn_int (P:=Tryz.prog) w d 193 .i16 .i16 a b Tryz.underlying193
 have hc: ∀a b:Nat,((a:Int)=(b:Int))=(a=b):=fun a b=>propext ⟨fun e=>by omega,fun e=>by omega⟩
 unfold Op.equalIn Spt.a8
 simp only[Sem.run_bind,run_underlying Tryz.underlying194,Result.andThen_ok]
 generalize x.f 0=a0,x.f 1=a1,x.f 2=a2,x.f 3=a3,x.f 4=a4,x.f 5=a5,x.f 6=a6,x.f 7=a7,y.f 0=b0,y.f 1=b1,y.f 2=b2,y.f 3=b3,y.f 4=b4,y.f 5=b5,y.f 6=b6,y.f 7=b7
 simp[part,Tryz.sizeOf193,go_sem,hi,hc,Std.Legacy.Range.forIn_eq_forIn_range',List.range'_succ]
 by_cases h0:a0=b0
 ·by_cases h1:a1=b1
  ·by_cases h2:a2=b2
   ·by_cases h3:a3=b3
    ·by_cases h4:a4=b4
     ·by_cases h5:a5=b5
      ·by_cases h6:a6=b6
       ·by_cases h7:a7=b7 <;> simp[h0,h1,h2,h3,h4,h5,h6,h7]
       ·simp[h0,h1,h2,h3,h4,h5,h6]
      ·simp[h0,h1,h2,h3,h4,h5]
     ·simp[h0,h1,h2,h3,h4]
    ·simp[h0,h1,h2,h3]
   ·simp[h0,h1,h2]
  ·simp[h0,h1]
 ·simp[h0]
theorem eqSp (d:Nat)(x y:Spt)(w:World):(Op.equalIn (d+3) 196 (.agg x.c) (.agg y.c)).run Tryz.prog w= .ok (x.q y) w:=by
 have hi:=fun (a b:Int) (w:World)=>run_equalIn_int (P:=Tryz.prog) w (d+1) 193 .i16 .i16 a b Tryz.underlying193
 have h8:=eqA8 d x y
 unfold Spt.a8 at h8
 have hc: ∀a b:Nat,((a:Int)=(b:Int))=(a=b):=fun a b=>propext ⟨fun e=>by omega,fun e=>by omega⟩
 unfold Spt.c Spt.q
 generalize (decide (x.f 0=y.f 0) && (decide (x.f 1=y.f 1) && (decide (x.f 2=y.f 2) && (decide (x.f 3=y.f 3) && (decide (x.f 4=y.f 4) && (decide (x.f 5=y.f 5) && (decide (x.f 6=y.f 6) && decide (x.f 7=y.f 7))))))))=Q at *
 unfold Op.equalIn
 simp only[Sem.run_bind,run_underlying Tryz.underlying196,Result.andThen_ok]
 simp[part,Tryz.sizeOf193,Tryz.sizeOf194,go_sem,hi,hc,h8]
 by_cases h0:x.fr=y.fr <;> by_cases h1:x.td=y.td <;> cases Q <;> simp[h0,h1]
theorem q43 (x:Spt)(c:Bool)(w:World):(Instr.checkKey c 10000 196 (.agg x.c)).run Tryz.prog w= .ok () w:=by
 unfold Instr.checkKey
 simp only[Sem.run_bind,run_underlying Tryz.underlying196,Result.andThen_ok]
 have hi: ∀(n:Nat) (a:Int),(Instr.checkKey c (n+1) 193 (.int .i16 a)).run Tryz.prog w= .ok () w:=fun n a=>MapKept.run_checkKey Tryz.underlying193 (by simp[MapKept.IsKey]) c n
 have h8:(Instr.checkKey c 9999 194 (.agg x.a8)).run Tryz.prog w= .ok () w:=by
  unfold Instr.checkKey
  simp only[Sem.run_bind,run_underlying Tryz.underlying194,Result.andThen_ok]
  simp[Spt.a8,part,Tryz.sizeOf193,go_sem,hi 9997,Std.Legacy.Range.forIn_eq_forIn_range',List.range'_succ]
 unfold Spt.a8 at h8
 simp[Spt.c,part,Tryz.sizeOf193,Tryz.sizeOf194,go_sem,hi 9998,h8]
def SetP (w:World)(b:Nat)(S:List Spt):Prop:= ∃es clock,w.heap[b]?=some (.map es clock)/\es.toList.map (fun e=>(e.key,e.val))=S.map (fun n=>(Value.agg n.c,Value.agg #[]))
theorem SetP.new (w:World):SetP (w.alloc (.map #[] 0)) w.heap.size []:=⟨#[],0,heap_alloc_new w _,rfl⟩
theorem SetP.kp {F:List Nat}{w w':World}{b:Nat}{S:List Spt}(h:SetP w b S)(hk:Kp F w w')(hF:b∉F):SetP w' b S:=by
 obtain ⟨es,c,h1,h2⟩:=h
 exact ⟨es,c,(hk.block b (zB.1 h1).1 hF).trans h1,h2⟩
theorem SetP.lt {w:World}{b:Nat}{S:List Spt}(h:SetP w b S):b<w.heap.size:=let ⟨_,_,h1,_⟩:=h;(zB.1 h1).1
def hasP (S:List Spt)(n:Spt):Bool:=S.any n.q
theorem Spt.q_c {x y:Spt}(h:x.q y=true):x.c=y.c:=by
 obtain ⟨h1,h2,hf⟩:=(Spt.q_iff x y).1 h
 unfold Spt.c
 rw[h1,h2,hf 0 (by decide),hf 1 (by decide),hf 2 (by decide),hf 3 (by decide),hf 4 (by decide),hf 5 (by decide),hf 6 (by decide),hf 7 (by decide)]
theorem qdJ (n:Spt):Instr.sameBits 10000 (.agg n.c) (.agg n.c)=true:=by
 simp[Instr.sameBits,Spt.c]
theorem q5u (n:Spt)(w:World): ∀(es:List MapEntry) (S:List Spt) (i:Nat),es.map (fun e=>(e.key,e.val))=S.map (fun n=>(Value.agg n.c,Value.agg #[]))->(hasP S n=false/\(Instr.findAsking 196 (.agg n.c) es i).run Tryz.prog w= .ok none w)\/(hasP S n=true/\ ∃j bn,es[j]?=some ⟨.agg n.c, .agg #[],bn⟩/\(Instr.findAsking 196 (.agg n.c) es i).run Tryz.prog w= .ok (some (i+j, .agg #[])) w)
 |[],S,_,h=>by
  cases S with
  |nil=>exact Or.inl ⟨rfl,by simp[Instr.findAsking]⟩
  |cons a b=>simp at h
 |e::es,[],_,h=>by simp at h
 |e::es,x::S,i,h=>by
  rw[List.map_cons,List.map_cons,List.cons.injEq]at h
  obtain ⟨h1,h2⟩:=h
  obtain ⟨k,v,bn⟩:=e
  simp only[Prod.mk.injEq]at h1
  obtain ⟨rfl,rfl⟩:=h1
  have:=eqSp 9997 n x w
  cases hq:n.q x with
  |true=>
   rw[hq]at this
   refine Or.inr ⟨by unfold hasP;rw[List.any_cons,hq];rfl,0,bn,by rw[Spt.q_c hq];rfl,?_⟩
   simp[Instr.findAsking,Op.equal,Op.maxDepth,this,Result.andThen]
  |false=>
   rw[hq]at this
   have hh:hasP (x::S) n=hasP S n:=by unfold hasP;rw[List.any_cons,hq];rfl
   rw[hh]
   refine (q5u n w es S (i+1) h2).imp (fun ⟨a,ih⟩=>⟨a,?_⟩) (fun ⟨a,j,b2,hj,ih⟩=>⟨a,j+1,b2,by simpa using hj,?_⟩)
   ·simp[Instr.findAsking,Op.equal,Op.maxDepth,this,ih,Result.andThen]
   ·rw[show i+(j+1)=i+1+j by omega]
    simp[Instr.findAsking,Op.equal,Op.maxDepth,this,ih,Result.andThen]
theorem SetP.look {w:World}{b:Nat}{S:List Spt}(h:SetP w b S)(n:Spt):(Instr.lookup 114 (.map (some b)) (.agg n.c) true).run Tryz.prog w= .ok (.tuple #[.agg #[], .bool (hasP S n)]) w:=by
 obtain ⟨es,c,h1,h2⟩:=h
 have hz:(zeroValue 198).run Tryz.prog w= .ok (.agg #[]) w:=by kernel_rfl
 have hf:=run_findKey_eq (P:=Tryz.prog) w (k:=196) (by rw[Tryz.underlying196]) (.agg n.c) es.toList
 rcases q5u n w es.toList S 0 h2 with ⟨e,hj⟩|⟨e,j,bn,_,hj⟩
 ·rw[e]
  simp[Instr.lookup,run_underlying Tryz.underlying114,MapKept.run_getObj_map h1,q43,hf,hj,hz,Result.andThen]
 ·rw[e]
  simp[Instr.lookup,run_underlying Tryz.underlying114,MapKept.run_getObj_map h1,q43,hf,hj,Result.andThen]
theorem qbC (w:World)(n:Spt):(Instr.lookup 114 (.map none) (.agg n.c) true).run Tryz.prog w= .ok (.tuple #[.agg #[], .bool false]) w:=by
 have hz:(zeroValue 198).run Tryz.prog w= .ok (.agg #[]) w:=by kernel_rfl
 have hf:=run_findKey_eq (P:=Tryz.prog) w (k:=196) (by rw[Tryz.underlying196]) (.agg n.c) []
 simp[Instr.lookup,run_underlying Tryz.underlying114,q43,hf,Instr.findAsking,hz,Result.andThen]
theorem SetP.store {w:World}{b:Nat}{S:List Spt}(h:SetP w b S)(n:Spt): ∃w' S',(Instr.mapUpdate 114 (.map (some b)) (.agg n.c) (.agg #[])).run Tryz.prog w= .ok () w'/\SetP w' b S'/\(∀x∈S',x∈S\/x=n)/\Kp [b] w w':=by
 obtain ⟨es,c,h1,h2⟩:=h
 have hf:=run_findKey_eq (P:=Tryz.prog) w (k:=196) (by rw[Tryz.underlying196]) (.agg n.c) es.toList
 have hk: ∀o,Kp [b] w (setBlock w b o):=fun o=>by
  refine ⟨rfl,rfl,rfl,by simp[setBlock],fun k _ hk=>?_⟩
  have:b≠k:=fun e=>hk (by simp[e])
  unfold setBlock
  simp[this]
 rcases q5u n w es.toList S 0 h2 with ⟨e,hj⟩|⟨e,j,bn,hje,hj⟩
 ·refine ⟨setBlock w b (.map (es.push ⟨.agg n.c, .agg #[],c⟩) (c+1)),S++[n],?_,⟨_,_,(MapKept.heap_set h1).1,?_⟩,fun x hx=>?_,hk _⟩
  ·simp[Instr.mapUpdate,run_underlying Tryz.underlying114,MapKept.run_getObj_map h1,q43,hf,hj,MapKept.run_setObj_map _ h1,Result.andThen,setBlock]
  ·rw[Array.toList_push,List.map_append,h2,List.map_append]
   rfl
  ·rw[zG,zD]at hx
   exact hx
 ·have hja:es[j]?=some ⟨.agg n.c, .agg #[],bn⟩:=by rw[<-Array.getElem?_toList];exact hje
  rw[Nat.zero_add]at hj
  refine ⟨setBlock w b (.map (es.modify j fun e=>{ e with key:= .agg n.c,val:= .agg #[] }) c),S,?_,⟨_,_,(MapKept.heap_set h1).1,?_⟩,fun x hx=>Or.inl hx,hk _⟩
  ·simp[Instr.mapUpdate,run_underlying Tryz.underlying114,MapKept.run_getObj_map h1,q43,hf,hj,hja,Instr.keyThatStays,qdJ,MapKept.run_setObj_map _ h1,Result.andThen,setBlock]
  ·rw[<-h2]
   apply List.ext_getElem?
   intro i
   rw[List.getElem?_map,List.getElem?_map,Array.toList_modify,List.getElem?_modify]
   by_cases hi:j=i
   ·subst hi
    rw[hje]
    simp
   ·simp[hi]
end
def srC (k:HK)(gx B gd en td:Nat):Array Value:=#[.pointer (some ⟨k.gt,0,none⟩), .pointer (some ⟨gx,0,none⟩), .slice (some ⟨B,0,none⟩) k.l.length k.l.length, .slice (some ⟨gd,0,none⟩) k.es.length k.es.length, .int .i64 (en:Int), .int .i64 (td:Int)]
theorem Spt.c_at (x:Spt)(i:Nat)(h:i<8):x.c[2+i]?=some (.int .i16 (x.f i:Int)):=by
 match i,h with
 |0,_=>rfl
 |1,_=>rfl
 |2,_=>rfl
 |3,_=>rfl
 |4,_=>rfl
 |5,_=>rfl
 |6,_=>rfl
 |7,_=>rfl
theorem Spt.c_set (fr td:Nat)(f:Nat->Nat)(i v:Nat)(h:i<8):(Spt.c ⟨fr,td,f⟩).setIfInBounds (2+i) (.int .i16 (v:Int))=Spt.c ⟨fr,td,fun j=>if j=i then v else f j⟩:=by
 match i,h with
 |0,_=>rfl
 |1,_=>rfl
 |2,_=>rfl
 |3,_=>rfl
 |4,_=>rfl
 |5,_=>rfl
 |6,_=>rfl
 |7,_=>rfl
theorem qbX (bs:List Nat)(T:List (List Nat))(j:Nat)(h:j<bs.length):(fun i=>if i=bs[j] then Mt.lst (T.getD bs[j] []) else Mt.spE (bs.take j) T i)=Mt.spE (bs.take (j+1)) T:=by
 funext i
 have e:bs.take (j+1)=bs.take j++[bs[j]]:=by rw[List.take_add_one,zE h];rfl
 unfold Mt.spE
 have hm:i∈bs.take (j+1)↔i∈bs.take j\/i=bs[j]:=by rw[e,zG,zD]
 by_cases h1:i=bs[j]
 ·rw[if_pos h1,if_pos (hm.2 (Or.inr h1)),h1]
 ·rw[if_neg h1]
  by_cases h2:i∈bs.take j
  ·rw[if_pos h2,if_pos (hm.2 (Or.inl h2))]
  ·rw[if_neg h2,if_neg (fun h=>(hm.1 h).elim h2 h1)]
def set10 (g:Nat)(x:Spt)(w:World):World:=(((((((((w.setCell ⟨g,0,none⟩ (.int .i16 (x.fr:Int))).setCell ⟨g,1,none⟩ (.int .i16 (x.td:Int))).setCell ⟨g,2,none⟩ (.int .i16 (x.f 0:Int))).setCell ⟨g,3,none⟩ (.int .i16 (x.f 1:Int))).setCell ⟨g,4,none⟩ (.int .i16 (x.f 2:Int))).setCell ⟨g,5,none⟩ (.int .i16 (x.f 3:Int))).setCell ⟨g,6,none⟩ (.int .i16 (x.f 4:Int))).setCell ⟨g,7,none⟩ (.int .i16 (x.f 5:Int))).setCell ⟨g,8,none⟩ (.int .i16 (x.f 6:Int))).setCell ⟨g,9,none⟩ (.int .i16 (x.f 7:Int))
theorem CBox.set10 {g t:Nat}{y:Spt}{w:World}(h:CBox g y.c t w)(x:Spt):CBox g x.c t (set10 g x w):=by
 have h2:=(((((((((CBox.set h 0 (.int .i16 (x.fr:Int))).set 1 (.int .i16 (x.td:Int))).set 2 (.int .i16 (x.f 0:Int))).set 3 (.int .i16 (x.f 1:Int))).set 4 (.int .i16 (x.f 2:Int))).set 5 (.int .i16 (x.f 3:Int))).set 6 (.int .i16 (x.f 4:Int))).set 7 (.int .i16 (x.f 5:Int))).set 8 (.int .i16 (x.f 6:Int))).set 9 (.int .i16 (x.f 7:Int))
 unfold Spt.c at h2
 simp only[List.setIfInBounds_toArray,List.set_cons_zero,List.set_cons_succ]at h2
 exact h2
theorem Kp.set1 {a w:World}{g:Nat}(h:Kp [g] a w)(i:Nat)(v:Value):Kp [g] a (w.setCell ⟨g,i,none⟩ v):=h.trans (Kp.set w g i v) (fun _ hx=>Or.inl hx)
theorem Kp.set10 (w:World)(g:Nat)(x:Spt):Kp [g] w (set10 g x w):=by
 unfold Go.Proofs.YtfgkikeeadlcfaaGreatDoor.set10
 exact (((((((((((Kp.refl [g] w).set1 0 _).set1 1 _).set1 2 _).set1 3 _).set1 4 _).set1 5 _).set1 6 _).set1 7 _).set1 8 _).set1 9 _)
theorem q6Q (a:Nat)(h:a<=4096):IntKind.i16.wrap (a:Int)=(a:Int):=by
 simp only[IntKind.wrap,IntKind.bits,IntKind.signed]
 simp
 omega
theorem qah:(Tryz.prog.info? 196).map (·.size)=some 10:=by kernel_rfl
def spt0:Spt:=⟨0,0,fun _=>0⟩
theorem qbY (k:HK)(w:World)(T:List (List Nat))(L:List Ev)(pv lv:Value)(vs:List Value)(h:HkS k w T L pv lv vs)(gs gx B gd en tl:Nat)(hs:CBox gs (srC k gx B gd en tl) 111 w)(x:RdC)(hx:IRo w x.v (x.bs.map Int.ofNat))(hbl:x.bs.length<=100000)(hb: ∀i∈x.bs,i<T.length/\i<8)(hfr:x.fr<=8)(htd:x.td<=8)(hne: ∀l∈T,l≠[]/\l.length<=4096/\Mt.lst l<=4096):
  Calls Tryz.prog 114 #[.pointer (some ⟨gs,0,none⟩), .agg x.l.toArray] w fun e w'=>e= .returned (.agg (Spt.c ⟨x.fr,x.td,Mt.spE x.bs T⟩))/\Kp [] w w':=by
 obtain ⟨fr,td,oh,oe,xa,xc,bs⟩:=x
 unfold RdC.v at hx
 unfold RdC.l RdC.v
 dsimp only at *
 have HLA:=hZq (fun (W:World) (hk:Kp [] w W) (i:Nat) (l:List Nat) (hl:T[i]?=some l)=>q5a k W T L pv lv vs (h.al hk) i l hl (hne l (List.mem_of_getElem? hl)).1 (by have:=(hne l (List.mem_of_getElem? hl)).2.1;omega))
 have HLE:Hid (∀(i:Nat) (l:List Nat),T[i]?=some l->Mt.lst l<=4096):=hZq (fun i l hl=>(hne l (List.mem_of_getElem? hl)).2.2)
 have HS:=hZq (fun (W:World) (hk:Kp [] w W)=>(hs.kp hk (by simp)).cell (i:=0) (v:= .pointer (some ⟨k.gt,0,none⟩)) rfl)
 have HX:=hZq (fun (W:World) (hk:Kp [] w W)=>hx.kp hk (by simp))
 have HBB:=hZq hb
 clear h hs hx hne hb
 have wf:=q6Q fr (by omega)
 have wt:=q6Q td (by omega)
 obtain ⟨n,hn⟩: ∃n,bs.length=n:=⟨_,rfl⟩
 have HN:=hZq hn
 rw[hn]at hbl HX ⊢
 clear hn
 have HST:Hid (CBox (w.heap.size+1+1) (Spt.c ⟨fr,td,Mt.spE (bs.take 0) T⟩) 196 (((w.alloc (.cells #[.int .i64 (fr:Int), .int .i64 (td:Int), .bool oh, .bool oe, .slice xa n xc] 148)).alloc (.cells spt0.c 196)).alloc (.cells (Spt.c ⟨fr,td,fun _=>0⟩) 196))/\CBox (w.heap.size+1) spt0.c 196 (((w.alloc (.cells #[.int .i64 (fr:Int), .int .i64 (td:Int), .bool oh, .bool oe, .slice xa n xc] 148)).alloc (.cells spt0.c 196)).alloc (.cells (Spt.c ⟨fr,td,fun _=>0⟩) 196))/\Kp [] w (((w.alloc (.cells #[.int .i64 (fr:Int), .int .i64 (td:Int), .bool oh, .bool oe, .slice xa n xc] 148)).alloc (.cells spt0.c 196)).alloc (.cells (Spt.c ⟨fr,td,fun _=>0⟩) 196))):=by
  have k1:=Kp.alloc w (.cells #[.int .i64 (fr:Int), .int .i64 (td:Int), .bool oh, .bool oe, .slice xa n xc] 148)
  have hz1:(w.alloc (.cells #[.int .i64 (fr:Int), .int .i64 (td:Int), .bool oh, .bool oe, .slice xa n xc] 148)).heap.size=w.heap.size+1:=by simp
  generalize w.alloc (.cells #[.int .i64 (fr:Int), .int .i64 (td:Int), .bool oh, .bool oe, .slice xa n xc] 148)=w1 at *
  have k2:=Kp.alloc w1 (.cells spt0.c 196)
  have b2:=CBox.new w1 spt0.c 196
  have hz2:(w1.alloc (.cells spt0.c 196)).heap.size=w1.heap.size+1:=by simp
  generalize w1.alloc (.cells spt0.c 196)=w2 at *
  have k3:=Kp.alloc w2 (.cells (Spt.c ⟨fr,td,fun _=>0⟩) 196)
  have b3:=CBox.new w2 (Spt.c ⟨fr,td,fun _=>0⟩) 196
  rw[hz2,hz1]at b3
  rw[hz1]at b2
  refine hZq ⟨?_,b2.kp k3 (by simp),(k1.trans k2 (by simp)).trans k3 (by simp)⟩
  have e:Mt.spE (bs.take 0) T=fun _=>0:=by funext i;unfold Mt.spE;simp
  rw[e]
  exact b3
 go_enter Tryz.func114,Tryz.ntmps114
 go_wp2_with fail
 go_loopw [18] (fun iv wr=> ∃j:Nat,j<=n/\iv= .int .i64 (j:Int)/\Hid (CBox (w.heap.size+1+1) (Spt.c ⟨fr,td,Mt.spE (bs.take j) T⟩) 196 wr/\CBox (w.heap.size+1) spt0.c 196 wr/\Kp [] w wr)) (fun iv _=>n-(intOf iv).toNat)
 case atStart=>exact ⟨0,Nat.zero_le _,rfl,HST⟩
 case round=>
  obtain ⟨j,hj,rfl,HC⟩:=hrel
  clear HST
  by_cases hlt:j<n
  ·have hjl:j<bs.length:=by rw[uQ HN];exact hlt
   have hli:(j:Int)<(n:Int):=by omega
   obtain ⟨hA,hZ,hK⟩:=uQ HC
   have hxr:=uQ HX wr hK
   obtain ⟨gb,go,rfl,x0⟩: ∃gb go,xa=some ⟨gb,go,none⟩/\wr.cell? ⟨gb,go+j,none⟩=some (.int .i64 (bs[j]:Int)):=by
    obtain ⟨a,c,e,hat⟩:=hxr.at
    injection e with e1 _ _
    subst e1
    obtain ⟨gb,go,e,_,hc⟩:=hat (fun e=>by have:=congrArg List.length e;rw[zI]at this;have h0:([]:List Int).length=0:=rfl;omega)
    refine ⟨gb,go,e,?_⟩
    have:=hc j (by rw[zI];exact hjl)
    rw[List.getElem_map]at this
    exact this
   obtain ⟨hbT,hb8⟩:=uQ HBB bs[j] (zJ hjl)
   have hTl:T[bs[j]]?=some T[bs[j]]:=zE hbT
   have HL1:=hZq (uQ HLA wr hK bs[j] _ hTl)
   have hle:=uQ HLE bs[j] _ hTl
   have wl:=q6Q _ hle
   have s0:=uQ HS wr hK
   have hb8i:(bs[j]:Int)<8:=by omega
   have hgd:T.getD bs[j] []=T[bs[j]]:=by rw[List.getD_eq_getElem?_getD,hTl];rfl
   have HNX:Hid (CBox (w.heap.size+1+1) (Spt.c ⟨fr,td,Mt.spE (bs.take (j+1)) T⟩) 196 (wr.setCell ⟨w.heap.size+1+1,2+bs[j],none⟩ (.int .i16 (Mt.lst T[bs[j]]:Int)))/\CBox (w.heap.size+1) spt0.c 196 (wr.setCell ⟨w.heap.size+1+1,2+bs[j],none⟩ (.int .i16 (Mt.lst T[bs[j]]:Int)))/\Kp [] w (wr.setCell ⟨w.heap.size+1+1,2+bs[j],none⟩ (.int .i16 (Mt.lst T[bs[j]]:Int)))):=hZq (by
    refine ⟨?_,hZ.kp (Kp.set _ _ _ _) (by simp),hK.trans (Kp.set _ _ _ _) (fun y hy=>Or.inr (by rw[zD]at hy;omega))⟩
    have:=hA.set (2+bs[j]) (.int .i16 (Mt.lst T[bs[j]]:Int))
    rw[Spt.c_set fr td _ _ _ hb8]at this
    rw[<-qbX bs T j hjl,hgd]
    exact this)
   have fc:=hA.cell (Spt.c_at _ _ hb8)
   have fz:=hA.froz (2+bs[j])
   generalize Mt.spE (bs.take j) T bs[j]=oldv at *
   generalize Mt.lst T[bs[j]]=lv0 at *
   generalize bs[j]=ii at *
   clear hA hZ hK HC hxr HLA HLE HS HX HBB HN hTl hgd
   go_wp2_with fail
   refine (uQ HL1).mono ?_
   rintro e w5 ⟨rfl,rfl⟩
   clear HL1
   go_wp2
   go_roundw
   case rel=>exact ⟨j+1,by omega,by go_num,HNX⟩
   case measure=>simp[intOf];omega
  ·obtain rfl:j=n:=by omega
   obtain ⟨hA,hZ,hK⟩:=uQ HC
   rw[<-uQ HN,List.take_length]at hA
   obtain ⟨f,hf⟩: ∃f,f=Mt.spE bs T:=⟨_,rfl⟩
   rw[<-hf]at hA
   have HF:=hZq hf
   clear hf
   have d0:=hA.cell (i:=0) (v:= .int .i16 (fr:Int)) rfl
   have d1:=hA.cell (i:=1) (v:= .int .i16 (td:Int)) rfl
   have d2:=hA.cell (Spt.c_at _ 0 (by decide))
   have d3:=hA.cell (Spt.c_at _ 1 (by decide))
   have d4:=hA.cell (Spt.c_at _ 2 (by decide))
   have d5:=hA.cell (Spt.c_at _ 3 (by decide))
   have d6:=hA.cell (Spt.c_at _ 4 (by decide))
   have d7:=hA.cell (Spt.c_at _ 5 (by decide))
   have d8:=hA.cell (Spt.c_at _ 6 (by decide))
   have d9:=hA.cell (Spt.c_at _ 7 (by decide))
   have z0:=hZ.cell (i:=0) (v:= .int .i16 0) rfl
   have z1:=hZ.cell (i:=1) (v:= .int .i16 0) rfl
   have z2:=hZ.cell (i:=2) (v:= .int .i16 0) rfl
   have z3:=hZ.cell (i:=3) (v:= .int .i16 0) rfl
   have z4:=hZ.cell (i:=4) (v:= .int .i16 0) rfl
   have z5:=hZ.cell (i:=5) (v:= .int .i16 0) rfl
   have z6:=hZ.cell (i:=6) (v:= .int .i16 0) rfl
   have z7:=hZ.cell (i:=7) (v:= .int .i16 0) rfl
   have z8:=hZ.cell (i:=8) (v:= .int .i16 0) rfl
   have z9:=hZ.cell (i:=9) (v:= .int .i16 0) rfl
   have f0:=hZ.froz 0
   have f1:=hZ.froz 1
   have f2:=hZ.froz 2
   have f3:=hZ.froz 3
   have f4:=hZ.froz 4
   have f5:=hZ.froz 5
   have f6:=hZ.froz 6
   have f7:=hZ.froz 7
   have f8:=hZ.froz 8
   have f9:=hZ.froz 9
   dsimp only at d2 d3 d4 d5 d6 d7 d8 d9
   simp only[Nat.reduceAdd]at d2 d3 d4 d5 d6 d7 d8 d9
   have HZ:=hZq hZ
   have HK:=hZq hK
   clear HC hA hZ hK HLA HLE HS HX HBB HN
   go_wp2
   have hw:(set10 (w.heap.size+1) ⟨fr,td,f⟩ wr).heap[w.heap.size+1]?=some (.cells (Spt.c ⟨fr,td,f⟩) 196 (0,0)):=CBox.set10 (uQ HZ) ⟨fr,td,f⟩
   have hq:Kp [] w (set10 (w.heap.size+1) ⟨fr,td,f⟩ wr):=(uQ HK).trans (Kp.set10 _ _ _) (by simp)
   refine bodyPost_ret (v:= .agg (Spt.c ⟨fr,td,f⟩)) ?_ rfl ⟨by rw[uQ HF],hq⟩
   exact results_cell_row Tryz.results114 _ _ (w.heap.size+1) 196 (Spt.c ⟨fr,td,f⟩) (0,0) _ rfl hw Tryz.underlying196 rfl qah
structure DdS (gd n lo:Nat)(G:Nat->Spt->Prop)(D:List (Option Nat))(w:World):Prop where
 row:CBox gd (D.map Value.map).toArray 114 w
 len:D.length=n
 mp: ∀(q b:Nat),D[q]?=some (some b)->lo<=b/\ ∃S,SetP w b S/\ ∀s∈S,G q s
 nd: ∀(i j b:Nat),D[i]?=some (some b)->D[j]?=some (some b)->i=j
def ddF (gd:Nat)(D:List (Option Nat)):List Nat:=gd::D.filterMap id
theorem q2v {gd b q:Nat}{D:List (Option Nat)}(h:D[q]?=some (some b)):b∈ddF gd D:=by
 unfold ddF
 rw[zH,List.mem_filterMap]
 exact Or.inr ⟨some b,List.mem_of_getElem? h,rfl⟩
theorem q2p {gd b:Nat}{D:List (Option Nat)}(h:b∈ddF gd D):b=gd\/ ∃q:Nat,D[q]?=some (some b):=by
 unfold ddF at h
 rw[zH,List.mem_filterMap]at h
 refine h.imp id ?_
 rintro ⟨x,hx,e⟩
 obtain ⟨q,hq⟩:=List.getElem?_of_mem hx
 exact ⟨q,by rw[hq,show x=some b from e]⟩
theorem DdS.kp {gd n lo:Nat}{G:Nat->Spt->Prop}{D:List (Option Nat)}{w w':World}{F:List Nat}(h:DdS gd n lo G D w)(hk:Kp F w w')(hF: ∀b∈ddF gd D,b∉F):DdS gd n lo G D w':=by
 refine ⟨h.row.kp hk (hF _ (by unfold ddF;simp)),h.len,fun q b hb=>?_,h.nd⟩
 obtain ⟨h1,S,h2,h3⟩:=h.mp q b hb
 exact ⟨h1,S,h2.kp hk (hF b (q2v hb)),h3⟩
theorem DdS.less {gd n lo:Nat}{G G':Nat->Spt->Prop}{D:List (Option Nat)}{w:World}(h:DdS gd n lo G D w)(hG: ∀q s,G q s->G' q s):DdS gd n lo G' D w:=⟨h.row,h.len,fun q b hb=>let ⟨h1,S,h2,h3⟩:=h.mp q b hb;⟨h1,S,h2,fun s hs=>hG q s (h3 s hs)⟩,h.nd⟩
theorem SetP.ne {w:World}{b g:Nat}{S:List Spt}{cs:Array Value}{t:TypeId}(h:SetP w b S)(h2:CBox g cs t w):b≠g:=fun e=>by
 obtain ⟨es,c,h1,_⟩:=h
 rw[e,show w.heap[g]?=some (.cells cs t) from h2]at h1
 cases h1
theorem DdS.at {gd n lo q:Nat}{G:Nat->Spt->Prop}{D:List (Option Nat)}{w:World}(h:DdS gd n lo G D w){o:Option Nat}(hq:D[q]?=some o):w.cell? ⟨gd,q,none⟩=some (.map o):=h.row.cell (by
 rw[List.getElem?_toArray,List.getElem?_map,hq]
 rfl)
theorem DdS.set {gd n lo q:Nat}{G:Nat->Spt->Prop}{D:List (Option Nat)}{w:World}(h:DdS gd n lo G D w)(o:Option Nat)(ho: ∀b,o=some b->lo<=b/\SetP w b []/\ ∀i:Nat,D[i]?≠some (some b)):DdS gd n lo G (D.set q o) (w.setCell ⟨gd,q,none⟩ (.map o)):=by
 have ks:=Kp.set w gd q (.map o)
 refine ⟨?_,by rw[List.length_set];exact h.len,fun i b hb=>?_,fun i j b hi hj=>?_⟩
 ·have:=h.row.set q (.map o)
  rw[List.setIfInBounds_toArray, <-List.map_set]at this
  exact this
 ·rw[List.getElem?_set]at hb
  by_cases e:q=i
  ·rw[if_pos e]at hb
   split at hb
   ·have:=Option.some.inj hb
    obtain ⟨h1,h2,_⟩:=ho b this
    exact ⟨h1,[],h2.kp ks (by simpa using h2.ne h.row),by simp⟩
   ·cases hb
  ·rw[if_neg e]at hb
   obtain ⟨h1,S,h2,h3⟩:=h.mp i b hb
   exact ⟨h1,S,h2.kp ks (by simpa using h2.ne h.row),h3⟩
 ·rw[List.getElem?_set]at hi hj
  by_cases ei:q=i
  ·by_cases ej:q=j
   ·omega
   ·rw[if_pos ei]at hi
    rw[if_neg ej]at hj
    split at hi
    ·have:=Option.some.inj hi
     exact absurd hj ((ho b this).2.2 j)
    ·cases hi
  ·rw[if_neg ei]at hi
   by_cases ej:q=j
   ·rw[if_pos ej]at hj
    split at hj
    ·have:=Option.some.inj hj
     exact absurd hi ((ho b this).2.2 i)
    ·cases hj
   ·rw[if_neg ej]at hj
    exact h.nd i j b hi hj
theorem DdS.lt {gd n lo:Nat}{G:Nat->Spt->Prop}{D:List (Option Nat)}{w:World}(h:DdS gd n lo G D w){b:Nat}(hb:b∈ddF gd D):b<w.heap.size:=by
 rcases q2p hb with e|⟨q,hq⟩
 ·rw[e];exact (zB.1 h.row).1
 ·obtain ⟨_,S,h2,_⟩:=h.mp q b hq
  exact h2.lt
theorem DdS.put {gd n lo q b:Nat}{G:Nat->Spt->Prop}{D:List (Option Nat)}{w:World}(h:DdS gd n lo G D w)(hq:D[q]?=some (some b))(s:Spt)(hs:G q s): ∃w',(Instr.mapUpdate 114 (.map (some b)) (.agg s.c) (.agg #[])).run Tryz.prog w= .ok () w'/\DdS gd n lo G D w'/\Kp [b] w w':=by
 obtain ⟨h1,S,h2,h3⟩:=h.mp q b hq
 obtain ⟨w',S',hrun,hS,hin,hk⟩:=h2.store s
 refine ⟨w',hrun,⟨h.row.kp hk (by simpa using (h2.ne h.row).symm),h.len,fun i b2 hb=>?_,h.nd⟩,hk⟩
 by_cases e:b2=b
 ·subst e
  have:i=q:=h.nd i q b2 hb hq
  subst this
  exact ⟨h1,S',hS,fun x hx=>(hin x hx).elim (h3 x) (fun e=>by rw[e];exact hs)⟩
 ·obtain ⟨g1,S2,g2,g3⟩:=h.mp i b2 hb
  exact ⟨g1,S2,g2.kp hk (by simpa using e),g3⟩
theorem qaK (k:HK)(w:World)(gs gx B gd en tl lo:Nat)(G:Nat->Spt->Prop)(D:List (Option Nat))(hs:CBox gs (srC k gx B gd en tl) 111 w)(hD:DdS gd k.es.length lo G D w)(hlo:lo<=w.heap.size)(q:Nat)(hq:q<k.es.length)(s:Spt)(hG:G q s):
  Calls Tryz.prog 116 #[.pointer (some ⟨gs,0,none⟩), .int .i64 (q:Int), .agg s.c] w fun e w'=>(∃v,e= .returned v)/\ ∃D',DdS gd k.es.length lo G D' w'/\Kp (ddF gd D) w w'/\ ∀b∈ddF gd D',b∈ddF gd D\/w.heap.size<=b:=by
 obtain ⟨N,hN⟩: ∃N,k.es.length=N:=⟨_,rfl⟩
 have c0:=hs.cell (i:=3) (v:= .slice (some ⟨gd,0,none⟩) k.es.length k.es.length) rfl
 rw[hN]at hD hq c0 ⊢
 obtain ⟨o,ho⟩: ∃o,D[q]?=some o:=⟨_,zE (by rw[hD.len];exact hq)⟩
 have hqi:(q:Int)<(N:Int):=by omega
 have hgs:gs<w.heap.size:=(zB.1 hs).1
 have hgd:gd<w.heap.size:=hD.lt (by unfold ddF;simp)
 have hgg:gs≠gd:=q0p hs hD.row (by decide)
 have k1:=Kp.alloc w (.cells s.c 196)
 have p1:=CBox.new w s.c 196
 have hz1:(w.alloc (.cells s.c 196)).heap.size=w.heap.size+1:=by simp
 obtain ⟨W1,hW1⟩: ∃W1,W1=w.alloc (.cells s.c 196):=⟨_,rfl⟩
 rw[<-hW1]at k1 p1 hz1
 have D1:=hD.kp k1 (by simp)
 have c1:=k1.cell c0 (by simp)
 have e1:=D1.at ho
 have HC:Hid (∀W,(∃F,Kp F w W/\ ∀x∈F,x≠gs)->W.cell? ⟨gs,3,none⟩=some (.slice (some ⟨gd,0,none⟩) N N)):=hZq (fun W ⟨F,hk,hF⟩=>hk.cell c0 (fun hm=>hF _ hm rfl))
 have hmm: ∀W:World,(Instr.makeMap 114 none).run Tryz.prog W= .ok (.map (some W.heap.size)) (W.alloc (.map #[] 0)):=fun W=>run_makeMap _ W
 have qn: ∀W,(binOp .eql 114 (.map o) (.map none)).run Tryz.prog W= .ok (.bool o.isNone) W:=fun W=>by simp[binOp,run_equal_map_nil W 114 196 198 o Tryz.underlying114]
 have HD:=hZq hD
 have HD1:=hZq D1
 have HK1:=hZq k1
 have HP1:=hZq p1
 have HHG:=hZq hG
 have HG0:Hid (∀D':List (Option Nat),(∀(i b:Nat),D'[i]?=some (some b)->D[i]?=some (some b)\/w.heap.size<=b)-> ∀b∈ddF gd D',b∈ddF gd D\/w.heap.size<=b):=hZq (fun D' hh b hb=>by
  rcases q2p hb with e|⟨i,hi⟩
  ·exact Or.inl (by rw[e];unfold ddF;simp)
  ·exact (hh i b hi).imp (fun h=>q2v h) id)
 have HOG:Hid (∀D' W,DdS gd N lo G D' W->CBox gs (srC k gx B gd en tl) 111 W-> ∀x∈ddF gd D',x≠gs):=hZq (fun D' W h1 h2 x hx e=>by
  rcases q2p hx with e2|⟨i,hi⟩
  ·exact hgg (by rw[<-e,e2])
  ·obtain ⟨_,S,h3,_⟩:=h1.mp i x hi
   exact h3.ne h2 e)
 have HSB:=hZq hs
 clear hD D1 k1 p1 hG c0 hs
 go_enter Tryz.func116,Tryz.ntmps116
 obtain ⟨fr,td,f⟩:=s
 unfold Spt.c at *
 dsimp only at *
 go_upto_region 1 with fail
 rw[<-hW1]
 have HW1:=hZq hW1
 clear hW1
 go_upto_if 13 with fail
 go_cut [] (fun wc=> ∃(D':List (Option Nat)) (b:Nat),Hid (DdS gd N lo G D' wc/\D'[q]?=some (some b)/\Kp (ddF gd D) w wc/\(∀b∈ddF gd D',b∈ddF gd D\/w.heap.size<=b)/\CBox w.heap.size #[.int .i16 (fr:Int), .int .i16 (td:Int), .int .i16 (f 0:Int), .int .i16 (f 1:Int), .int .i16 (f 2:Int), .int .i16 (f 3:Int), .int .i16 (f 4:Int), .int .i16 (f 5:Int), .int .i16 (f 6:Int), .int .i16 (f 7:Int)] 196 wc))
 case first=>
  cases o with
  |some b=>
   have HF:=hZq (show DdS gd N lo G D W1/\D[q]?=some (some b)/\Kp (ddF gd D) w W1/\(∀b∈ddF gd D,b∈ddF gd D\/w.heap.size<=b)/\_ from ⟨uQ HD1,ho,(uQ HK1).mono (by simp),fun b hb=>Or.inl hb,uQ HP1⟩)
   clear HD HD1 HK1 HP1 HG0 HOG HSB HHG HC ho
   go_wp2
   go_meet
   exact ⟨D,b,HF⟩
  |none=>
   have k2:=Kp.alloc W1 (.map #[] 0)
   have hz2:(W1.alloc (.map #[] 0)).heap.size=W1.heap.size+1:=by simp
   have hS2:=SetP.new W1
   have c2:=k2.cell c1 (by simp)
   have D2:=(uQ HD1).kp k2 (by simp)
   have fz:=D2.row.froz q
   have e2:=D2.at ho
   have p2:=(uQ HP1).kp k2 (by simp)
   have HF:Hid (DdS gd N lo G (D.set q (some W1.heap.size)) ((W1.alloc (.map #[] 0)).setCell ⟨gd,q,none⟩ (.map (some W1.heap.size)))/\(D.set q (some W1.heap.size))[q]?=some (some W1.heap.size)/\Kp (ddF gd D) w ((W1.alloc (.map #[] 0)).setCell ⟨gd,q,none⟩ (.map (some W1.heap.size)))/\(∀b∈ddF gd (D.set q (some W1.heap.size)),b∈ddF gd D\/w.heap.size<=b)/\CBox w.heap.size _ 196 ((W1.alloc (.map #[] 0)).setCell ⟨gd,q,none⟩ (.map (some W1.heap.size)))):=hZq (by
    refine ⟨D2.set (some W1.heap.size) (fun b hb=>?_),?_,(((uQ HK1).trans k2 (by simp)).mono (by simp)).trans (Kp.set _ _ _ _) (fun x hx=>Or.inl (by rw[zD]at hx;rw[hx];unfold ddF;simp)),uQ HG0 _ (fun i b hb=>?_),p2.kp (Kp.set _ _ _ _) (by rw[zD];omega)⟩
    ·cases hb
     refine ⟨by omega,hS2,fun i hi=>?_⟩
     have:=(uQ HD1).lt (q2v (gd:=gd) hi)
     omega
    ·rw[List.getElem?_set,if_pos rfl,if_pos (by rw[(uQ HD).len];exact hq)]
    ·rw[List.getElem?_set]at hb
     split at hb
     ·split at hb
      ·have:=Option.some.inj (Option.some.inj hb)
       exact Or.inr (by omega)
      ·cases hb
     ·exact Or.inl hb)
   clear HD HD1 HK1 HP1 HG0 HOG HSB HHG HC ho k2 hz2 hS2 D2 p2 hz1
   go_wp2
   go_meet
   exact ⟨_,_,HF⟩
 case rest=>
 obtain ⟨D',b,HR⟩:=hcut
 obtain ⟨V,hV⟩: ∃V,V=wc.drew:=⟨_,rfl⟩
 have kV:Kp [] wc V:=by rw[hV];exact Kp.drew _
 obtain ⟨r1,r2,r3,r4,r5⟩:=uQ HR
 have d1:=r1.kp kV (by simp)
 obtain ⟨w9,hup,d9,k9⟩:=d1.put r2 ⟨fr,td,f⟩ (uQ HHG)
 unfold Spt.c at hup
 dsimp only at hup
 have HUP:=hZq hup
 have s1:V.cell? ⟨gs,3,none⟩=some (.slice (some ⟨gd,0,none⟩) N N):=uQ HC V ⟨_,r3.trans kV (by simp),uQ HOG D w (uQ HD) (uQ HSB)⟩
 have s2:=d1.at r2
 have p5:=r5.kp kV (by simp)
 have HFI:Hid (∃D',DdS gd N lo G D' w9/\Kp (ddF gd D) w w9/\ ∀b∈ddF gd D',b∈ddF gd D\/w.heap.size<=b):=hZq ⟨D',d9,(r3.trans kV (by simp)).trans k9 (fun x hx=>by rw[zD]at hx;rw[hx];exact r4 b (q2v r2)),r4⟩
 have t0:=p5.cell (i:=0) (v:= .int .i16 (fr:Int)) rfl
 have t1:=p5.cell (i:=1) (v:= .int .i16 (td:Int)) rfl
 have t2:=p5.cell (i:=2) (v:= .int .i16 (f 0:Int)) rfl
 have t3:=p5.cell (i:=3) (v:= .int .i16 (f 1:Int)) rfl
 have t4:=p5.cell (i:=4) (v:= .int .i16 (f 2:Int)) rfl
 have t5:=p5.cell (i:=5) (v:= .int .i16 (f 3:Int)) rfl
 have t6:=p5.cell (i:=6) (v:= .int .i16 (f 4:Int)) rfl
 have t7:=p5.cell (i:=7) (v:= .int .i16 (f 5:Int)) rfl
 have t8:=p5.cell (i:=8) (v:= .int .i16 (f 6:Int)) rfl
 have t9:=p5.cell (i:=9) (v:= .int .i16 (f 7:Int)) rfl
 have HS9:w9.cell? ⟨gs,3,none⟩=some (.slice (some ⟨gd,0,none⟩) N N)/\w9.cell? ⟨gd,q,none⟩=some (.map (some b))/\w9.cell? ⟨w.heap.size,0,none⟩=some (.int .i16 (fr:Int))/\w9.cell? ⟨w.heap.size,1,none⟩=some (.int .i16 (td:Int))/\w9.cell? ⟨w.heap.size,2,none⟩=some (.int .i16 (f 0:Int))/\w9.cell? ⟨w.heap.size,3,none⟩=some (.int .i16 (f 1:Int))/\w9.cell? ⟨w.heap.size,4,none⟩=some (.int .i16 (f 2:Int))/\w9.cell? ⟨w.heap.size,5,none⟩=some (.int .i16 (f 3:Int))/\w9.cell? ⟨w.heap.size,6,none⟩=some (.int .i16 (f 4:Int))/\w9.cell? ⟨w.heap.size,7,none⟩=some (.int .i16 (f 5:Int))/\w9.cell? ⟨w.heap.size,8,none⟩=some (.int .i16 (f 6:Int))/\w9.cell? ⟨w.heap.size,9,none⟩=some (.int .i16 (f 7:Int)):=by
  have h2:=(d1.mp q b r2).2
  obtain ⟨S0,hS0,_⟩:=h2
  have n1:gs≠b:=fun e=>uQ HOG D' V d1 ((uQ HSB).kp (r3.trans kV (by simp)) (fun hm=>uQ HOG D w (uQ HD) (uQ HSB) _ hm rfl)) b (q2v r2) e.symm
  have n2:gd≠b:=fun e=>hS0.ne d1.row e.symm
  have n3:w.heap.size≠b:=fun e=>hS0.ne p5 e.symm
  exact ⟨k9.cell s1 (by simpa using n1),k9.cell s2 (by simpa using n2),k9.cell t0 (by simpa using n3),k9.cell t1 (by simpa using n3),k9.cell t2 (by simpa using n3),k9.cell t3 (by simpa using n3),k9.cell t4 (by simpa using n3),k9.cell t5 (by simpa using n3),k9.cell t6 (by simpa using n3),k9.cell t7 (by simpa using n3),k9.cell t8 (by simpa using n3),k9.cell t9 (by simpa using n3)⟩
 clear HD HD1 HK1 HP1 HG0 HOG HSB HHG HC ho HR r1 r2 r3 r4 r5 d1 hup d9 k9 p5 kV c1 e1 qn
 go_upto_region 3 with fail
 refine wp_region_held_drew (S:=fun W=>W.cell? ⟨gs,3,none⟩=some (.slice (some ⟨gd,0,none⟩) N N)/\W.cell? ⟨gd,q,none⟩=some (.map (some b))/\W.cell? ⟨w.heap.size,0,none⟩=some (.int .i16 (fr:Int))/\W.cell? ⟨w.heap.size,1,none⟩=some (.int .i16 (td:Int))/\W.cell? ⟨w.heap.size,2,none⟩=some (.int .i16 (f 0:Int))/\W.cell? ⟨w.heap.size,3,none⟩=some (.int .i16 (f 1:Int))/\W.cell? ⟨w.heap.size,4,none⟩=some (.int .i16 (f 2:Int))/\W.cell? ⟨w.heap.size,5,none⟩=some (.int .i16 (f 3:Int))/\W.cell? ⟨w.heap.size,6,none⟩=some (.int .i16 (f 4:Int))/\W.cell? ⟨w.heap.size,7,none⟩=some (.int .i16 (f 5:Int))/\W.cell? ⟨w.heap.size,8,none⟩=some (.int .i16 (f 6:Int))/\W.cell? ⟨w.heap.size,9,none⟩=some (.int .i16 (f 7:Int))) (by kernel_rfl) (by rw[<-hV];exact ⟨s1,s2,t0,t1,t2,t3,t4,t5,t6,t7,t8,t9⟩) (fun hHeld=>?_)
 rw[<-hV]at hHeld ⊢
 clear hV
 show wpAnyH _ _ _ _ _ 10 (Array.replicate 10 false) _ _
 refine zzH (i:=0) (v:=?_) rfl (Or.inl ⟨by rfl,?_⟩) (by assumption) ?_
 rotate_left
 ·intro w0 s9;(try dsimp only at s9);go_simp;(try with_reducible rfl)
 try simp only[Act.put,zz1,zz2,zz3]
 refine zzH (i:=1) (v:=?_) rfl (Or.inl ⟨by rfl,?_⟩) (by assumption) ?_
 rotate_left
 ·intro w0 s9;(try dsimp only at s9);go_simp;(try with_reducible rfl)
 try simp only[Act.put,zz1,zz2,zz3]
 refine zzH (i:=2) (v:=?_) rfl (Or.inl ⟨by rfl,?_⟩) (by assumption) ?_
 rotate_left
 ·intro w0 s9;(try dsimp only at s9);go_simp;(try with_reducible rfl)
 try simp only[Act.put,zz1,zz2,zz3]
 refine zzH (i:=3) (v:=?_) rfl (Or.inl ⟨by rfl,?_⟩) (by assumption) ?_
 rotate_left
 ·intro w0 s9;(try dsimp only at s9);go_simp;(try with_reducible rfl)
 try simp only[Act.put,zz1,zz2,zz3]
 refine zzH (i:=4) (v:=?_) rfl (Or.inl ⟨by rfl,?_⟩) (by assumption) ?_
 rotate_left
 ·intro w0 s9;(try dsimp only at s9);go_simp;(try with_reducible rfl)
 try simp only[Act.put,zz1,zz2,zz3]
 refine zzH (i:=5) (v:=?_) rfl (Or.inl ⟨by rfl,?_⟩) (by assumption) ?_
 rotate_left
 ·intro w0 s9;(try dsimp only at s9);go_simp;(try with_reducible rfl)
 try simp only[Act.put,zz1,zz2,zz3]
 refine zzH (i:=6) (v:=?_) rfl (Or.inl ⟨by rfl,?_⟩) (by assumption) ?_
 rotate_left
 ·intro w0 s9;(try dsimp only at s9);go_simp;(try with_reducible rfl)
 try simp only[Act.put,zz1,zz2,zz3]
 refine zzH (i:=7) (v:=?_) rfl (Or.inl ⟨by rfl,?_⟩) (by assumption) ?_
 rotate_left
 ·intro w0 s9;(try dsimp only at s9);go_simp;(try with_reducible rfl)
 try simp only[Act.put,zz1,zz2,zz3]
 refine zzH (i:=8) (v:=?_) rfl (Or.inl ⟨by rfl,?_⟩) (by assumption) ?_
 rotate_left
 ·intro w0 s9;(try dsimp only at s9);go_simp;(try with_reducible rfl)
 try simp only[Act.put,zz1,zz2,zz3]
 refine wpAnyH_ready (rs:=[9]) (by kernel_rfl) (by simp) ?_
 refine AllReadyH.cons rfl (fun K hK=>?_) AllReadyH.nil
 go_simp
 rw[uQ HUP]
 simp only[Result.andThen_ok]
 rw[Oper.upon_skip]
 refine hK.out _ _ ?_ (fun hHeld=>?_)
 ·exact HS9
 clear hK K
 try simp only[Act.put]
 refine wpAnyH_done (by kernel_rfl) ?_ _
 go_end0
 exact ⟨⟨_,rfl⟩,uQ HFI⟩
section
variable {P:Program} {ops:Array Oper} {Q:Exit->Act->World->Prop} {md:Region.Mode} {S:World->Prop} {lt:List Nat}
def gone (lt:List Nat)(listed:Array Bool):Bool:=lt.any fun j=>listed.getD j false
theorem gone_iff {listed:Array Bool}:gone lt listed=true↔ ∃j∈lt,listed.getD j false=true:=by unfold gone;rw[List.any_eq_true]
def q0r (P:Program)(md:Region.Mode)(ops:Array Oper)(Q:Exit->Act->World->Prop)(S:World->Prop)(lt:List Nat):Nat->Array Bool->Act->World->Prop
 |0,listed,a,w=>Region.ready md ops listed=[]/\Q .normal a w
 |fuel+1,listed,a,w=>
  (Region.ready md ops listed=[]->Q .normal a w)/\
  ∀i∈Region.ready md ops listed,wpOp P ops Q i (fun a' w'=>(gone lt (listed.setIfInBounds i true)=true\/S w')/\q0r P md ops Q S lt fuel (listed.setIfInBounds i true) a' w') a w
theorem q2D: ∀(fuel:Nat) (listed:Array Bool) (a:Act) (w:World),q0r P md ops Q S lt fuel listed a w->wpAny P md ops Q fuel listed a w
 |0,_,_,_,h=>h
 |fuel+1,_,_,_,h=>⟨h.1,fun i hi=>wpOp_mono (fun a' w' h'=>q2D fuel _ a' w' h'.2) (h.2 i hi)⟩
theorem q5R {listed:Array Bool}{i:Nat}(h:gone lt listed=true):gone lt (listed.setIfInBounds i true)=true:=by
 obtain ⟨j,hj,e⟩:=gone_iff.1 h
 refine gone_iff.2 ⟨j,hj,?_⟩
 by_cases hij:i=j
 ·subst hij
  have hlt:i<listed.size:=by
   rcases Nat.lt_or_ge i listed.size with h1|h1
   ·exact h1
   ·rw[Array.getD_eq_getD_getElem?,Array.getElem?_eq_none h1]at e;cases e
  simp[hlt]
 ·rw[getD_set_ne false hij];exact e
theorem q4X {listed:Array Bool}{i:Nat}(hi:i∉lt)(h:gone lt (listed.setIfInBounds i true)=true):gone lt listed=true:=by
 obtain ⟨j,hj,e⟩:=gone_iff.1 h
 refine gone_iff.2 ⟨j,hj,?_⟩
 rw[getD_set_ne false (fun e'=>hi (by rw[e'];exact hj))]at e
 exact e
theorem q3k {i:Nat}{oi:Oper}{v:Value}{S':World->Prop}(hi:ops[i]?=some oi)(hil:i∉lt)(hS':(∀w,S' w)\/(S'=S/\ ∀j∈lt,q1Q md ops j i=true))(hsel: ∀(j:Nat) (o:Oper) cs b,ops[j]?=some o->o.op≠ .select cs b)
  (hQ: ∀c a w,Q (.panic c) (a.put oi.dst v) w->Q (.panic c) a w):
  ∀(fuel:Nat) (listed:Array Bool) (a:Act) (w:World),
   (∀j oj,ops[j]?=some oj->j≠i->listed.getD j true=false->(∀e∈oj.after,Region.binds md e=true->e.on≠i)->oi.apart ops oj=true)->
   i∈Region.ready md ops listed->YieldsIf P ops S' oi v a->S' w->((∀w,S' w)\/gone lt listed=false)->(gone lt listed=true\/S w)->
   q0r P md ops Q S lt fuel (listed.setIfInBounds i true) (a.put oi.dst v) w->q0r P md ops Q S lt (fuel+1) listed a w:=by
 intro fuel
 induction fuel with
 |zero=>
  intro listed a w _ hr hy hS _ hg H
  refine ⟨fun h=>(by rw[h]at hr;cases hr),fun j hj=>?_⟩
  by_cases hji:j=i
  ·subst hji;exact hy.wpOp hi hS ⟨hg.imp_left q5R,H⟩
  ·have:=ready_mono hj hji
   rw[H.1]at this
   cases this
 |succ fuel ih=>
  intro listed a w hfree hr hy hS hno hg H
  refine ⟨fun h=>(by rw[h]at hr;cases hr),fun j hj=>?_⟩
  by_cases hji:j=i
  ·subst hji;exact hy.wpOp hi hS ⟨hg.imp_left q5R,H⟩
  ·have h1:=H.2 j (ready_mono hj hji)
   obtain ⟨hjun,oj,hoj,hall⟩:=mem_ready.1 hj
   have hnot: ∀e∈oj.after,Region.binds md e=true->e.on≠i:=fun e he hb heq=>by
    have h1:=hall e he hb
    have h0:=(mem_ready.1 hr).1
    rw[heq]at h1
    rcases Nat.lt_or_ge i listed.size with h'|h'
    ·simp[h']at h0 h1;rw[h0]at h1;cases h1
    ·simp[Array.getElem?_eq_none h']at h1
   have h2:=wpOp_putIf hoj (hfree j oj hoj hji hjun hnot) (fun cs b=>hsel i oi cs b hi) (fun cs b=>hsel j oj cs b hoj) hQ hy h1
   have hfree': ∀k ok,ops[k]?=some ok->k≠i->(listed.setIfInBounds j true).getD k true=false->
     (∀e∈ok.after,Region.binds md e=true->e.on≠i)->oi.apart ops ok=true:=fun k ok hk hki hun hno=>by
    refine hfree k ok hk hki ?_ hno
    by_cases hjk:j=k
    ·subst hjk;exact hjun
    ·rw[getD_set_ne true hjk]at hun;exact hun
   refine wpOp_mono (fun a' w' h3=>?_) h2
   obtain ⟨hy3,hg3,h4⟩:=h3
   rw[Array.setIfInBounds_comm _ _ (fun e=>hji e.symm)]at hg3 h4
   have hg4:gone lt (listed.setIfInBounds j true)=true\/S w':=hg3.imp_left (q4X hil)
   have hno':(∀w,S' w)\/gone lt (listed.setIfInBounds j true)=false:=by
    rcases hS' with hS'|⟨rfl,hw⟩
    ·exact Or.inl hS'
    ·rcases hno with hno|hno
     ·exact Or.inl hno
     ·refine Or.inr ?_
      cases hc:gone lt (listed.setIfInBounds j true)with
      |false=>rfl
      |true=>
       have hjl:j∉lt:=fun hm=>by
        obtain ⟨e',he',hb',hon'⟩:=q4s hoj (hw j hm)
        exact hnot e' he' hb' hon'
       rw[q4X hjl hc]at hno
       cases hno
   refine ⟨hg4,ih (listed.setIfInBounds j true) a' w' hfree' (ready_mono hr (Ne.symm hji)) hy3 ?_ hno' hg4 h4⟩
   rcases hS' with hS'|⟨rfl,hw⟩
   ·exact hS' w'
   ·rcases hno' with hno'|hno'
    ·exact hno' w'
    ·rcases hg4 with hg4|hg4
     ·rw[hno']at hg4;cases hg4
     ·exact hg4
theorem q7o {i:Nat}{oi:Oper}{v:Value}{fuel:Nat}{listed:Array Bool}{a:Act}{w:World}(hi:ops[i]?=some oi)
  (hil:i∉lt) (hw:(lt.all fun j=>q1Q md ops j i)=true) (hno:gone lt listed=false) (hs:Region.noSelect ops=true) (hf:Region.free md ops listed i=true) (hr:(Region.ready md ops listed).contains i=true)
  (hQ: ∀c a w,Q (.panic c) (a.put oi.dst v) w->Q (.panic c) a w) (hy:YieldsIf P ops S oi v a) (hS:S w)
  (h:q0r P md ops Q S lt fuel (listed.setIfInBounds i true) (a.put oi.dst v) w):q0r P md ops Q S lt (fuel+1) listed a w:=
 q3k hi hil (Or.inr ⟨rfl,fun j hj=>List.all_eq_true.1 hw j hj⟩) (Region.noSelect_spec hs) hQ fuel listed a w (Region.free_spec hi hf) (by simpa using hr) hy hS (Or.inr hno) (Or.inr hS) h
theorem q7n {i:Nat}{oi:Oper}{v:Value}{fuel:Nat}{listed:Array Bool}{a:Act}{w:World}(hi:ops[i]?=some oi)
  (hil:i∉lt) (hs:Region.noSelect ops=true) (hf:Region.free md ops listed i=true) (hr:(Region.ready md ops listed).contains i=true)
  (hQ: ∀c a w,Q (.panic c) (a.put oi.dst v) w->Q (.panic c) a w) (hy:YieldsIf P ops (fun _=>True) oi v a) (hS:gone lt listed=true\/S w)
  (h:q0r P md ops Q S lt fuel (listed.setIfInBounds i true) (a.put oi.dst v) w):q0r P md ops Q S lt (fuel+1) listed a w:=
 q3k (S':=fun _=>True) hi hil (Or.inl fun _=>trivial) (Region.noSelect_spec hs) hQ fuel listed a w (Region.free_spec hi hf) (by simpa using hr) hy trivial (Or.inl fun _=>trivial) hS h
theorem zzM {i:Nat}{oi:Oper}{v:Value}{fuel:Nat}{listed:Array Bool}{a:Act}{w:World}(hi:ops[i]?=some oi)(hy:YieldsIf P ops S oi v a)(hS:S w)(h:q0r P md ops Q S lt fuel (listed.setIfInBounds i true) (a.put oi.dst v) w)(hQ:∀ c a w,Q (.panic c) (a.put oi.dst v) w->Q (.panic c) a w:=by exact fun _ _ _ h=>h)(hil:i∉lt:=by decide)(hw:(lt.all fun j=>q1Q md ops j i)=true:=by kernel_rfl)(hno:gone lt listed=false:=by kernel_rfl)(hs:Region.noSelect ops=true:=by kernel_rfl)(hf:Region.free md ops listed i=true:=by kernel_rfl)(hr:(Region.ready md ops listed).contains i=true:=by kernel_rfl):q0r P md ops Q S lt (fuel+1) listed a w:=q7o hi hil hw hno hs hf hr hQ hy hS h
theorem zzN {i:Nat}{oi:Oper}{v:Value}{fuel:Nat}{listed:Array Bool}{a:Act}{w:World}(hi:ops[i]?=some oi)(hy:YieldsIf P ops (fun _=>True) oi v a)(hS:gone lt listed=true\/S w)(h:q0r P md ops Q S lt fuel (listed.setIfInBounds i true) (a.put oi.dst v) w)(hQ:∀ c a w,Q (.panic c) (a.put oi.dst v) w->Q (.panic c) a w:=by exact fun _ _ _ h=>h)(hil:i∉lt:=by decide)(hs:Region.noSelect ops=true:=by kernel_rfl)(hf:Region.free md ops listed i=true:=by kernel_rfl)(hr:(Region.ready md ops listed).contains i=true:=by kernel_rfl):q0r P md ops Q S lt (fuel+1) listed a w:=q7n hi hil hs hf hr hQ hy hS h
theorem q4t {i:Nat}{o:Oper}{fuel:Nat}{listed:Array Bool}{a:Act}{w:World}(ho:ops[i]?=some o)(hr:Region.ready md ops listed=[i])
  (h: ∀K:Act->World->Prop,(∀a' w',(gone lt (listed.setIfInBounds i true)=true\/S w')->q0r P md ops Q S lt fuel (listed.setIfInBounds i true) a' w'->K a' w')->if Region.wanted o (yielded ops a.tmps)=true then Oper.wp P o a w K Q else K (a.put o.dst undef) w):q0r P md ops Q S lt (fuel+1) listed a w:=by
 refine ⟨fun h0=>(by rw[hr]at h0;cases h0),fun j hj=>?_⟩
 rw[hr,List.mem_singleton]at hj
 subst hj
 have:=h (fun a' w'=>(gone lt (listed.setIfInBounds j true)=true\/S w')/\q0r P md ops Q S lt fuel (listed.setIfInBounds j true) a' w') (fun a' w' h1 h2=>⟨h1,h2⟩)
 unfold wpOp
 rw[ho]
 dsimp only
 split
 ·rename_i hc
  rw[if_pos hc]at this
  exact Or.inl this
 ·rename_i hc
  rw[if_neg hc]at this
  exact this
theorem q7m {listed:Array Bool}{a:Act}{w:World}(hr:Region.ready md ops listed=[])(h:Q .normal a w): ∀fuel,q0r P md ops Q S lt fuel listed a w
 |0=>⟨hr,h⟩
 |_+1=>⟨fun _=>h,by rw[hr];simp⟩
theorem q4u (S:World->Prop)(lt:List Nat){id:Nat}{a:Act}{w:World}(hm:P.follows .mixedOrders=true)
  (h:q0r P .any ops Q S lt ops.size (Array.replicate ops.size false) a w.drew):(Code.region id ops true).wp P Q a w:=wp_region_any hm (q2D _ _ _ _ h)
end
theorem OwnsX.pop {w:World}{g n cap:Nat}{L:List Ev}{e:Ev}(h:OwnsX 0 w (.slice (some ⟨g,0,none⟩) (n+1) cap) (L++[e])):L.length=n/\OwnsX 0 w (.slice (some ⟨g,0,none⟩) n cap) L:=by
 have hn:(L++[e]).length=n+1:=by
  obtain ⟨_,⟨e,_⟩|⟨g',cap',cur',e,_⟩⟩:=h
  ·cases e
  ·injection e with _ e2 _;omega
 have hp:L.length=n:=by rw[zF]at hn;simpa using hn
 refine ⟨hp,?_⟩
 unfold OwnsX at h ⊢
 rw[hn,List.flatMap_append]at h
 have:=ownsRow_pop (n:=n) (by rw[q1s];omega) h
 rw[hp]
 exact this
section
variable {k:HK} {w:World} {A:List (List Nat)} {L:List Ev} {pv lv:Value} {vs:List Value}
theorem HkS.popB {x:List Nat}{e:Ev}{gp cp gl cl:Nat}(hI:HkI k)(h:HkS k w (A++[x]) (L++[e]) (.slice (some ⟨gp,0,none⟩) (A.length+1) cp) (.slice (some ⟨gl,0,none⟩) (L.length+1) cl) vs):
  HkN k w (hkF k (.slice (some ⟨gp,0,none⟩) (A.length+1) cp) (.slice (some ⟨gl,0,none⟩) (L.length+1) cl) vs) A L (.slice (some ⟨gp,0,none⟩) A.length cp) (.slice (some ⟨gl,0,none⟩) L.length cl) vs.dropLast ((w.setCell ⟨k.gt,4,none⟩ (.slice (some ⟨gp,0,none⟩) A.length cp)).setCell ⟨k.gt,5,none⟩ (.slice (some ⟨gl,0,none⟩) L.length cl)):=by
 have hks:Kp [k.gt] w ((w.setCell ⟨k.gt,4,none⟩ (.slice (some ⟨gp,0,none⟩) A.length cp)).setCell ⟨k.gt,5,none⟩ (.slice (some ⟨gl,0,none⟩) L.length cl)):=(Kp.set _ _ _ _).trans (Kp.set _ _ _ _) (by simp)
 have hp:=h.pl.pop.2
 rw[List.dropLast_concat]at hp
 have hsub: ∀y∈plB (.slice (some ⟨gp,0,none⟩) A.length cp) vs.dropLast,y∈plB (.slice (some ⟨gp,0,none⟩) (A.length+1) cp) vs:=fun y hy=>by
  rw[mem_plB]at hy ⊢
  rcases hy with hy|⟨u,hu,hy⟩
  ·exact Or.inl hy
  ·exact Or.inr ⟨u,List.dropLast_subset _ hu,hy⟩
 refine h.next hI (hp.kp hks (fun y hy hm=>?_)) ((h.box.set 4 _).set 5 _) (q03 h.la.pop.2 hks (fun y hy hm=>?_)) (hks.mono (fun y hy=>?_)) (fun y hy=>Or.inl ?_)
 ·rw[zD]at hm
  subst hm
  exact h.ne (by rw[zG];exact Or.inl (hsub _ hy))
 ·rw[zD]at hm
  subst hm
  simp[Value.ownBlock]at hy
  exact h.ne (by rw[zG];exact Or.inr (by simp[Value.ownBlock,hy]))
 ·rw[zD]at hy
  unfold hkF
  rw[hy]
  simp
 ·rw[zG]at hy ⊢
  rcases hy with hy|hy
  ·exact Or.inl (hsub y hy)
  ·exact Or.inr (by simpa [Value.ownBlock] using hy)
theorem HkS.less {l:List Nat}{q gp n cp gu cu:Nat}(hI:HkI k)(h:HkS k w (A++[l++[q]]) L (.slice (some ⟨gp,0,none⟩) n cp) lv vs)(hu:vs[A.length]?=some (.slice (some ⟨gu,0,none⟩) (l.length+1) cu)):
  HkN k w (hkF k (.slice (some ⟨gp,0,none⟩) n cp) lv vs) (A++[l]) L (.slice (some ⟨gp,0,none⟩) n cp) lv (vs.set A.length (.slice (some ⟨gu,0,none⟩) l.length cu)) (w.setCell ⟨gp,A.length,none⟩ (.slice (some ⟨gu,0,none⟩) l.length cu)):=by
 have hi:=h.pl.ins.2 A.length _ _ hu (q4n (l:=l++[q]) (by simp))
 rw[List.map_append]at hi
 have hi2:=hi.pop.2
 have hp:=h.pl.put hu (Kp.refl _ w) hi2 (Or.inl rfl)
 rw[q23 _ _ _ _ rfl]at hp
 have hks:=Kp.set w gp A.length (.slice (some ⟨gu,0,none⟩) l.length cu)
 have hgm:gp∈plB (.slice (some ⟨gp,0,none⟩) n cp) vs:=mem_plB.2 (Or.inl rfl)
 refine h.next hI hp (h.box.kp hks (fun hm=>?_)) (q03 h.la hks (fun y hy hm=>?_)) (hks.mono (fun y hy=>?_)) (fun y hy=>Or.inl ?_)
 ·rw[zD]at hm
  exact h.ne (by rw[hm,zG];exact Or.inl hgm)
 ·rw[zD]at hm
  subst hm
  exact h.ne2 y (by rw[hy];simp) hgm
 ·rw[zD]at hy
  unfold hkF
  rw[hy,zH,zG]
  exact Or.inr (Or.inl hgm)
 ·rw[zG]at hy ⊢
  rcases hy with hy|hy
  ·refine Or.inl ?_
   rw[mem_plB]at hy ⊢
   rcases hy with hy|⟨u,hu2,hy⟩
   ·exact Or.inl hy
   ·rcases List.mem_or_eq_of_mem_set hu2 with hu2|rfl
    ·exact Or.inr ⟨u,hu2,hy⟩
    ·exact Or.inr ⟨_,List.mem_of_getElem? hu,hy⟩
  ·exact Or.inr hy
end
theorem qeQ (a:Addr)(n cl t:Nat)(h:t<=n)(hc:n<=cl)(W:World):(Instr.slice 26 (.slice (some a) n cl) none (some (.int .i64 (t:Int))) none).run Tryz.prog W= .ok (.slice (some a) t cl) W:=by
 have h3:(t:Int)<=(cl:Int):=by omega
 simp[Instr.slice,Instr.sliceBounds,run_underlying Tryz.underlying26,Tryz.sizeOf51,go_sem,h3]
theorem qeP (a:Addr)(n cl t:Nat)(h:t<=n)(hc:n<=cl)(W:World):(Instr.slice 51 (.slice (some a) n cl) none (some (.int .i64 (t:Int))) none).run Tryz.prog W= .ok (.slice (some a) t cl) W:=by
 have h3:(t:Int)<=(cl:Int):=by omega
 simp[Instr.slice,Instr.sliceBounds,run_underlying Tryz.underlying51,Tryz.sizeOf3,go_sem,h3]
theorem qap (k:HK)(hI:HkI k)(w:World)(A:List (List Nat))(l:List Nat)(q:Nat)(pv lv:Value)(vs:List Value)(h:HkS k w (A++[l++[q]]) (hkL k (A++[l++[q]])) pv lv vs)(hA8:A.length<8)(hlb:l.length<=4096)(hbd: ∀x∈l,x<k.es.length):
  Calls Tryz.prog 90 #[.pointer (some ⟨k.gt,0,none⟩)] w fun e w'=>(∃v,e= .returned v)/\ ∃pv' lv' vs',HkN k w (hkF k pv lv vs) (if l=[] then A else A++[l]) (hkL k (if l=[] then A else A++[l])) pv' lv' vs' w':=by
 obtain ⟨gp,cp,rfl,hcp⟩: ∃g cap,pv= .slice (some ⟨g,0,none⟩) (A.length+1) cap/\A.length+1<=cap:=by
  rcases h.pl.form with ⟨_,e⟩|⟨g,cap,e,hc,_⟩
  ·simp at e
  ·rw[zF]at e hc
   exact ⟨g,cap,e,hc⟩
 have hTl:(A++[l++[q]])[A.length]?=some (l++[q]):=by simp
 obtain ⟨u,hu,hiu⟩:=h.pl.at hTl
 obtain ⟨gu,cu,hue,hcu,_,_⟩:=q2J hiu (by simp)
 rw[zF,List.length_singleton]at hue hcu
 subst hue
 obtain ⟨gl,cl,hlv,hcl,_⟩:=h.la.form (by rw[q0B];simp)
 rw[q0B,zF,List.length_singleton]at hlv hcl
 subst hlv
 have hLk:hkL k (A++[l++[q]])=hkL k A++[k.es.getD q evZ]:=by rw[q1Z,Mt.lst_snoc]
 obtain ⟨V,hV⟩: ∃V,V=w.drew:=⟨_,rfl⟩
 have hkV:Kp [] w V:=by rw[hV];exact Kp.drew w
 have hs:=h.al hkV
 have c4:w.cell? ⟨k.gt,4,none⟩=some (.slice (some ⟨gp,0,none⟩) (A.length+1) cp):=h.box.cell rfl
 have cS0:V.cell? ⟨k.gt,4,none⟩=some (.slice (some ⟨gp,0,none⟩) (A.length+1) cp)/\V.cell? ⟨gp,A.length,none⟩=some (.slice (some ⟨gu,0,none⟩) (l.length+1) cu):=⟨hs.box.cell rfl,hs.pl.cell hu⟩
 have cS:w.drew.cell? ⟨k.gt,4,none⟩=some (.slice (some ⟨gp,0,none⟩) (A.length+1) cp)/\w.drew.cell? ⟨gp,A.length,none⟩=some (.slice (some ⟨gu,0,none⟩) (l.length+1) cu):=by rw[<-hV];exact cS0
 clear cS0
 have r1:=qeP ⟨gu,0,none⟩ (l.length+1) cu l.length (by omega) hcu
 have gn:(A.length:Int)<(A.length:Int)+1:=by omega
 by_cases h0:l=[]
 ·rw[if_pos h0]
  subst h0
  obtain ⟨V3,hV3⟩: ∃V3,V3=V.drew:=⟨_,rfl⟩
  have hk3:Kp [] V V3:=by rw[hV3];exact Kp.drew V
  have h3:=hs.al hk3
  rw[hLk]at h3
  have hlA:(hkL k A).length=A.length:=q0B k A
  have hp:=HkS.popB hI (by rw[hlA];exact h3)
  rw[hlA]at hp
  have hfin:HkN k w (hkF k (.slice (some ⟨gp,0,none⟩) (A.length+1) cp) (.slice (some ⟨gl,0,none⟩) (A.length+1) cl) vs) A (hkL k A) _ _ _ _:=HkN.trans (F:=hkF k (.slice (some ⟨gp,0,none⟩) (A.length+1) cp) (.slice (some ⟨gl,0,none⟩) (A.length+1) cl) vs) ⟨h3,(hkV.trans hk3 (by simp)).mono (by simp),fun x hx=>Or.inl hx⟩ hp
  have HFIN:=hZq hfin
  have a0:V3.cell? ⟨k.gt,4,none⟩=some (.slice (some ⟨gp,0,none⟩) (A.length+1) cp)/\V3.cell? ⟨k.gt,5,none⟩=some (.slice (some ⟨gl,0,none⟩) (A.length+1) cl):=⟨h3.box.cell rfl,h3.box.cell rfl⟩
  have f4:=h3.box.froz 4
  have bx4:=h3.box.set 4 (.slice (some ⟨gp,0,none⟩) A.length cp)
  have d5:(V3.setCell ⟨k.gt,4,none⟩ (.slice (some ⟨gp,0,none⟩) A.length cp)).cell? ⟨k.gt,5,none⟩=some (.slice (some ⟨gl,0,none⟩) (A.length+1) cl):=bx4.cell rfl
  have f5:=bx4.froz 5
  obtain ⟨m,hm⟩: ∃m,m=([]:List Nat).length:=⟨_,rfl⟩
  rw[<-hm]at r1 cS hcu hlb
  have g0:((m:Int)==0)=true:=by rw[hm];rfl
  have hmc:(m:Int)<=(cu:Int):=by omega
  have hm0:(0:Int)<=(m:Int):=by omega
  have hmw:IntKind.i64.wrap (m:Int)=(m:Int):=by simp only[IntKind.wrap_i64];omega
  have hmc2:(0<=(m:Int)/\(m:Int)<=(cu:Int))=True:=by simp;omega
  have g1:IntKind.i64.wrap ((m:Int)+1-1)=(m:Int):=by simp only[IntKind.wrap_i64];omega
  clear hm
  have rP:=qeQ ⟨gp,0,none⟩ (A.length+1) cp A.length (by omega) hcp
  have rE:=qai (some ⟨gl,0,none⟩) (A.length+1) cl A.length (by omega) hcl (by simp) (by simp)
  clear hfin hp h3 hs hkV hk3 hlA h hI hLk hiu hu hTl bx4 hbd
  generalize A.length=n at *
  go_enter Tryz.func90,Tryz.ntmps90
  go_wp2_with fail
  go_region_held3 (fun W=>W.cell? ⟨k.gt,4,none⟩=some (.slice (some ⟨gp,0,none⟩) (n+1) cp)/\W.cell? ⟨gp,n,none⟩=some (.slice (some ⟨gu,0,none⟩) (m+1) cu))
   (first|with_reducible exact cS)
   (first|fail)
  rw[<-hV]
  clear hV cS
  go_upto_region 3 with fail
  refine q4u (fun W=>W.cell? ⟨k.gt,4,none⟩=some (.slice (some ⟨gp,0,none⟩) (n+1) cp)/\W.cell? ⟨k.gt,5,none⟩=some (.slice (some ⟨gl,0,none⟩) (n+1) cl)) [16,19] (by kernel_rfl) ?_
  rw[<-hV3]
  clear hV3
  show q0r _ _ _ _ _ _ 20 (Array.replicate 20 false) _ _
  refine zzN (i:=0) (v:=?_) rfl (Or.inl ⟨by rfl,?_⟩) (Or.inr a0) ?_
  rotate_left
  ·intro w0 s9;(try dsimp only at s9);go_simp;(try with_reducible rfl)
  try simp only[Act.put,zz1,zz2,zz3]
  refine zzN (i:=1) (v:=?_) rfl (Or.inl ⟨by rfl,?_⟩) (Or.inr a0) ?_
  rotate_left
  ·intro w0 s9;(try dsimp only at s9);go_simp;(try with_reducible rfl)
  try simp only[Act.put,zz1,zz2,zz3]
  refine zzN (i:=2) (v:=?_) rfl (Or.inl ⟨by rfl,?_⟩) (Or.inr a0) ?_
  rotate_left
  ·intro w0 s9;(try dsimp only at s9);go_simp;(try with_reducible rfl)
  try simp only[Act.put,zz1,zz2,zz3]
  refine zzN (i:=3) (v:=?_) rfl (Or.inl ⟨by rfl,?_⟩) (Or.inr a0) ?_
  rotate_left
  ·intro w0 s9;(try dsimp only at s9);go_simp;(try with_reducible rfl)
  try simp only[Act.put,zz1,zz2,zz3]
  refine zzN (i:=4) (v:=?_) rfl (Or.inl ⟨by rfl,?_⟩) (Or.inr a0) ?_
  rotate_left
  ·intro w0 s9;(try dsimp only at s9);go_simp;(try with_reducible rfl)
  try simp only[Act.put,zz1,zz2,zz3]
  refine zzM (i:=5) (v:=?_) rfl (Or.inl ⟨by rfl,?_⟩) a0 ?_
  rotate_left
  ·intro w0 s9;(try dsimp only at s9);go_simp;(try with_reducible rfl)
  try simp only[Act.put,zz1,zz2,zz3]
  refine zzN (i:=6) (v:=?_) rfl (Or.inl ⟨by rfl,?_⟩) (Or.inr a0) ?_
  rotate_left
  ·intro w0 s9;(try dsimp only at s9);go_simp;(try with_reducible rfl)
  try simp only[Act.put,zz1,zz2,zz3]
  refine zzN (i:=7) (v:=?_) rfl (Or.inl ⟨by rfl,?_⟩) (Or.inr a0) ?_
  rotate_left
  ·intro w0 s9;(try dsimp only at s9);go_simp;(try with_reducible rfl)
  try simp only[Act.put,zz1,zz2,zz3]
  refine zzN (i:=8) (v:=?_) rfl (Or.inl ⟨by rfl,?_⟩) (Or.inr a0) ?_
  rotate_left
  ·intro w0 s9;(try dsimp only at s9);go_simp;(try with_reducible rfl)
  try simp only[Act.put,zz1,zz2,zz3]
  refine zzN (i:=9) (v:=?_) rfl (Or.inl ⟨by rfl,?_⟩) (Or.inr a0) ?_
  rotate_left
  ·intro w0 s9;(try dsimp only at s9);go_simp;(try with_reducible rfl)
  try simp only[Act.put,zz1,zz2,zz3]
  refine zzN (i:=10) (v:=?_) rfl (Or.inl ⟨by rfl,?_⟩) (Or.inr a0) ?_
  rotate_left
  ·intro w0 s9;(try dsimp only at s9);go_simp;(try with_reducible rfl)
  try simp only[Act.put,zz1,zz2,zz3]
  refine zzM (i:=11) (v:=?_) rfl (Or.inl ⟨by rfl,?_⟩) a0 ?_
  rotate_left
  ·intro w0 s9;(try dsimp only at s9);go_simp;(try with_reducible rfl)
  try simp only[Act.put,zz1,zz2,zz3]
  refine zzN (i:=12) (v:=?_) rfl (Or.inl ⟨by rfl,?_⟩) (Or.inr a0) ?_
  rotate_left
  ·intro w0 s9;(try dsimp only at s9);go_simp;(try with_reducible rfl)
  try simp only[Act.put,zz1,zz2,zz3]
  refine zzN (i:=13) (v:=?_) rfl (Or.inl ⟨by rfl,?_⟩) (Or.inr a0) ?_
  rotate_left
  ·intro w0 s9;(try dsimp only at s9);go_simp;(try with_reducible rfl)
  try simp only[Act.put,zz1,zz2,zz3]
  refine zzN (i:=14) (v:=?_) rfl (Or.inl ⟨by rfl,?_⟩) (Or.inr a0) ?_
  rotate_left
  ·intro w0 s9;(try dsimp only at s9);go_simp;(try with_reducible rfl)
  try simp only[Act.put,zz1,zz2,zz3]
  refine zzN (i:=15) (v:=?_) rfl (Or.inl ⟨by rfl,?_⟩) (Or.inr a0) ?_
  rotate_left
  ·intro w0 s9;(try dsimp only at s9);go_simp;(try with_reducible rfl)
  try simp only[Act.put,zz1,zz2,zz3]
  refine q4t (i:=16) rfl (by kernel_rfl) (fun K hK=>?_)
  go_simp
  refine hK _ _ (Or.inl (by rfl)) ?_
  clear hK K
  try simp only[Act.put,zz1,zz2,zz3]
  refine zzN (i:=17) (v:=?_) rfl (Or.inl ⟨by rfl,?_⟩) (Or.inl (by rfl)) ?_
  rotate_left
  ·intro w0 s9;(try dsimp only at s9);go_simp;(try with_reducible rfl)
  try simp only[Act.put,zz1,zz2,zz3]
  refine zzN (i:=18) (v:=?_) rfl (Or.inl ⟨by rfl,?_⟩) (Or.inl (by rfl)) ?_
  rotate_left
  ·intro w0 s9;(try dsimp only at s9);go_simp;(try with_reducible rfl)
  try simp only[Act.put,zz1,zz2,zz3]
  refine q4t (i:=19) rfl (by kernel_rfl) (fun K hK=>?_)
  go_simp
  refine hK _ _ (Or.inl (by rfl)) ?_
  clear hK K
  try simp only[Act.put,zz1,zz2,zz3]
  refine q7m (by kernel_rfl) ?_ _
  go_wp2
  exact bodyPost_ret (results_none rfl _ _ _) rfl ⟨⟨_,rfl⟩,_,_,_,uQ HFIN⟩
 ·rw[if_neg h0]
  have hp:=List.length_pos_iff.2 h0
  have hl1:=HkS.less hI hs hu
  obtain ⟨W4,hW4⟩: ∃W4,W4=V.setCell ⟨gp,A.length,none⟩ (.slice (some ⟨gu,0,none⟩) l.length cu):=⟨_,rfl⟩
  rw[<-hW4]at hl1
  obtain ⟨cz,hcz⟩:=hs.pl.row.block (b:=gp) rfl
  have z4:V.frozen? ⟨gp,A.length,none⟩=false:=CBox.froz (show CBox gp cz 51 V from hcz) _
  have y4:V.cell? ⟨k.gt,4,none⟩=some (.slice (some ⟨gp,0,none⟩) (A.length+1) cp):=hs.box.cell rfl
  have y5:V.cell? ⟨gp,A.length,none⟩=some (.slice (some ⟨gu,0,none⟩) (l.length+1) cu):=hs.pl.cell hu
  obtain ⟨V5,hV5⟩: ∃V5,V5=W4.drew:=⟨_,rfl⟩
  have hk5:Kp [] W4 V5:=by rw[hV5];exact Kp.drew W4
  have hd:=hl1.s.al hk5
  have hlt:Mt.lst l<k.es.length:=by
   refine hbd _ ?_
   unfold Mt.lst
   rw[List.getLastD_eq_getLast?,List.getLast?_eq_some_getLast h0]
   exact List.getLast_mem h0
  obtain ⟨eb,eo,hea,e0,e1,e2,e3,e4,e5,e6⟩:=((hI.ev).kp (hd.kb hI) (by simp)).seven (Mt.lst l) hlt
  have hu5:(vs.set A.length (.slice (some ⟨gu,0,none⟩) l.length cu))[A.length]?=some (.slice (some ⟨gu,0,none⟩) l.length cu):=by
   rw[List.getElem?_set_self (zC.1 hu).1]
  have hi5:=hd.pl.ins.2 A.length _ _ hu5 (q4n (l:=l) (by simp))
  obtain ⟨gu',cu',hue',_,_,hlast⟩:=q2J hi5 h0
  injection hue' with q1 q2 q3
  cases q1
  obtain ⟨m,hm⟩: ∃m,l.length=m+1:=⟨l.length-1,by omega⟩
  rw[hm,Nat.add_sub_cancel]at hlast
  have hel:=hI.el
  have hqi:((Mt.lst l:Nat):Int)<(k.es.length:Int):=by omega
  have b5:V5.cell? ⟨k.gt,5,none⟩=some (.slice (some ⟨gl,0,none⟩) (A.length+1) cl):=hd.box.cell rfl
  have b2:V5.cell? ⟨k.gt,2,none⟩=some (.slice (some ⟨eb,eo,none⟩) k.es.length k.ec):=by rw[<-hea];exact hd.box.cell rfl
  obtain ⟨cur,hcur⟩: ∃cur,CBox gl cur 30 V5:=by
   obtain ⟨_,⟨e,_⟩|⟨g9,c9,cur,e,_,hh,_⟩⟩:=id hd.la
   ·cases e
   ·injection e with e1 _ _
    cases e1
    exact ⟨cur,hh⟩
  have hLl:(hkL k (A++[l++[q]])).length=A.length+1:=by rw[q0B];simp
  have hLc: ∀j,j<7-> ∃v,V5.cell? ⟨gl,A.length * 7+j,none⟩=some v:=fun j hj=>by
   have hlen:A.length * 7+j<((hkL k (A++[l++[q]])).flatMap evW).length:=by rw[q1s,hLl];omega
   have:=World.ownsRow.cells hd.la (g:=gl) rfl (A.length * 7+j) _ (zE hlen)
   rw[Go.WideShapes.add_plain,Nat.zero_add]at this
   exact ⟨_,this⟩
  obtain ⟨v0,l0⟩:=hLc 0 (by omega)
  obtain ⟨v1,l1⟩:=hLc 1 (by omega)
  obtain ⟨v2,l2⟩:=hLc 2 (by omega)
  obtain ⟨v3,l3⟩:=hLc 3 (by omega)
  obtain ⟨v4,l4⟩:=hLc 4 (by omega)
  obtain ⟨v5,l5⟩:=hLc 5 (by omega)
  obtain ⟨v6,l6⟩:=hLc 6 (by omega)
  rw[Nat.add_zero]at l0
  have f0:=hcur.froz (A.length * 7)
  have f1:=hcur.froz (A.length * 7+1)
  have f2:=hcur.froz (A.length * 7+2)
  have f3:=hcur.froz (A.length * 7+3)
  have f4:=hcur.froz (A.length * 7+4)
  have f5:=hcur.froz (A.length * 7+5)
  have f6:=hcur.froz (A.length * 7+6)
  have hqe:k.es.getD (Mt.lst l) evZ=k.es[Mt.lst l]:=by rw[List.getD_eq_getElem?_getD,zE hlt];rfl
  have hLs:(hkL k (A++[l++[q]])).set A.length k.es[Mt.lst l]=hkL k (A++[l]):=by rw[hLk,q23 _ _ _ _ (q0B k A).symm,q1Z,hqe]
  have hN2:=(HkN.trans (F:=hkF k (.slice (some ⟨gp,0,none⟩) (A.length+1) cp) (.slice (some ⟨gl,0,none⟩) (A.length+1) cl) vs) ⟨hs,hkV.mono (by simp),fun x hx=>Or.inl hx⟩ hl1)
  have hfin:=hN2.trans (hl1.s.last hI hk5 A.length (by rw[hLl];omega) k.es[Mt.lst l])
  rw[hLs]at hfin
  have HFIN:=hZq hfin
  rw[hm]at r1 cS hW4 y5 hlb
  have g0:(((m:Int)+1)==0)=false:=beq_eq_false_iff_ne.2 (by omega)
  have hmw:IntKind.i64.wrap ((m:Int)+1)=(m:Int)+1:=by simp only[IntKind.wrap_i64];omega
  have hmw2:IntKind.i64.wrap (m:Int)=(m:Int):=by simp only[IntKind.wrap_i64];omega
  have r1': ∀W,(Instr.slice 51 (.slice (some ⟨gu,0,none⟩) (m+1+1) cu) none (some (.int .i64 ((m:Int)+1))) none).run Tryz.prog W= .ok (.slice (some ⟨gu,0,none⟩) (m+1) cu) W:=r1
  have hmc:(m:Int)+1<=(cu:Int):=by rw[hm]at hcu;omega
  have hm1:(m:Int)<(m:Int)+1:=by omega
  clear hfin hN2 hl1 hs hd hkV hk5 hea hcur hLc hLs hqe hI hiu hu hTl hu5 hi5 h hLk hbd hcz hp h0 hcu r1 hm q2 q3 hLl
  generalize k.es[Mt.lst l]=ev at *
  clear hlt
  obtain ⟨ek,et,n0,n1,n2,n3,ex⟩:=ev
  dsimp only at e0 e1 e2 e3 e4 e5 e6 HFIN
  generalize Mt.lst l=qq at *
  generalize A.length=n at *
  generalize k.es.length=M at *
  have b0:V5.cell? ⟨k.gt,5,none⟩=some (.slice (some ⟨gl,0,none⟩) (n+1) cl)/\V5.cell? ⟨k.gt,2,none⟩=some (.slice (some ⟨eb,eo,none⟩) M k.ec)/\V5.cell? ⟨gu,m,none⟩=some (.int .i64 (qq:Int))/\V5.cell? ⟨eb,eo+qq * 7,none⟩=some (.string ek)/\V5.cell? ⟨eb,eo+qq * 7+1,none⟩=some (.string et)/\V5.cell? ⟨eb,eo+qq * 7+2,none⟩=some (.int .i64 n0)/\V5.cell? ⟨eb,eo+qq * 7+3,none⟩=some (.int .i64 n1)/\V5.cell? ⟨eb,eo+qq * 7+4,none⟩=some (.int .i64 n2)/\V5.cell? ⟨eb,eo+qq * 7+5,none⟩=some (.int .i64 n3)/\V5.cell? ⟨eb,eo+qq * 7+6,none⟩=some (.string ex):=⟨b5,b2,hlast,e0,e1,e2,e3,e4,e5,e6⟩
  go_enter Tryz.func90,Tryz.ntmps90
  go_wp2_with fail
  go_region_held3 (fun W=>W.cell? ⟨k.gt,4,none⟩=some (.slice (some ⟨gp,0,none⟩) (n+1) cp)/\W.cell? ⟨gp,n,none⟩=some (.slice (some ⟨gu,0,none⟩) (m+1+1) cu))
   (first|with_reducible exact cS)
   (first|fail)
  rw[<-hV]
  clear hV cS
  go_upto_region 5 with fail
  rw[<-hW4]
  clear hW4
  refine q0m (fun W=>W.cell? ⟨k.gt,5,none⟩=some (.slice (some ⟨gl,0,none⟩) (n+1) cl)/\W.cell? ⟨k.gt,2,none⟩=some (.slice (some ⟨eb,eo,none⟩) M k.ec)/\W.cell? ⟨gu,m,none⟩=some (.int .i64 (qq:Int))/\W.cell? ⟨eb,eo+qq * 7,none⟩=some (.string ek)/\W.cell? ⟨eb,eo+qq * 7+1,none⟩=some (.string et)/\W.cell? ⟨eb,eo+qq * 7+2,none⟩=some (.int .i64 n0)/\W.cell? ⟨eb,eo+qq * 7+3,none⟩=some (.int .i64 n1)/\W.cell? ⟨eb,eo+qq * 7+4,none⟩=some (.int .i64 n2)/\W.cell? ⟨eb,eo+qq * 7+5,none⟩=some (.int .i64 n3)/\W.cell? ⟨eb,eo+qq * 7+6,none⟩=some (.string ex)) 18 (by kernel_rfl) ?_
  rw[<-hV5]
  clear hV5
  show q0a _ _ _ _ _ _ 19 (Array.replicate 19 false) _ _
  refine zzL (i:=0) (v:=?_) rfl (Or.inl ⟨by rfl,?_⟩) b0 ?_
  rotate_left
  ·intro w0 s9;(try dsimp only at s9);go_simp;(try with_reducible rfl)
  try simp only[Act.put,zz1,zz2,zz3]
  refine zzL (i:=1) (v:=?_) rfl (Or.inl ⟨by rfl,?_⟩) b0 ?_
  rotate_left
  ·intro w0 s9;(try dsimp only at s9);go_simp;(try with_reducible rfl)
  try simp only[Act.put,zz1,zz2,zz3]
  refine zzL (i:=2) (v:=?_) rfl (Or.inl ⟨by rfl,?_⟩) b0 ?_
  rotate_left
  ·intro w0 s9;(try dsimp only at s9);go_simp;(try with_reducible rfl)
  try simp only[Act.put,zz1,zz2,zz3]
  refine zzL (i:=3) (v:=?_) rfl (Or.inl ⟨by rfl,?_⟩) b0 ?_
  rotate_left
  ·intro w0 s9;(try dsimp only at s9);go_simp;(try with_reducible rfl)
  try simp only[Act.put,zz1,zz2,zz3]
  refine zzL (i:=4) (v:=?_) rfl (Or.inl ⟨by rfl,?_⟩) b0 ?_
  rotate_left
  ·intro w0 s9;(try dsimp only at s9);go_simp;(try with_reducible rfl)
  try simp only[Act.put,zz1,zz2,zz3]
  refine zzL (i:=5) (v:=?_) rfl (Or.inl ⟨by rfl,?_⟩) b0 ?_
  rotate_left
  ·intro w0 s9;(try dsimp only at s9);go_simp;(try with_reducible rfl)
  try simp only[Act.put,zz1,zz2,zz3]
  refine zzL (i:=6) (v:=?_) rfl (Or.inl ⟨by rfl,?_⟩) b0 ?_
  rotate_left
  ·intro w0 s9;(try dsimp only at s9);go_simp;(try with_reducible rfl)
  try simp only[Act.put,zz1,zz2,zz3]
  refine zzL (i:=7) (v:=?_) rfl (Or.inl ⟨by rfl,?_⟩) b0 ?_
  rotate_left
  ·intro w0 s9;(try dsimp only at s9);go_simp;(try with_reducible rfl)
  try simp only[Act.put,zz1,zz2,zz3]
  refine zzL (i:=8) (v:=?_) rfl (Or.inl ⟨by rfl,?_⟩) b0 ?_
  rotate_left
  ·intro w0 s9;(try dsimp only at s9);go_simp;(try with_reducible rfl)
  try simp only[Act.put,zz1,zz2,zz3]
  refine zzL (i:=9) (v:=?_) rfl (Or.inl ⟨by rfl,?_⟩) b0 ?_
  rotate_left
  ·intro w0 s9;(try dsimp only at s9);go_simp;(try with_reducible rfl)
  try simp only[Act.put,zz1,zz2,zz3]
  refine zzL (i:=10) (v:=?_) rfl (Or.inl ⟨by rfl,?_⟩) b0 ?_
  rotate_left
  ·intro w0 s9;(try dsimp only at s9);go_simp;(try with_reducible rfl)
  try simp only[Act.put,zz1,zz2,zz3]
  refine zzL (i:=11) (v:=?_) rfl (Or.inl ⟨by rfl,?_⟩) b0 ?_
  rotate_left
  ·intro w0 s9;(try dsimp only at s9);go_simp;(try with_reducible rfl)
  try simp only[Act.put,zz1,zz2,zz3]
  refine zzL (i:=12) (v:=?_) rfl (Or.inl ⟨by rfl,?_⟩) b0 ?_
  rotate_left
  ·intro w0 s9;(try dsimp only at s9);go_simp;(try with_reducible rfl)
  try simp only[Act.put,zz1,zz2,zz3]
  refine zzL (i:=13) (v:=?_) rfl (Or.inl ⟨by rfl,?_⟩) b0 ?_
  rotate_left
  ·intro w0 s9;(try dsimp only at s9);go_simp;(try with_reducible rfl)
  try simp only[Act.put,zz1,zz2,zz3]
  refine zzL (i:=14) (v:=?_) rfl (Or.inl ⟨by rfl,?_⟩) b0 ?_
  rotate_left
  ·intro w0 s9;(try dsimp only at s9);go_simp;(try with_reducible rfl)
  try simp only[Act.put,zz1,zz2,zz3]
  refine zzL (i:=15) (v:=?_) rfl (Or.inl ⟨by rfl,?_⟩) b0 ?_
  rotate_left
  ·intro w0 s9;(try dsimp only at s9);go_simp;(try with_reducible rfl)
  try simp only[Act.put,zz1,zz2,zz3]
  refine zzL (i:=16) (v:=?_) rfl (Or.inl ⟨by rfl,?_⟩) b0 ?_
  rotate_left
  ·intro w0 s9;(try dsimp only at s9);go_simp;(try with_reducible rfl)
  try simp only[Act.put,zz1,zz2,zz3]
  refine zzL (i:=17) (v:=?_) rfl (Or.inl ⟨by rfl,?_⟩) b0 ?_
  rotate_left
  ·intro w0 s9;(try dsimp only at s9);go_simp;(try with_reducible rfl)
  try simp only[Act.put,zz1,zz2,zz3]
  refine q01 (i:=18) rfl (by kernel_rfl) (fun K hK=>?_)
  go_simp
  refine hK _ _ (Or.inl rfl) ?_
  clear hK K
  try simp only[Act.put,zz1,zz2,zz3]
  refine q0c (by kernel_rfl) ?_ _
  go_wp2
  go_end0
  exact ⟨⟨_,rfl⟩,_,_,_,uQ HFIN⟩
structure Cp where
 g:Nat
 vs:List Value
 T:List (List Nat)
def Cp.v (x:Cp):Value:= .slice (some ⟨x.g,0,none⟩) x.T.length x.T.length
structure CpAt (w:World)(x:Cp):Prop where
 row:CBox x.g x.vs.toArray 51 w
 ins:RowsI w x.vs (Mt.toZ x.T)
def Cp.B (x:Cp):List Nat:=x.g::x.vs.flatMap fun u=>u.ownBlock.toList
theorem CpAt.kp {F:List Nat}{w w':World}{x:Cp}(h:CpAt w x)(hk:Kp F w w')(hF: ∀k∈x.B,k∉F):CpAt w' x:=
 ⟨h.row.kp hk (hF _ (by unfold Cp.B;simp)),h.ins.1,fun i u p hu hp=>(h.ins.2 i u p hu hp).kp hk (fun b hb=>hF b (by
  unfold Cp.B
  rw[zH,List.mem_flatMap]
  exact Or.inr ⟨u,List.mem_of_getElem? hu,by rw[hb];simp⟩))⟩
theorem CpAt.lt {w:World}{x:Cp}(h:CpAt w x): ∀k∈x.B,k<w.heap.size:=fun k hk=>by
 unfold Cp.B at hk
 rw[zH,List.mem_flatMap]at hk
 rcases hk with rfl|⟨u,hu,hk⟩
 ·exact (zB.1 h.row).1
 ·exact h.ins.lt hu (by simpa using hk)
theorem qdr (n:Nat)(hn:n<=100000)(W:World):(Instr.makeSlice 26 (.int .i64 (n:Int)) (.int .i64 (n:Int))).run Tryz.prog W= .ok (.slice (some ⟨W.heap.size,0,none⟩) n n) (W.alloc (.cells (List.replicate n (Value.slice none 0 0)).toArray 51)):=by
 obtain ⟨i0,hi,hz0,hz1,hz2⟩:=info_parts q2H
 have h:=run_make (P:=Tryz.prog) W 26 51 i0 (.slice none 0 0) Tryz.underlying26 hi hz0 .i64 .i64 (n:Int) (n:Int) (by omega) (by omega) (by rw[hz2];omega) (by omega)
 rw[hz1]at h
 simp only[Int.toNat_natCast,Nat.mul_one]at h
 rw[h]
 have e:madeCells (Value.slice none 0 0).cells n=(List.replicate n (Value.slice none 0 0)).toArray:=by
  apply Array.ext'
  exact toList_madeCells_one (Value.slice none 0 0) n
 rw[e]
structure CoS (w:World)(T:List (List Nat))(n i:Nat)(ds:List Value)(wr:World):Prop where
 len:ds.length=i
 row:CBox w.heap.size (ds++List.replicate (n-i) (Value.slice none 0 0)).toArray 51 wr
 ins:RowsI wr ds (Mt.toZ (T.take i))
 kp:Kp [] w wr
 nw: ∀u∈ds, ∀b,u.ownBlock=some b->w.heap.size<=b
theorem CoS.next {w wr w1:World}{T:List (List Nat)}{n i:Nat}{ds:List Value}{l:List Nat}{v':Value}(h:CoS w T n i ds wr)(hi:i<n)(hl:T[i]?=some l)(hb:Below wr.heap.size wr w1)(hv:w1.ownsRow wr.heap.size 3 1 v' l.length ((l.map Int.ofNat).map (Value.int .i64))):
  w1.cell? ⟨w.heap.size,i,none⟩=some (.slice none 0 0)/\w1.frozen? ⟨w.heap.size,i,none⟩=false/\CoS w T n (i+1) (ds++[v']) (w1.setCell ⟨w.heap.size,i,none⟩ v'):=by
 have hk:=Kp.ofBelow hb
 have hr1:=h.row.kp hk (by simp)
 have hlen:=h.len
 have e1:(ds++List.replicate (n-i) (Value.slice none 0 0):List Value)[i]?=some (.slice none 0 0):=by
  rw[List.getElem?_append_right (by omega),hlen,Nat.sub_self,List.getElem?_replicate,if_pos (by omega)]
 have hiro:IRo w1 v' (l.map Int.ofNat):=by
  unfold IRo iC
  rw[zI]
  obtain ⟨a,b|⟨g,c,cur,b,_,d⟩⟩:=hv
  ·exact ⟨a,Or.inl b⟩
  ·exact ⟨a,Or.inr ⟨g,c,cur,b,Nat.zero_le _,d⟩⟩
 have hvb: ∀b,v'.ownBlock=some b->wr.heap.size<=b:=fun b hb'=>(World.ownsRow.lt hv b hb').1
 have hsz:w.heap.size<wr.heap.size:=(zB.1 h.row).1
 have hks:=Kp.set w1 w.heap.size i v'
 have hne: ∀{x:Value} {p:List Int},IRo w1 x p-> ∀b,x.ownBlock=some b->b∉[w.heap.size]:=fun hx b hb' hm=>by
  rw[zD]at hm
  exact q0d hx hr1 (by decide) (by rw[hb',hm])
 refine ⟨hr1.cell (by simpa using e1),hr1.froz i,by rw[zF,hlen];rfl,?_,?_,?_,fun u hu b hb'=>?_⟩
 ·have:=hr1.set i v'
  have e2:(ds++List.replicate (n-i) (Value.slice none 0 0):List Value).toArray.setIfInBounds i v'=((ds++[v'])++List.replicate (n-(i+1)) (Value.slice none 0 0)).toArray:=by
   rw[List.setIfInBounds_toArray,List.set_append_right _ _ (by omega),hlen,Nat.sub_self,show n-i=(n-(i+1))+1 by omega,List.replicate_succ]
   simp
  rw[e2]at this
  exact this
 ·have hiT:i<T.length:=(zC.1 hl).1
  have et:Mt.toZ (T.take (i+1))=Mt.toZ (T.take i)++[l.map Int.ofNat]:=by
   rw[List.take_add_one,hl]
   unfold Mt.toZ
   rw[List.map_append]
   rfl
  rw[et]
  refine RowsI.snoc ⟨h.ins.1,fun j u p hu hp=>?_⟩ (hiro.kp hks (hne hiro))
  have:=(h.ins.2 j u p hu hp).kp hk (by simp)
  exact this.kp hks (hne this)
 ·exact (h.kp.trans hk (by simp)).trans hks (by simp)
 ·rw[zG,zD]at hu
  rcases hu with hu|rfl
  ·exact h.nw u hu b hb'
  ·have:=hvb b hb'
   omega
theorem q8k (w:World)(T:List (List Nat))(pv:Value)(vs:List Value)(h:PlS w pv vs T)(hT:T.length<=100000)(hne: ∀l∈T,l≠[])(hlen: ∀l∈T,l.length<=100000):
  Calls Tryz.prog 113 #[pv] w fun e w'=> ∃x:Cp,e= .returned x.v/\CpAt w' x/\x.T=T/\Kp [] w w'/\ ∀b∈x.B,w.heap.size<=b:=by
 obtain ⟨ap,cp,rfl⟩: ∃ap cp,pv= .slice ap T.length cp:=by
  rcases h.form with ⟨rfl,e⟩|⟨g,cap,rfl,_⟩
  ·exact ⟨none,0,by rw[e];rfl⟩
  ·exact ⟨_,_,rfl⟩
 have MK:=qdr T.length hT w
 have HSRC:Hid (∀(i:Nat) (hi:i<T.length) (W:World),Kp [] w W-> ∃g b m uc,ap=some ⟨g,0,none⟩/\W.cell? ⟨g,i,none⟩=some (.slice (some ⟨b,0,none⟩) m uc)/\m=T[i].length/\ ∀j,j<(T[i].map Int.ofNat).length->W.cell? ⟨b,0+j,none⟩=some (.int .i64 ((T[i].map Int.ofNat).getD j 0))):=hZq (fun i hi W hk=>by
  have h2:=h.kp hk (by simp)
  obtain ⟨u,hu,hiu⟩:=h2.at (zE hi)
  have hn:=hne _ (zJ hi)
  obtain ⟨g2,c2,rfl,_,_,_⟩:=q2J hiu hn
  rcases h2.form with ⟨_,e⟩|⟨g,cap,e,_,_⟩
  ·rw[e]at hi;simp at hi
  ·injection e with e1 e2 e3
   subst e1
   refine ⟨g,g2,_,c2,rfl,h2.cell hu,rfl,fun j hj=>?_⟩
   obtain ⟨a,c,e,hat⟩:=hiu.at
   injection e with e1 e2 e3
   subst e1
   obtain ⟨b,off,eb,_,hc⟩:=hat (fun e=>hn (List.map_eq_nil_iff.1 e))
   cases eb
   rw[hc j hj,List.getD_eq_getElem?_getD,zE hj]
   rfl)
 have HL:Hid (∀(i:Nat) (hi:i<T.length),T[i].length<=100000):=hZq (fun i hi=>hlen _ (zJ hi))
 have H0:Hid (CoS w T T.length 0 [] (w.alloc (.cells (List.replicate T.length (Value.slice none 0 0)).toArray 51))):=hZq ⟨rfl,by rw[Nat.sub_zero];exact CBox.new w _ _,RowsI.nil _,Kp.alloc _ _,by simp⟩
 have HTT:Hid (T.length=T.length):=hZq rfl
 clear h hne hlen
 obtain ⟨n,hn⟩: ∃n,T.length=n:=⟨_,rfl⟩
 have HN:=hZq hn
 rw[hn]at hT MK H0 ⊢
 clear hn HTT
 go_enter Tryz.func113,Tryz.ntmps113
 go_wp2_with fail
 go_loopw [11] (fun iv wr=> ∃(i:Nat) (ds:List Value),i<=n/\iv= .int .i64 (i:Int)/\Hid (CoS w T n i ds wr)) (fun iv _=>n-(intOf iv).toNat)
 case atStart=>exact ⟨0,[],Nat.zero_le _,rfl,H0⟩
 case round=>
  obtain ⟨i,ds,hi,rfl,HC⟩:=hrel
  clear H0 MK
  by_cases hlt:i<n
  ·have hiT:i<T.length:=by rw[uQ HN];exact hlt
   have hli:(i:Int)<(n:Int):=by omega
   obtain ⟨g,b,m,uc,rfl,c1,hm,hcs⟩:=uQ HSRC i hiT wr (uQ HC).kp
   have hml:=uQ HL i hiT
   rw[<-hm]at hml
   have CL:=hZq (Tryz.slices_Clone_int b 0 m uc (T[i].map Int.ofNat) wr (by rw[zI,hm];exact zM _) (by omega) hcs)
   have HNX:=hZq (fun (w1:World) (v':Value) (hb:Below wr.heap.size wr w1) (hv:w1.ownsRow wr.heap.size 3 1 v' T[i].length ((T[i].map Int.ofNat).map (Value.int .i64)))=>(uQ HC).next hlt (zE hiT) hb hv)
   have HTK:Hid (((T[i].map Int.ofNat).take m)=T[i].map Int.ofNat):=hZq (by rw[hm];exact List.take_of_length_le (by rw[zI];exact zM _))
   have hsz:w.heap.size<wr.heap.size:=(zB.1 (uQ HC).row).1
   have HM:=hZq hm
   clear HC HSRC HL hcs hm
   go_wp2_with fail
   refine (uQ CL).mono ?_
   rintro e w1 ⟨v',rfl,hv,hnn,hb⟩
   rw[uQ HTK,uQ HM]at hv
   obtain ⟨d1,d2,hC1⟩:=uQ HNX w1 v' hb hv
   have HC1:=hZq hC1
   have hs1:=hb.size
   obtain ⟨va,vn,vc,rfl⟩: ∃a n c,v'= .slice a n c:=by
    obtain ⟨_,⟨e,_⟩|⟨g',c',cur,e,_⟩⟩:=hv
    ·exact ⟨_,_,_,e⟩
    ·exact ⟨_,_,_,e⟩
   clear CL HNX HTK hv hnn hb hC1
   go_wp2
   go_roundw
   case rel=>exact ⟨i+1,_,by omega,by go_num,HC1⟩
   case measure=>simp[intOf];omega
  ·obtain rfl:i=n:=by omega
   have hC:=uQ HC
   clear HC HSRC HL
   go_wp2
   go_ret
   refine ⟨⟨w.heap.size,ds,T⟩,?_,⟨?_,?_⟩,rfl,hC.kp,fun b hb=>?_⟩
   ·unfold Cp.v
    dsimp only
    rw[uQ HN]
    rfl
   ·have:=hC.row
    rw[Nat.sub_self]at this
    simpa using this
   ·have:=hC.ins
    rw[show T.take i=T by rw[<-uQ HN];exact List.take_length]at this
    exact this
   ·unfold Cp.B at hb
    rw[zH,List.mem_flatMap]at hb
    rcases hb with rfl|⟨u,hu,hb⟩
    ·exact zM _
    ·exact hC.nw u hu b (by simpa using hb)
def Cl (w:World)(b:Nat)(s:List TypeId):Prop:= ∃cs t,CBox b cs t w/\t∈s
def Mp (w:World)(b:Nat):Prop:= ∃es c,w.heap[b]?=some (.map es c)
theorem Cl.ne {w:World}{a b:Nat}{s s':List TypeId}(h:Cl w a s)(h2:Cl w b s')(hd: ∀t∈s,t∉s'):a≠b:=fun e=>by
 obtain ⟨cs,t,h3,h4⟩:=h
 obtain ⟨cs',t',h5,h6⟩:=h2
 refine q0p h3 h5 (fun e=>?_) e
 exact hd t h4 (by rw[e];exact h6)
theorem Mp.ne {w:World}{a b:Nat}{s:List TypeId}(h:Mp w a)(h2:Cl w b s):a≠b:=fun e=>by
 obtain ⟨es,c,h1⟩:=h
 obtain ⟨cs,t,h3,_⟩:=h2
 rw[e,show w.heap[b]?=some (.cells cs t) from h3]at h1
 cases h1
theorem Cl.wide {w:World}{b:Nat}{s s':List TypeId}(h:Cl w b s)(hs: ∀t∈s,t∈s'):Cl w b s':=let ⟨cs,t,h1,h2⟩:=h;⟨cs,t,h1,hs t h2⟩
theorem CBox.cl {w:World}{b:Nat}{cs:Array Value}{t:TypeId}(h:CBox b cs t w):Cl w b [t]:=⟨cs,t,h,by simp⟩
theorem SetP.mp {w:World}{b:Nat}{S:List Spt}(h:SetP w b S):Mp w b:=let ⟨es,c,h1,_⟩:=h;⟨es,c,h1⟩
def fgT:List TypeId:=[36,31,32,9,148,196]
def Ow (w:World)(b:Nat):Prop:=Mp w b\/ ∃cs t,CBox b cs t w/\t∉fgT
theorem Cl.ow {w:World}{b:Nat}{s:List TypeId}(h:Cl w b s)(hs: ∀t∈s,t∉fgT):Ow w b:=let ⟨cs,t,h1,h2⟩:=h;Or.inr ⟨cs,t,h1,hs t h2⟩
def Yw (w:World)(b:Nat):Prop:=(∃r,w.heap[b]?=some (.loop r))\/Cl w b [36,31,32]
theorem Yw.ne {w:World}{a b:Nat}{s:List TypeId}(h:Yw w a)(h2:Cl w b s)(hd: ∀t∈s,t∉[36,31,32]):b≠a:=by
 rcases h with ⟨r,h⟩|h
 ·intro e
  obtain ⟨cs,t,h3,_⟩:=h2
  rw[<-e,show w.heap[b]?=some (.cells cs t) from h3]at h
  cases h
 ·exact h2.ne h hd
theorem Yw.neM {w:World}{a b:Nat}(h:Yw w a)(h2:Mp w b):b≠a:=by
 rcases h with ⟨r,h⟩|h
 ·intro e
  obtain ⟨es,c,h3⟩:=h2
  rw[<-e,h3]at h
  cases h
 ·exact h2.ne h
structure KT (w w':World):Prop where
 sz:w.heap.size<=w'.heap.size
 bl: ∀b cs t,CBox b cs t w->t∈[148,196]->CBox b cs t w'
theorem KT.refl (w:World):KT w w:=⟨zM _,fun _ _ _ h _=>h⟩
theorem KT.trans {a b c:World}(h:KT a b)(k:KT b c):KT a c:=⟨Nat.le_trans h.sz k.sz,fun i cs t h1 h2=>k.bl i cs t (h.bl i cs t h1 h2) h2⟩
theorem KT.own {w w':World}{F:List Nat}(hk:Kp F w w')(hF: ∀b∈F,Ow w b):KT w w':=⟨hk.size,fun b cs t h1 h2=>h1.kp hk (fun hm=>by
 rcases hF b hm with h|⟨cs',t',h3,h4⟩
 ·exact h.ne h1.cl rfl
 ·refine q0p h1 h3 (fun e=>?_) rfl
  apply h4
  rw[<-e]
  unfold fgT
  simp only[zH,List.not_mem_nil,or_false]at h2 ⊢
  exact Or.inr (Or.inr (Or.inr (Or.inr h2))))⟩
theorem KT.yld {w w':World}{F:List Nat}(hk:Kp F w w')(hF: ∀b∈F,Yw w b):KT w w':=⟨hk.size,fun b cs t h1 h2=>h1.kp hk (fun hm=>by
 refine (hF b hm).ne (s:=[t]) h1.cl (fun u hu=>?_) rfl
 rw[zD]at hu
 subst hu
 simp only[zH,List.not_mem_nil,or_false]at h2
 rcases h2 with rfl|rfl <;> decide)⟩
structure SC where
 x:XK
 gs:Nat
 gd:Nat
 B:Nat
 rs:List Value
 R:List (List RdC)
 J:Bool->List Cp->World->Prop
structure ScI (c:SC):Prop where
 hX:XkI c.x
 ro: ∀w,Kp c.x.k.F0 c.x.k.w0 w->CBox c.B c.rs.toArray 146 w/\(∀(i:Nat) (v:Value) (r:List RdC),c.rs[i]?=some v->c.R[i]?=some r->w.ownsRow 0 148 5 v r.length (r.flatMap RdC.l))/\ ∀r∈c.R, ∀y∈r,IRo w y.v (y.bs.map Int.ofNat)
 rl:c.R.length=c.x.k.l.length
 rv:c.rs.length=c.R.length
 ry: ∀(j:Nat) (r:List RdC),c.R[j]?=some r->RdY c.x.ss j (rdT c.x.ss j) r
 gf:c.gs∈c.x.k.F0
 df:c.gd∈c.x.k.F0
 nf: ∀b∈ntF c.x,b∈c.x.k.F0
 nl:c.x.nvs.length=c.x.k.l.length
 jk: ∀go xs w w' F,c.J go xs w->Kp F w w'->(∀b∈F,Ow w b)->c.J go xs w'
 jl: ∀go xs w,c.J go xs w->xs.length<=100000
 w1:1<=c.x.W
def DdG (c:SC)(en q:Nat)(s:Spt):Prop:= ∀r∈c.R, ∀y∈r,y.fr=s.fr->y.td=s.td->Mt.Dd c.x.k.P en q s.fr s.td y.bs s.f
structure StE (c:SC)(go:Bool)(T:List (List Nat))(en tl:Nat)(xs:List Cp)(pv lv:Value)(vs:List Value)(D:List (Option Nat))(w:World):Prop where
 bx:CBox c.gs (srC c.x.k c.x.gx c.B c.gd en tl) 111 w
 hk:HkS c.x.k w T (hkL c.x.k T) pv lv vs
 nt:NtS c.x w
 dd:DdS c.gd c.x.k.es.length c.x.k.w0.heap.size (DdG c en) D w
 cp: ∀x∈xs,CpAt w x
 dj: ∀x∈xs, ∀b∈x.B,b∉plB pv vs
 jj:c.J go xs w
def St (c:SC)(go:Bool)(T:List (List Nat))(en:Nat)(xs:List Cp)(w:World):Prop:= ∃pv lv vs D,StE c go T en xs.length xs pv lv vs D w
theorem qeG {w:World}{pv:Value}{vs:List Value}{T:List (List Nat)}(h:PlS w pv vs T){b:Nat}(hb:b∈plB pv vs):Cl w b [51,3]:=by
 rcases mem_plB.1 hb with hb|⟨u,hu,hb⟩
 ·obtain ⟨cs,h1⟩:=q08 h.row hb
  exact ⟨cs,_,h1,by simp⟩
 ·obtain ⟨i,hi⟩:=List.getElem?_of_mem hu
  have hlt:i<vs.length:=(zC.1 hi).1
  obtain ⟨p,hp⟩: ∃p,(Mt.toZ T)[i]?=some p:=⟨_,zE (by rw[<-h.ins.1];exact hlt)⟩
  obtain ⟨cs,h1⟩:=q08 (h.ins.2 i u p hi hp) hb
  exact ⟨cs,_,h1,by simp⟩
theorem q29 {w:World}{x:Cp}(h:CpAt w x){b:Nat}(hb:b∈x.B):Cl w b [51,3]:=by
 unfold Cp.B at hb
 rw[zH,List.mem_flatMap]at hb
 rcases hb with rfl|⟨u,hu,hb⟩
 ·exact h.row.cl.wide (by simp)
 ·obtain ⟨i,hi⟩:=List.getElem?_of_mem hu
  have hlt:i<x.vs.length:=(zC.1 hi).1
  obtain ⟨p,hp⟩: ∃p,(Mt.toZ x.T)[i]?=some p:=⟨_,zE (by rw[<-h.ins.1];exact hlt)⟩
  obtain ⟨cs,h1⟩:=q08 (h.ins.2 i u p hi hp) (by simpa using hb)
  exact ⟨cs,_,h1,by simp⟩
theorem q18 {k:HK}{w:World}{T:List (List Nat)}{L:List Ev}{pv lv:Value}{vs:List Value}(h:HkS k w T L pv lv vs){b:Nat}(hb:b∈hkF k pv lv vs):Cl w b [113,51,3,30]:=by
 unfold hkF at hb
 rw[zH,zG]at hb
 rcases hb with rfl|hb|hb
 ·exact h.box.cl.wide (by simp)
 ·exact (qeG h.pl hb).wide (by simp)
 ·obtain ⟨cs,h1⟩:=q08 h.la (by simpa using hb)
  exact ⟨cs,_,h1,by simp⟩
theorem q20 {c:SC}(hI:ScI c){w:World}(hk:Kp c.x.k.F0 c.x.k.w0 w)(h:NtS c.x w){b:Nat}(hb:b∈ntF c.x):Cl w b [151]:=by
 unfold ntF at hb
 rw[List.mem_flatMap]at hb
 obtain ⟨u,hu,hb⟩:=hb
 obtain ⟨t,ht⟩:=List.getElem?_of_mem hu
 have hlt:t<c.x.k.l.length:=by rw[<-hI.nl];exact (zC.1 ht).1
 obtain ⟨gn,cn,v,_,hv,_,h1,h2⟩:=hI.hX.nz w hk t hlt
 rw[ht]at hv
 cases hv
 rcases Nat.lt_or_ge 1 (asT c.x.ss t).length with h3|h3
 ·rw[h1 h3]at hb
  simp[Value.ownBlock]at hb
 ·obtain ⟨b2,e,_⟩:=h2 h3
  rw[e]at ht hb
  obtain ⟨row,h4,_⟩:=h t b2 ht
  simp[Value.ownBlock]at hb
  subst hb
  exact h4.cl
theorem q5E {gd n lo:Nat}{G:Nat->Spt->Prop}{D:List (Option Nat)}{w:World}(h:DdS gd n lo G D w){b:Nat}(hb:b∈ddF gd D):Mp w b\/Cl w b [114]:=by
 rcases q2p hb with rfl|⟨q,hq⟩
 ·exact Or.inr h.row.cl
 ·obtain ⟨_,S,h2,_⟩:=h.mp q b hq
  exact Or.inl h2.mp
theorem q1V {gd n lo:Nat}{G:Nat->Spt->Prop}{D:List (Option Nat)}{w:World}(h:DdS gd n lo G D w){b a:Nat}(hb:b∈ddF gd D){s:List TypeId}(ha:Cl w a s)(hs:114∉s):b≠a:=by
 rcases q5E h hb with h1|h1
 ·exact h1.ne ha
 ·exact h1.ne ha (fun t ht=>by rw[zD]at ht;rw[ht];exact hs)
theorem qe5 {gd n lo:Nat}{G:Nat->Spt->Prop}{D:List (Option Nat)}{w:World}(h:DdS gd n lo G D w){b:Nat}(hb:b∈ddF gd D):Ow w b:=by
 rcases q5E h hb with h1|h1
 ·exact Or.inl h1
 ·exact h1.ow (by decide)
section
variable {c:SC} {go:Bool} {T T':List (List Nat)} {en tl:Nat} {xs:List Cp} {pv lv pv' lv':Value} {vs vs':List Value} {D:List (Option Nat)} {w w':World}
theorem StE.take (h:StE c go T en tl xs pv lv vs D w)(hI:ScI c)(hn:HkN c.x.k w (hkF c.x.k pv lv vs) T' (hkL c.x.k T') pv' lv' vs' w'):StE c go T' en tl xs pv' lv' vs' D w'/\KT w w':=by
 have how: ∀b∈hkF c.x.k pv lv vs,Ow w b:=fun b hb=>(q18 h.hk hb).ow (by decide)
 have hcp: ∀x∈xs, ∀b∈x.B,b∉hkF c.x.k pv lv vs:=fun x hx b hb hm=>by
  have h1:=q29 (h.cp x hx) hb
  unfold hkF at hm
  rw[zH,zG]at hm
  rcases hm with rfl|hm|hm
  ·exact h1.ne h.hk.box.cl (by decide) rfl
  ·exact h.dj x hx b hb hm
  ·obtain ⟨cs,h2⟩:=q08 h.hk.la (by simpa using hm)
   exact h1.ne h2.cl (by decide) rfl
 refine ⟨⟨h.bx.kp hn.kp (fun hm=>(q18 h.hk hm).ne h.bx.cl (by decide) rfl),hn.s,h.nt.kp hn.kp (fun b hb hm=>(q18 h.hk hm).ne (q20 hI h.hk.kp h.nt hb) (by decide) rfl),h.dd.kp hn.kp (fun b hb hm=>q1V h.dd hb (q18 h.hk hm) (by decide) rfl),fun x hx=>(h.cp x hx).kp hn.kp (hcp x hx),fun x hx b hb hm=>?_,hI.jk _ _ _ _ _ h.jj hn.kp how⟩,KT.own hn.kp how⟩
 have h2:b∈hkF c.x.k pv' lv' vs':=by unfold hkF;rw[zH,zG];exact Or.inr (Or.inl hm)
 rcases hn.nw b h2 with h3|h3
 ·exact hcp x hx b hb h3
 ·have:=(h.cp x hx).lt b hb
  omega
theorem StE.al (h:StE c go T en tl xs pv lv vs D w)(hI:ScI c)(hk:Kp [] w w'):StE c go T en tl xs pv lv vs D w':=
 ⟨h.bx.kp hk (by simp),h.hk.al hk,h.nt.kp hk (by simp),h.dd.kp hk (by simp),fun x hx=>(h.cp x hx).kp hk (by simp),h.dj,hI.jk _ _ _ _ _ h.jj hk (by simp)⟩
theorem StE.note (h:StE c go T en tl xs pv lv vs D w)(hI:ScI c)(hn:NtS c.x w')(hk:Kp (ntF c.x) w w'):StE c go T en tl xs pv lv vs D w'/\KT w w':=by
 have hcl: ∀b∈ntF c.x,Cl w b [151]:=fun b hb=>q20 hI h.hk.kp h.nt hb
 have how: ∀b∈ntF c.x,Ow w b:=fun b hb=>(hcl b hb).ow (by decide)
 exact ⟨⟨h.bx.kp hk (fun hm=>(hcl _ hm).ne h.bx.cl (by decide) rfl),h.hk.go hk (fun b hb hm=>(q18 h.hk hb).ne (hcl b hm) (by decide) rfl) (fun b hb=>Or.inl (hI.nf b hb)),hn,h.dd.kp hk (fun b hb hm=>q1V h.dd hb (hcl b hm) (by decide) rfl),fun x hx=>(h.cp x hx).kp hk (fun b hb hm=>(q29 (h.cp x hx) hb).ne (hcl b hm) (by decide) rfl),h.dj,hI.jk _ _ _ _ _ h.jj hk how⟩,KT.own hk how⟩
theorem StE.bury {D':List (Option Nat)}(h:StE c go T en tl xs pv lv vs D w)(hI:ScI c)(hd:DdS c.gd c.x.k.es.length c.x.k.w0.heap.size (DdG c en) D' w')(hk:Kp (ddF c.gd D) w w'):StE c go T en tl xs pv lv vs D' w'/\KT w w':=by
 have how: ∀b∈ddF c.gd D,Ow w b:=fun b hb=>qe5 h.dd hb
 have hlo: ∀b∈ddF c.gd D,b∈c.x.k.F0\/c.x.k.w0.heap.size<=b:=fun b hb=>by
  rcases q2p hb with rfl|⟨q,hq⟩
  ·exact Or.inl hI.df
  ·exact Or.inr (h.dd.mp q b hq).1
 exact ⟨⟨h.bx.kp hk (fun hm=>q1V h.dd hm h.bx.cl (by decide) rfl),h.hk.go hk (fun b hb hm=>q1V h.dd hm (q18 h.hk hb) (by decide) rfl) hlo,h.nt.kp hk (fun b hb hm=>q1V h.dd hm (q20 hI h.hk.kp h.nt hb) (by decide) rfl),hd,fun x hx=>(h.cp x hx).kp hk (fun b hb hm=>q1V h.dd hm (q29 (h.cp x hx) hb) (by decide) rfl),h.dj,hI.jk _ _ _ _ _ h.jj hk how⟩,KT.own hk how⟩
theorem StE.gsb (h:StE c go T en tl xs pv lv vs D w)(hI:ScI c)(i:Nat)(v:Value):HkS c.x.k (w.setCell ⟨c.gs,i,none⟩ v) T (hkL c.x.k T) pv lv vs/\NtS c.x (w.setCell ⟨c.gs,i,none⟩ v)/\DdS c.gd c.x.k.es.length c.x.k.w0.heap.size (DdG c en) D (w.setCell ⟨c.gs,i,none⟩ v)/\(∀x∈xs,CpAt (w.setCell ⟨c.gs,i,none⟩ v) x)/\c.J go xs (w.setCell ⟨c.gs,i,none⟩ v)/\KT w (w.setCell ⟨c.gs,i,none⟩ v):=by
 have hk:=Kp.set w c.gs i v
 have how: ∀b∈[c.gs],Ow w b:=fun b hb=>by rw[zD]at hb;rw[hb];exact h.bx.cl.ow (by decide)
 have hin: ∀b,b∈[c.gs]->Cl w b [111]:=fun b hb=>by rw[zD]at hb;rw[hb];exact h.bx.cl
 exact ⟨h.hk.go hk (fun b hb hm=>(q18 h.hk hb).ne (hin b hm) (by decide) rfl) (fun b hb=>Or.inl (by rw[zD]at hb;rw[hb];exact hI.gf)),h.nt.kp hk (fun b hb hm=>(q20 hI h.hk.kp h.nt hb).ne (hin b hm) (by decide) rfl),h.dd.kp hk (fun b hb hm=>q1V h.dd hb (hin b hm) (by decide) rfl),fun x hx=>(h.cp x hx).kp hk (fun b hb hm=>(q29 (h.cp x hx) hb).ne (hin b hm) (by decide) rfl),hI.jk _ _ _ _ _ h.jj hk how,KT.own hk how⟩
theorem StE.tick (h:StE c go T en tl xs pv lv vs D w)(hI:ScI c):StE c go T en (tl+1) xs pv lv vs D (w.setCell ⟨c.gs,5,none⟩ (.int .i64 ((tl:Int)+1)))/\KT w (w.setCell ⟨c.gs,5,none⟩ (.int .i64 ((tl:Int)+1))):=by
 obtain ⟨h1,h2,h3,h4,h5,h6⟩:=h.gsb hI 5 (.int .i64 ((tl:Int)+1))
 exact ⟨⟨h.bx.set 5 _,h1,h2,h3,h4,h.dj,h5⟩,h6⟩
theorem StE.yld {go':Bool}{x:Cp}{F:List Nat}(h:StE c go T en tl xs pv lv vs D w)(hI:ScI c)(hx:CpAt w x)(hd: ∀b∈x.B,b∉plB pv vs)(hk:Kp F w w')(hF: ∀b∈F,Yw w b/\(b∈c.x.k.F0\/c.x.k.w0.heap.size<=b))(hJ:c.J go' (xs++[x]) w'):StE c go' T en tl (xs++[x]) pv lv vs D w'/\KT w w':=by
 refine ⟨⟨h.bx.kp hk (fun hm=>(hF _ hm).1.ne h.bx.cl (by decide) rfl),h.hk.go hk (fun b hb hm=>(hF _ hm).1.ne (q18 h.hk hb) (by decide) rfl) (fun b hb=>(hF b hb).2),h.nt.kp hk (fun b hb hm=>(hF _ hm).1.ne (q20 hI h.hk.kp h.nt hb) (by decide) rfl),h.dd.kp hk (fun b hb hm=>?_),fun y hy=>?_,fun y hy=>?_,hJ⟩,KT.yld hk (fun b hb=>(hF b hb).1)⟩
 ·rcases q5E h.dd hb with h1|h1
  ·exact (hF b hm).1.neM h1 rfl
  ·exact (hF b hm).1.ne h1 (by decide) rfl
 ·rw[zG,zD]at hy
  rcases hy with hy|rfl
  ·exact (h.cp y hy).kp hk (fun b hb hm=>(hF b hm).1.ne (q29 (h.cp y hy) hb) (by decide) rfl)
  ·exact hx.kp hk (fun b hb hm=>(hF b hm).1.ne (q29 hx hb) (by decide) rfl)
 ·rw[zG,zD]at hy
  rcases hy with hy|rfl
  ·exact h.dj y hy
  ·exact hd
end
def Ylds (c:SC)(l:Nat):Prop:= ∀(m:Nat) (xs:List Cp) (w:World) (x:Cp),c.J true xs w->CpAt w x->x.T.length<=8->(∀l∈x.T,l≠[]/\l.length<=4096)->YieldAt Fence.wide m Tryz.prog l #[x.v] w fun e w'=> ∃F go,e= .returned (.bool go)/\Kp F w w'/\(∀b∈F,Yw w b/\(b∈c.x.k.F0\/c.x.k.w0.heap.size<=b))/\c.J go (xs++[x]) w'
def PrT (go:Bool)(ys:List Cp)(A:List (List (List Nat))):Prop:=(go=true/\ys.map (·.T)=A)\/(go=false/\ ∃z,A=ys.map (·.T)++z)
def EndS (c:SC)(T:List (List Nat))(en:Nat)(xs:List Cp)(w:World)(A:List (List (List Nat)))(e:Ending)(w':World):Prop:= ∃go ys,e= .returned (.bool go)/\St c go T en (xs++ys) w'/\KT w w'/\PrT go ys A
theorem PrT.nil:PrT true [] []:=Or.inl ⟨rfl,rfl⟩
theorem PrT.app {go:Bool}{ys zs:List Cp}{A B:List (List (List Nat))}(h:PrT true ys A)(k:PrT go zs B):PrT go (ys++zs) (A++B):=by
 rcases h with ⟨_,h⟩|⟨h,_⟩
 ·rcases k with ⟨e,k⟩|⟨e,z,k⟩
  ·exact Or.inl ⟨e,by rw[List.map_append,h,k]⟩
  ·exact Or.inr ⟨e,z,by rw[List.map_append,h,k,List.append_assoc]⟩
 ·cases h
theorem PrT.stop {ys:List Cp}{A:List (List (List Nat))}(h:PrT false ys A)(B:List (List (List Nat))):PrT false ys (A++B):=by
 rcases h with ⟨h,_⟩|⟨_,z,h⟩
 ·cases h
 ·exact Or.inr ⟨rfl,z++B,by rw[h,List.append_assoc]⟩
section
variable {P:Program} {n:Nat}
theorem q7p {l m:Nat}{r:Loop}{W:World}{args:Array Value}{R:Ending->World->Prop}{Q:Exit->Act->World->Prop}(hl:W.heap[l]?=some (.loop r))(hst:r.state= .ready)(hs:args.size=r.params.size)(a₁:Act)
  (hassign: ∀K:Act->World->Prop,K a₁ W->r.assign.wpIn (Fence.wide.inRound l) m P (Exit.then K (fun _ _ _=>False)) { tmps:=(r.params.zip args).foldl (fun t (p,v)=>t.setIfInBounds p v) r.tmps,defers:=[] } W)
  (hbody:r.body.wpIn (Fence.wide.inRound l) m P Q a₁ (W.putObj l (.loop { r with state:= .busy })))
  (hQ: ∀e a W',Q e a W'->W'.heap[l]?=some (.loop { r with state:= .busy })/\((e= .normal/\R (.returned (.bool true)) (W'.putObj l (.loop { r with state:= .ready,pending:=none })))\/(e= .ret/\R (.returned (.bool false)) (W'.putObj l (.loop { r with state:= .done,pending:=some .ret }))))):
  YieldAt Fence.wide m P l args W R:=by
 refine ⟨r.fn,_,r.assign,r.body,run_yield hl hs,roundIn_of_wpIn trivial (hassign _ ?_)⟩
 refine ⟨_,run_beginRound hl hst,?_⟩
 refine wpIn_mono hbody ?_
 intro e a W' hq
 obtain ⟨hl2,h|h⟩:=hQ e a W' hq
 ·obtain ⟨rfl,hR⟩:=h
  exact ⟨_,_,run_endRound (P:=P) none hl2,hR⟩
 ·obtain ⟨rfl,hR⟩:=h
  exact ⟨_,_,run_endRound (P:=P) (some .ret) hl2,hR⟩
theorem qbL {g:Operand}{ps:Array Tmp}{assign body:Code}{Q:Exit->Act->World->Prop}{a:Act}{w:World}{gf:Nat}{lb:Array Value}(hg:a.eval g= .func (.func gf) #[] lb)(eg: ∀args w,(callFunc gf args).run P w= .ok (.enter gf args) w)
  (hcall: ∀(fn:FuncId) (r:Loop),r=({ state:=LoopState.ready,pending:=none,fn:=fn,tmps:=a.tmps,params:=ps,assign:=assign,body:=body,defers:=w.heap.size }:Loop)->
   CallsIn Fence.wide (n-1) P gf (#[.func (.yield (w.heap.size+1)) #[] #[]]++lb) ((w.alloc (.deferred (some []))).alloc (.loop r)) fun e W'=>(∃v,e= .returned v)/\
    ((W'.heap[w.heap.size+1]?=some (.loop r)/\Q .normal { a with defers:={ target:= .collected w.heap.size,args:=#[] }::a.defers } (W'.putObj (w.heap.size+1) (.loop { r with state:= .exhausted })))\/
     (W'.heap[w.heap.size+1]?=some (.loop { r with state:= .done,pending:=some .ret })/\Code.ret.wpIn Fence.wide n P Q { a with defers:={ target:= .collected w.heap.size,args:=#[] }::a.defers } (W'.putObj (w.heap.size+1) (.loop { r with state:= .exhausted,pending:=some .ret }))))):
  (Code.rangeFunc g ps assign body).wpIn Fence.wide n P Q a w:=by
 refine wpIn_rangeFunc ?_
 intro fn _
 obtain ⟨r,hr⟩: ∃r:Loop,r=({ state:=LoopState.ready,pending:=none,fn:=fn,tmps:=a.tmps,params:=ps,assign:=assign,body:=body,defers:=w.heap.size }:Loop):=⟨_,rfl⟩
 have he:=run_enterLoop_outer (P:=P) (w:=w) fn a.tmps ps assign body
 rw[<-hr]at he
 have hc:=hcall fn r hr
 have hrs:r.state= .ready:=by rw[hr]
 have hrp:r.pending=none:=by rw[hr]
 clear hcall hr
 generalize (w.alloc (.deferred (some []))).alloc (.loop r)=W1 at *
 refine ⟨w.heap.size+1,[{ target:= .collected w.heap.size,args:=#[] }],W1,{ target:= .fn (.func gf) lb,args:=#[.func (.yield (w.heap.size+1)) #[] #[]] },W1,gf,#[.func (.yield (w.heap.size+1)) #[] #[]]++lb,W1,?_,?_,?_,?_,?_,?_⟩
 ·exact he
 ·simp only[resolve,hg]
  simp[go_sem]
 ·intro f' _
  trivial
 ·simp[invoke,go_sem,eg]
 ·intro h
  simp[Fence.wide]at h
 ·refine hc.mono ?_
  rintro e W' ⟨⟨v,rfl⟩,⟨hl,hq⟩|⟨hl,hq⟩⟩
  ·have h1:=run_endLoop (P:=P) hl (by rw[hrs];simp)
   rw[hrp]at h1 hq
   exact ⟨none,_,h1,hq⟩
  ·have h1:=run_endLoop (P:=P) hl (by simp)
   exact ⟨some .ret,_,h1,hq⟩
end
end Go.Proofs.YtfgkikeeadlcfaaGreatDoor
