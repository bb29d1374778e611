/-
  Walks and plain facts, made small.
-/
import Derived.Test.YtcmjnlpofebbmaaGreatDoorMa28
set_option maxRecDepth 100000
set_option maxHeartbeats 8000000
set_option linter.unusedSimpArgs false
namespace Go.Proofs.YtcmjnlpofebbmaaGreatDoor
open Go.RowKit Go.Shelf
structure RdG (ss:List Stg)(x:RdC):Prop where
 oh:x.oh=stay (hwAt ss x.td) true
 oe:x.oe=stay (hwAt ss x.td) false
 lt: ∀i∈x.bs,i<x.fr
 al: ∀i,i<x.fr-> ∀t,x.td<=t->t<ss.length->i∈asT ss t->i∈x.bs
 ln:x.bs.length<=2000
def rdA (ss:List Stg)(i:Nat):List Nat:=if mnAt ss i=true then [i] else []
def rdT (ss:List Stg)(i:Nat):List Nat:=rdA ss i++(if i+1<ss.length then [i+1] else [])
theorem qd3 (ss:List Stg)(i:Nat):(rdA ss i).length<=2:=by unfold rdA;split <;> simp
def RdY (ss:List Stg)(i:Nat)(ts:List Nat)(r:List RdC):Prop:=r.map (·.td)=ts/\ ∀x∈r,x.fr=i/\RdG ss x
theorem RdY.snoc {ss:List Stg}{i:Nat}{ts:List Nat}{r:List RdC}(h:RdY ss i ts r){x:RdC}(hx:x.fr=i/\RdG ss x):RdY ss i (ts++[x.td]) (r++[x]):=by
 refine ⟨by rw[List.map_append,h.1];rfl,fun y hy=>?_⟩
 rw[List.mem_append,List.mem_singleton]at hy
 exact hy.elim (h.2 y) (fun e=>by rw[e];exact hx)
structure RoA (w:World)(B:Nat)(ss:List Stg)(n i:Nat)(ts:List Nat)(rs:List Value)(R:List (List RdC))(wr:World):Prop where
 ro:RoS w B rs R wr
 ln:R.length=n
 dn: ∀j r,j<i->R[j]?=some r->RdY ss j (rdT ss j) r
 nw: ∀r,R[i]?=some r->RdY ss i ts r
 cm: ∀j r,i<j->R[j]?=some r->r=[]
theorem RoA.go {w wr w':World}{B:Nat}{ss:List Stg}{n i:Nat}{ts:List Nat}{rs:List Value}{R:List (List RdC)}(h:RoA w B ss n i ts rs R wr)(hk:Kp [] wr w'):RoA w B ss n i ts rs R w':=⟨h.ro.go hk,h.ln,h.dn,h.nw,h.cm⟩
theorem RoA.next {w wr:World}{B:Nat}{ss:List Stg}{n i:Nat}{rs:List Value}{R:List (List RdC)}(h:RoA w B ss n i (rdT ss i) rs R wr):RoA w B ss n (i+1) [] rs R wr:=by
 refine ⟨h.ro,h.ln,fun j r hj hr=>?_,fun r hr=>?_,fun j r hj hr=>h.cm j r (by omega) hr⟩
 ·rcases Nat.lt_or_ge j i with h1|h1
  ·exact h.dn j r h1 hr
  ·have:j=i:=by omega
   subst this
   exact h.nw r hr
 ·rw[h.cm (i+1) r (by omega) hr]
  exact ⟨rfl,by simp⟩
theorem RoA.push {w V w5:World}{B:Nat}{l:List SR}{n i td:Nat}{ts:List Nat}{rs:List Value}{R:List (List RdC)}{nc:Array Value}{nb:Nat}(h:RoA w B (stgs l) n i ts rs R V)(hi:i<n){v:Value}(hv:rs[i]?=some v)(hts:ts.length<=2)(hnb:CBox nb nc 136 V)
  {pc:Array Value} {pb:Nat} (hpb: ∀W,Kp [] w W->CBox pb pc 24 W) {xa:Option Addr} {xc:Nat} {bs:List Nat} (hA:AbS V i (.slice xa bs.length xc) bs (fun j=> ∃t,td<=t/\t<l.length/\j∈asT (stgs l) t) 2000 w5):
  ∃g' cap' w6,(Builtin.append_ #[139,139] 139 #[v, .slice (some ⟨w5.heap.size,0,none⟩) 1 1]).run Tryz.prog (w5.alloc (.cells #[.int .i64 (i:Int), .int .i64 (td:Int), .bool (stay (hwAt (stgs l) td) true), .bool (stay (hwAt (stgs l) td) false), .slice xa bs.length xc] 141))= .ok (.slice (some ⟨g',0,none⟩) (ts.length+1) cap') w6/\CBox B rs.toArray 139 w6/\
   RoA w B (stgs l) n i (ts++[td]) (rs.set i (.slice (some ⟨g',0,none⟩) (ts.length+1) cap')) (R.set i ((R.getD i [])++[⟨i,td,stay (hwAt (stgs l) td) true,stay (hwAt (stgs l) td) false,xa,xc,bs⟩])) (w6.setCell ⟨B,i,none⟩ (.slice (some ⟨g',0,none⟩) (ts.length+1) cap'))/\
   CBox nb nc 136 (w6.setCell ⟨B,i,none⟩ (.slice (some ⟨g',0,none⟩) (ts.length+1) cap'))/\(w5.cell? ⟨B,i,none⟩=some v/\CBox pb pc 24 w5)/\((w5.alloc (.cells #[.int .i64 (i:Int), .int .i64 (td:Int), .bool (stay (hwAt (stgs l) td) true), .bool (stay (hwAt (stgs l) td) false), .slice xa bs.length xc] 141)).cell? ⟨B,i,none⟩=some v/\CBox pb pc 24 (w5.alloc (.cells #[.int .i64 (i:Int), .int .i64 (td:Int), .bool (stay (hwAt (stgs l) td) true), .bool (stay (hwAt (stgs l) td) false), .slice xa bs.length xc] 141)))/\(w6.cell? ⟨B,i,none⟩=some v/\CBox pb pc 24 w6):=by
 have hiR:i<R.length:=by rw[h.ln];exact hi
 have hRi:R[i]?=some R[i]:=List.getElem?_eq_getElem hiR
 have hgd:R.getD i []=R[i]:=by rw[List.getD_eq_getElem?_getD,hRi];rfl
 have hnw:=h.nw _ hRi
 have hrl:R[i].length=ts.length:=by rw[<-hnw.1,List.length_map]
 have k5:=hA.kp
 have ka:=Kp.alloc w5 (.cells #[.int .i64 (i:Int), .int .i64 (td:Int), .bool (stay (hwAt (stgs l) td) true), .bool (stay (hwAt (stgs l) td) false), .slice xa bs.length xc] 141)
 have h5:=(h.ro.go k5)
 have h6:=h5.go ka
 have hBV:=h.ro.row
 have hlt:B<V.heap.size:=(Array.getElem?_eq_some_iff.1 hBV).1
 obtain ⟨x,hx⟩: ∃x:RdC,x=⟨i,td,stay (hwAt (stgs l) td) true,stay (hwAt (stgs l) td) false,xa,xc,bs⟩:=⟨_,rfl⟩
 obtain ⟨g',cap',w6,hrun,hb6,hkv,hR6⟩:=h6.push hv hRi x (by rw[hx];exact hA.row.kp ka (by simp)) (by
  rw[hx]
  intro b hb
  have:=hA.nw b hb
  omega) (g:=w5.heap.size) (c:=1) (by rw[hx];exact CBox.new w5 _ _) (by rw[hrl];omega) 139
 rw[hrl]at hrun hR6
 have hG:x.fr=i/\RdG (stgs l) x:=by
  rw[hx]
  refine ⟨rfl,rfl,rfl,hA.lt,fun j hj t h1 h2 h3=>hA.al j ⟨t,h1,by rw[q03]at h2;exact h2,h3⟩ hj,hA.ln⟩
 have hown:=h6.ins i v _ hv hRi
 have nb6:=((hnb.kp k5 (by simp)).kp ka (by simp)).kp hkv (fun hm=>q0d hown ((hnb.kp k5 (by simp)).kp ka (by simp)) (by decide) (by simpa using hm))
 have hvc:rs.toArray[i]?=some v:=by simpa using hv
 have p5:=hpb w5 h5.kp
 have p6:CBox pb pc 24 w6:=(p5.kp ka (by simp)).kp hkv (fun hm=>q0d hown (p5.kp ka (by simp)) (by decide) (by simpa using hm))
 refine ⟨g',cap',w6,hrun,hb6,⟨by rw[hgd, <-hx];exact hR6,by rw[List.length_set];exact h.ln,fun j r hj hr=>?_,fun r hr=>?_,fun j r hj hr=>?_⟩,nb6.kp (Kp.set _ _ _ _) (fun hm=>?_),⟨h5.row.cell hvc,p5⟩,⟨h6.row.cell hvc,p5.kp ka (by simp)⟩,⟨hb6.cell hvc,p6⟩⟩
 ·rw[List.getElem?_set,if_neg (by omega)]at hr
  exact h.dn j r hj hr
 ·rw[List.getElem?_set,if_pos rfl,if_pos hiR]at hr
  cases hr
  rw[hgd, <-hx]
  have:=hnw.snoc hG
  rw[show x.td=td by rw[hx]]at this
  exact this
 ·rw[List.getElem?_set,if_neg (by omega)]at hr
  exact h.cm j r hj hr
 ·rw[List.mem_singleton]at hm
  exact q0p nb6 hb6 (by decide) hm
theorem q73 (sa:Option Addr)(sc:Nat)(l:List SR)(wi:Int)(w:World)(h:StsAt w sa l)(hp:(pcR ⟨stgs l,wi⟩).2=0)(hT:TbE w)(hok: ∀r∈l,r.s.ok)(hsc:l.length<=sc):
  Calls Tryz.prog 41 #[.agg #[.slice sa l.length sc, .int .i64 wi]] w fun e w'=>e= .returned (.slice (some ⟨w.heap.size+1,0,none⟩) l.length l.length)/\ ∃rs R,RoS w (w.heap.size+1) rs R w'/\R.length=l.length/\ ∀j r,R[j]?=some r->RdY (stgs l) j (rdT (stgs l) j) r:=by
 have h8:l.length<=8:=by have:=(q1s hp).2.1;rw[show (⟨stgs l,wi⟩:Ptn).ss.length=l.length from q03 l]at this;exact this
 have k1:=Kp.alloc w (.cells #[.slice sa l.length sc, .int .i64 wi] 24)
 have p1:=CBox.new w #[.slice sa l.length sc, .int .i64 wi] 24
 obtain ⟨Wp,hWp⟩: ∃Wp,Wp=w.alloc (.cells #[.slice sa l.length sc, .int .i64 wi] 24):=⟨_,rfl⟩
 have hszp:Wp.heap.size=w.heap.size+1:=by rw[hWp];simp
 rw[<-hWp]at k1 p1
 have HPB:Hid (∀W,Kp [] Wp W->CBox w.heap.size #[.slice sa l.length sc, .int .i64 wi] 24 W):=hZq (fun W hk=>p1.kp hk (by simp))
 have HKW:Hid (∀W,Kp [] Wp W->Kp [] w W):=hZq (fun W hk=>k1.trans hk (by simp))
 have BG:=hZq (fun (i:Nat) W (hk:Kp [] w W)=>q8o sa sc l wi ((i:Int)+1) W (h.kp hk) (hT.kp hk (by simp)) hok (by omega))
 have HBG:Hid (∀i,i<l.length->nbN ⟨stgs l,wi⟩ ((i:Int)+1)=⟨(i:Int)+1,mnAt (stgs l) i,decide (i+1<l.length)⟩):=hZq (fun i hi=>by
  have e1:((i:Int)+1).toNat=i+1:=by omega
  have e0:nbE ⟨stgs l,wi⟩ ((i:Int)+1)=0:=by
   unfold nbE
   rw[if_pos hp,if_pos]
   unfold isS
   dsimp only
   rw[q03]
   simp
   omega
  unfold nbN
  rw[if_pos e0]
  unfold bgN
  dsimp only
  rw[e1,Nat.add_sub_cancel,q03]
  congr 1)
 have RD0:=hZq (fun (fr td:Nat) (hft:(td=fr/\mnAt (stgs l) fr=true/\fr<l.length)\/(td=fr+1/\td<l.length)) W (hk:Kp [] w W)=>q8x sa sc l wi fr td W (h.kp hk) hp (hT.kp hk (by simp)) hok hsc hft)
 have MK:=qb6 l.length (by omega)
 have H0:Hid (RoA Wp Wp.heap.size (stgs l) l.length 0 [] (List.replicate l.length (Value.slice none 0 0)) (List.replicate l.length []) (Wp.alloc (.cells (List.replicate l.length (Value.slice none 0 0)).toArray 139))):=hZq ⟨RoS.new Wp l.length,by simp,fun j r hj=>by omega,fun r hr=>by
  rw[List.eq_of_mem_replicate (List.mem_of_getElem? hr)]
  exact ⟨rfl,by simp⟩,fun j r _ hr=>List.eq_of_mem_replicate (List.mem_of_getElem? hr)⟩
 have c0:=p1.cell (i:=0) (v:= .slice sa l.length sc) rfl
 have c1:=((p1.kp (Kp.alloc Wp (.cells (List.replicate l.length (Value.slice none 0 0)).toArray 139)) (by simp))).cell (i:=0) (v:= .slice sa l.length sc) rfl
 have hwl:w.heap.size<Wp.heap.size:=by omega
 have HSZ:=hZq hszp
 have HPU0:=hZq (fun (V w5:World) (i td:Nat) (ts:List Nat) rs R (nc:Array Value) (nb:Nat) (h1:RoA Wp Wp.heap.size (stgs l) l.length i ts rs R V) (h2:i<l.length) v h3 h4 (h5:CBox nb nc 136 V) xa xc bs hA=>h1.push h2 (v:=v) (td:=td) h3 h4 h5 (fun W hk=>uQ HPB W hk) (w5:=w5) (xa:=xa) (xc:=xc) (bs:=bs) hA)
 clear h hT hok hp k1 p1 hszp
 obtain ⟨n,hn⟩: ∃n,l.length=n:=⟨_,rfl⟩
 rw[hn]at h8 hsc HPB HBG RD0 MK H0 c0 c1 hWp HPU0 BG ⊢
 have HSL:(stgs l).length=n:=by rw[q03,hn]
 clear hn
 generalize stgs l=SS at *
 go_enter Tryz.func41,Tryz.ntmps41
 go_upto_region 1 with fail
 rw[<-hWp]
 clear hWp
 go_wp2_with fail
 go_loopw [14] (fun iv wr=> ∃(i:Nat) (rs:List Value) (R:List (List RdC)),i<=n/\iv= .int .i64 (i:Int)/\Hid (RoA Wp Wp.heap.size SS n i [] rs R wr)) (fun iv _=>n-(intOf iv).toNat)
 case atStart=>exact ⟨0,_,_,Nat.zero_le _,rfl,H0⟩
 case round=>
  obtain ⟨i,rs,R,hi,rfl,HC⟩:=hrel
  clear H0 MK c0 c1
  by_cases hlt:i<n
  ·have hli:(i:Int)<(n:Int):=by omega
   have hiw:IntKind.i64.wrap ((i:Int)+1)=(i:Int)+1:=by simp only[IntKind.wrap_i64];omega
   have pw:=uQ HPB wr (uQ HC).ro.kp
   have p0:=pw.cell (i:=0) (v:= .slice sa n sc) rfl
   have p1:=pw.cell (i:=1) (v:= .int .i64 wi) rfl
   have B1:=hZq (uQ BG i wr (uQ HKW wr (uQ HC).ro.kp))
   rw[uQ HBG i hlt]at B1
   unfold Nd.c at B1
   dsimp only at B1
   generalize nbE ⟨SS,wi⟩ ((i:Int)+1)=BE at *
   clear pw
   go_wp2_with fail
   refine (uQ B1).mono ?_
   rintro e w2 ⟨rfl,hk2⟩
   have kn:=hk2.trans (Kp.alloc w2 (.cells #[.int .i64 ((i:Int)+1), .bool (mnAt SS i), .bool (decide (i+1<n))] 136)) (by simp)
   have nb0:=CBox.new w2 #[.int .i64 ((i:Int)+1), .bool (mnAt SS i), .bool (decide (i+1<n))] 136
   have m1:=nb0.cell (i:=1) (v:= .bool (mnAt SS i)) rfl
   have HRO:Hid (RoA Wp Wp.heap.size SS n i [] rs R (w2.alloc (.cells #[.int .i64 ((i:Int)+1), .bool (mnAt SS i), .bool (decide (i+1<n))] 136))/\CBox w2.heap.size #[.int .i64 ((i:Int)+1), .bool (mnAt SS i), .bool (decide (i+1<n))] 136 (w2.alloc (.cells #[.int .i64 ((i:Int)+1), .bool (mnAt SS i), .bool (decide (i+1<n))] 136))):=hZq ⟨(uQ HC).go kn,nb0⟩
   clear B1 hk2 kn nb0 HC p0 p1
   go_upto_if 25 with fail
   go_cut [] (fun wc=> ∃(rs:List Value) (R:List (List RdC)),Hid (RoA Wp Wp.heap.size SS n i (rdA SS i) rs R wc/\CBox w2.heap.size #[.int .i64 ((i:Int)+1), .bool (mnAt SS i), .bool (decide (i+1<n))] 136 wc))
   case first=>
    cases hmn:mnAt SS i with
    |true=>
     have HFT:(i=i/\mnAt SS i=true/\i<n)\/(i=i+1/\i<n):=Or.inl ⟨rfl,hmn,hlt⟩
     have hra:rdA SS i=[]++[i]:=by unfold rdA;rw[if_pos hmn];rfl
     obtain ⟨Wn,hWn⟩: ∃Wn,Wn=w2.alloc (.cells #[.int .i64 ((i:Int)+1), .bool true, .bool (decide (i+1<n))] 136):=⟨_,rfl⟩
     rw[hmn]at HRO m1
     rw[<-hWn]at HRO m1
     rw[<-hWn]
     clear hWn
     obtain ⟨V,hV⟩: ∃V,V=Wn.drew:=⟨_,rfl⟩
     have kV:Kp [] Wn V:=by rw[hV];exact Kp.drew _
     have hRV:=(uQ HRO).1.go kV
     have nbV:=(uQ HRO).2.kp kV (by simp)
     have hiR:i<R.length:=by rw[hRV.ln];exact hlt
     have hirs:i<rs.length:=by rw[hRV.ro.len];exact hiR
     have hts:=(hRV.nw _ (List.getElem?_eq_getElem hiR)).1
     have hrl:R[i].length=([]:List Nat).length:=by rw[<-hts,List.length_map]
     have hrow:=hRV.ro.ins i _ _ (List.getElem?_eq_getElem hirs) (List.getElem?_eq_getElem hiR)
     rw[hrl]at hrow
     obtain ⟨vn,hvn⟩: ∃vn,vn=([]:List Nat).length:=⟨_,rfl⟩
     obtain ⟨va,vc,hvi⟩: ∃a c,rs[i]= .slice a vn c:=by
      obtain ⟨_,⟨e,e2⟩|⟨g,c,cur,e,_⟩⟩:=hrow
      ·exact ⟨none,0,by rw[e,hvn,e2]⟩
      ·exact ⟨_,c,by rw[e,hvn]⟩
     have hv:rs[i]?=some (.slice va vn vc):=by rw[List.getElem?_eq_getElem hirs,hvi]
     have kwV:=uQ HKW V hRV.ro.kp
     have RD:=hZq (uQ RD0 i i HFT V kwV)
     have HPU:=hZq (fun (w5:World) xa xc bs hA=>uQ HPU0 V w5 i i ([]:List Nat) rs R _ _ hRV hlt (.slice va vn vc) hv (by simp) nbV xa xc bs hA)
     rw[<-hvn]at HPU
     have pV:=uQ HPB V hRV.ro.kp
     have b0:V.cell? ⟨Wp.heap.size,i,none⟩=some (.slice va vn vc)/\V.cell? ⟨w.heap.size,0,none⟩=some (.slice sa n sc)/\V.cell? ⟨w.heap.size,1,none⟩=some (.int .i64 wi):=⟨hRV.ro.row.cell (by simpa using hv),pV.cell rfl,pV.cell rfl⟩
     clear hRV nbV hrow hts hrl hvi kwV pV kV hv hirs hiR HRO HPU0 RD0 HPB HKW BG HBG HSZ hvn HFT
     go_upto_region 7 with fail
     refine q0m (fun W=>W.cell? ⟨Wp.heap.size,i,none⟩=some (.slice va vn vc)/\W.cell? ⟨w.heap.size,0,none⟩=some (.slice sa n sc)/\W.cell? ⟨w.heap.size,1,none⟩=some (.int .i64 wi)) 13 (by kernel_rfl) ?_
     rw[<-hV]
     clear hV
     show q0a _ _ _ _ _ _ 14 (Array.replicate 14 false) _ _
     refine zzL (i:=0) (v:=?_) rfl (fun _ _ _ h=>h) (Or.inl ⟨by rfl,?_⟩) b0 ?_
     rotate_left 1
     ·intro w0 hSw;(try dsimp only at hSw);go_simp;(try with_reducible rfl)
     try simp only[Act.put,zz1,zz2,zz3]
     refine zzL (i:=1) (v:=?_) rfl (fun _ _ _ h=>h) (Or.inl ⟨by rfl,?_⟩) b0 ?_
     rotate_left 1
     ·intro w0 hSw;(try dsimp only at hSw);go_simp;(try with_reducible rfl)
     try simp only[Act.put,zz1,zz2,zz3]
     refine zzL (i:=2) (v:=?_) rfl (fun _ _ _ h=>h) (Or.inl ⟨by rfl,?_⟩) b0 ?_
     rotate_left 1
     ·intro w0 hSw;(try dsimp only at hSw);go_simp;(try with_reducible rfl)
     try simp only[Act.put,zz1,zz2,zz3]
     refine zzL (i:=3) (v:=?_) rfl (fun _ _ _ h=>h) (Or.inl ⟨by rfl,?_⟩) b0 ?_
     rotate_left 1
     ·intro w0 hSw;(try dsimp only at hSw);go_simp;(try with_reducible rfl)
     try simp only[Act.put,zz1,zz2,zz3]
     refine zzL (i:=4) (v:=?_) rfl (fun _ _ _ h=>h) (Or.inl ⟨by rfl,?_⟩) b0 ?_
     rotate_left 1
     ·intro w0 hSw;(try dsimp only at hSw);go_simp;(try with_reducible rfl)
     try simp only[Act.put,zz1,zz2,zz3]
     refine zzL (i:=5) (v:=?_) rfl (fun _ _ _ h=>h) (Or.inl ⟨by rfl,?_⟩) b0 ?_
     rotate_left 1
     ·intro w0 hSw;(try dsimp only at hSw);go_simp;(try with_reducible rfl)
     try simp only[Act.put,zz1,zz2,zz3]
     refine zzL (i:=6) (v:=?_) rfl (fun _ _ _ h=>h) (Or.inl ⟨by rfl,?_⟩) b0 ?_
     rotate_left 1
     ·intro w0 hSw;(try dsimp only at hSw);go_simp;(try with_reducible rfl)
     try simp only[Act.put,zz1,zz2,zz3]
     refine zzL (i:=7) (v:=?_) rfl (fun _ _ _ h=>h) (Or.inl ⟨by rfl,?_⟩) b0 ?_
     rotate_left 1
     ·intro w0 hSw;(try dsimp only at hSw);go_simp;(try with_reducible rfl)
     try simp only[Act.put,zz1,zz2,zz3]
     refine zzL (i:=8) (v:=?_) rfl (fun _ _ _ h=>h) (Or.inl ⟨by rfl,?_⟩) b0 ?_
     rotate_left 1
     ·intro w0 hSw;(try dsimp only at hSw);go_simp;(try with_reducible rfl)
     try simp only[Act.put,zz1,zz2,zz3]
     refine q01 (i:=9) rfl (by kernel_rfl) (fun K hK=>?_)
     go_simp
     refine (uQ RD).mono ?_
     rintro e w5 ⟨xa,xc,bs,rfl,hA5⟩
     obtain ⟨g',cap',w6,hrun,hB6,hR6,hn6,hb5,hb6,hb7⟩:=uQ HPU w5 xa xc bs hA5
     have HR6:=hZq hR6
     have f6:=hB6.froz i
     have hb5:=And.intro hb5.1 (And.intro (hb5.2.cell (i:=0) (v:= .slice sa n sc) rfl) (hb5.2.cell (i:=1) (v:= .int .i64 wi) rfl))
     have hb6:=And.intro hb6.1 (And.intro (hb6.2.cell (i:=0) (v:= .slice sa n sc) rfl) (hb6.2.cell (i:=1) (v:= .int .i64 wi) rfl))
     have hb7:=And.intro hb7.1 (And.intro (hb7.2.cell (i:=0) (v:= .slice sa n sc) rfl) (hb7.2.cell (i:=1) (v:= .int .i64 wi) rfl))
     refine hK _ _ (Or.inr hb5) ?_
     clear hK K
     try simp only[Act.put,zz1,zz2,zz3]
     refine q01 (i:=10) rfl (by kernel_rfl) (fun K hK=>?_)
     go_simp
     refine hK _ _ (Or.inr hb6) ?_
     clear hK K
     try simp only[Act.put,zz1,zz2,zz3]
     refine q01 (i:=11) rfl (by kernel_rfl) (fun K hK=>?_)
     refine q11 rfl (.tmp 31) (.tmp 36) 139 rfl rfl rfl hrun ?_
     refine hK _ _ (Or.inr hb7) ?_
     clear hK K
     try simp only[Act.put,zz1,zz2,zz3]
     refine zzL (i:=12) (v:=?_) rfl (fun _ _ _ h=>h) (Or.inl ⟨by rfl,?_⟩) hb7 ?_
     rotate_left 1
     ·intro w0 hSw;(try dsimp only at hSw);go_simp;(try with_reducible rfl)
     try simp only[Act.put,zz1,zz2,zz3]
     refine q01 (i:=13) rfl (by kernel_rfl) (fun K hK=>?_)
     go_simp
     refine hK _ _ (Or.inl rfl) ?_
     clear hK K
     try simp only[Act.put,zz1,zz2,zz3]
     refine q0c (by kernel_rfl) ?_ _
     go_wp2
     go_meet
     exact ⟨_,_,by rw[hra,hmn];exact hZq ⟨uQ HR6,hn6⟩⟩
    |false=>
     have hra:rdA SS i=[]:=by unfold rdA;rw[if_neg (by rw[hmn];simp)]
     rw[hmn]at HRO m1
     clear HPU0 RD0 HPB HKW BG HBG
     go_wp2
     go_meet
     exact ⟨rs,R,by rw[hra,hmn];exact HRO⟩
   case rest=>
    obtain ⟨rs,R,HRO⟩:=hcut
    clear m1
    have m2:=(uQ HRO).2.cell (i:=2) (v:= .bool (decide (i+1<n))) rfl
    by_cases hin:i+1<n
    ·have hdc:decide (i+1<n)=true:=decide_eq_true hin
     rw[hdc]at m2
     have HFT:(i+1=i/\mnAt SS i=true/\i<n)\/(i+1=i+1/\i+1<n):=Or.inr ⟨rfl,hin⟩
     obtain ⟨V,hV⟩: ∃V,V=wc.drew:=⟨_,rfl⟩
     have kV:Kp [] wc V:=by rw[hV];exact Kp.drew _
     have hRV:=(uQ HRO).1.go kV
     have nbV:=(uQ HRO).2.kp kV (by simp)
     have hiR:i<R.length:=by rw[hRV.ln];exact hlt
     have hirs:i<rs.length:=by rw[hRV.ro.len];exact hiR
     have hts:=(hRV.nw _ (List.getElem?_eq_getElem hiR)).1
     have hrl:R[i].length=(rdA SS i).length:=by rw[<-hts,List.length_map]
     have hrow:=hRV.ro.ins i _ _ (List.getElem?_eq_getElem hirs) (List.getElem?_eq_getElem hiR)
     rw[hrl]at hrow
     obtain ⟨vn,hvn⟩: ∃vn,vn=(rdA SS i).length:=⟨_,rfl⟩
     obtain ⟨va,vc,hvi⟩: ∃a c,rs[i]= .slice a vn c:=by
      obtain ⟨_,⟨e,e2⟩|⟨g,c,cur,e,_⟩⟩:=hrow
      ·exact ⟨none,0,by rw[e,hvn,e2]⟩
      ·exact ⟨_,c,by rw[e,hvn]⟩
     have hv:rs[i]?=some (.slice va vn vc):=by rw[List.getElem?_eq_getElem hirs,hvi]
     have kwV:=uQ HKW V hRV.ro.kp
     have RD:=hZq (uQ RD0 i (i+1) HFT V kwV)
     have HPU:=hZq (fun (w5:World) xa xc bs hA=>uQ HPU0 V w5 i (i+1) (rdA SS i) rs R _ _ hRV hlt (.slice va vn vc) hv (qd3 SS i) nbV xa xc bs hA)
     rw[<-hvn]at HPU
     have pV:=uQ HPB V hRV.ro.kp
     have b0:V.cell? ⟨Wp.heap.size,i,none⟩=some (.slice va vn vc)/\V.cell? ⟨w.heap.size,0,none⟩=some (.slice sa n sc)/\V.cell? ⟨w.heap.size,1,none⟩=some (.int .i64 wi):=⟨hRV.ro.row.cell (by simpa using hv),pV.cell rfl,pV.cell rfl⟩
     clear hRV nbV hrow hts hrl hvi kwV pV kV hv hirs hiR HRO HPU0 RD0 HPB HKW BG HBG HSZ hvn HFT
     go_upto_region 9 with fail
     refine q0m (fun W=>W.cell? ⟨Wp.heap.size,i,none⟩=some (.slice va vn vc)/\W.cell? ⟨w.heap.size,0,none⟩=some (.slice sa n sc)/\W.cell? ⟨w.heap.size,1,none⟩=some (.int .i64 wi)) 14 (by kernel_rfl) ?_
     rw[<-hV]
     clear hV
     show q0a _ _ _ _ _ _ 15 (Array.replicate 15 false) _ _
     refine zzL (i:=0) (v:=?_) rfl (fun _ _ _ h=>h) (Or.inl ⟨by rfl,?_⟩) b0 ?_
     rotate_left 1
     ·intro w0 hSw;(try dsimp only at hSw);go_simp;(try with_reducible rfl)
     try simp only[Act.put,zz1,zz2,zz3]
     refine zzL (i:=1) (v:=?_) rfl (fun _ _ _ h=>h) (Or.inl ⟨by rfl,?_⟩) b0 ?_
     rotate_left 1
     ·intro w0 hSw;(try dsimp only at hSw);go_simp;(try with_reducible rfl)
     try simp only[Act.put,zz1,zz2,zz3]
     refine zzL (i:=2) (v:=?_) rfl (fun _ _ _ h=>h) (Or.inl ⟨by rfl,?_⟩) b0 ?_
     rotate_left 1
     ·intro w0 hSw;(try dsimp only at hSw);go_simp;(try with_reducible rfl)
     try simp only[Act.put,zz1,zz2,zz3]
     refine zzL (i:=3) (v:=?_) rfl (fun _ _ _ h=>h) (Or.inl ⟨by rfl,?_⟩) b0 ?_
     rotate_left 1
     ·intro w0 hSw;(try dsimp only at hSw);go_simp;(try with_reducible rfl)
     try simp only[Act.put,zz1,zz2,zz3]
     refine zzL (i:=4) (v:=?_) rfl (fun _ _ _ h=>h) (Or.inl ⟨by rfl,?_⟩) b0 ?_
     rotate_left 1
     ·intro w0 hSw;(try dsimp only at hSw);go_simp;(try with_reducible rfl)
     try simp only[Act.put,zz1,zz2,zz3]
     refine zzL (i:=5) (v:=?_) rfl (fun _ _ _ h=>h) (Or.inl ⟨by rfl,?_⟩) b0 ?_
     rotate_left 1
     ·intro w0 hSw;(try dsimp only at hSw);go_simp;(try with_reducible rfl)
     try simp only[Act.put,zz1,zz2,zz3]
     refine zzL (i:=6) (v:=?_) rfl (fun _ _ _ h=>h) (Or.inl ⟨by rfl,?_⟩) b0 ?_
     rotate_left 1
     ·intro w0 hSw;(try dsimp only at hSw);go_simp;(try with_reducible rfl)
     try simp only[Act.put,zz1,zz2,zz3]
     refine zzL (i:=7) (v:=?_) rfl (fun _ _ _ h=>h) (Or.inl ⟨by rfl,?_⟩) b0 ?_
     rotate_left 1
     ·intro w0 hSw;(try dsimp only at hSw);go_simp;(try with_reducible rfl)
     try simp only[Act.put,zz1,zz2,zz3]
     refine zzL (i:=8) (v:=?_) rfl (fun _ _ _ h=>h) (Or.inl ⟨by rfl,?_⟩) b0 ?_
     rotate_left 1
     ·intro w0 hSw;(try dsimp only at hSw);go_simp;(try with_reducible rfl)
     try simp only[Act.put,zz1,zz2,zz3]
     refine zzL (i:=9) (v:=?_) rfl (fun _ _ _ h=>h) (Or.inl ⟨by rfl,?_⟩) b0 ?_
     rotate_left 1
     ·intro w0 hSw;(try dsimp only at hSw);go_simp;(try with_reducible rfl)
     try simp only[Act.put,zz1,zz2,zz3]
     refine q01 (i:=10) rfl (by kernel_rfl) (fun K hK=>?_)
     go_simp
     refine (uQ RD).mono ?_
     rintro e w5 ⟨xa,xc,bs,rfl,hA5⟩
     obtain ⟨g',cap',w6,hrun,hB6,hR6,hn6,hb5,hb6,hb7⟩:=uQ HPU w5 xa xc bs hA5
     have HR6:=hZq hR6
     have f6:=hB6.froz i
     have hb5:=And.intro hb5.1 (And.intro (hb5.2.cell (i:=0) (v:= .slice sa n sc) rfl) (hb5.2.cell (i:=1) (v:= .int .i64 wi) rfl))
     have hb6:=And.intro hb6.1 (And.intro (hb6.2.cell (i:=0) (v:= .slice sa n sc) rfl) (hb6.2.cell (i:=1) (v:= .int .i64 wi) rfl))
     have hb7:=And.intro hb7.1 (And.intro (hb7.2.cell (i:=0) (v:= .slice sa n sc) rfl) (hb7.2.cell (i:=1) (v:= .int .i64 wi) rfl))
     refine hK _ _ (Or.inr hb5) ?_
     clear hK K
     try simp only[Act.put,zz1,zz2,zz3]
     refine q01 (i:=11) rfl (by kernel_rfl) (fun K hK=>?_)
     go_simp
     refine hK _ _ (Or.inr hb6) ?_
     clear hK K
     try simp only[Act.put,zz1,zz2,zz3]
     refine q01 (i:=12) rfl (by kernel_rfl) (fun K hK=>?_)
     refine q11 rfl (.tmp 46) (.tmp 52) 139 rfl rfl rfl hrun ?_
     refine hK _ _ (Or.inr hb7) ?_
     clear hK K
     try simp only[Act.put,zz1,zz2,zz3]
     refine zzL (i:=13) (v:=?_) rfl (fun _ _ _ h=>h) (Or.inl ⟨by rfl,?_⟩) hb7 ?_
     rotate_left 1
     ·intro w0 hSw;(try dsimp only at hSw);go_simp;(try with_reducible rfl)
     try simp only[Act.put,zz1,zz2,zz3]
     refine q01 (i:=14) rfl (by kernel_rfl) (fun K hK=>?_)
     go_simp
     refine hK _ _ (Or.inl rfl) ?_
     clear hK K
     try simp only[Act.put,zz1,zz2,zz3]
     refine q0c (by kernel_rfl) ?_ _
     have HFIN:Hid (RoA Wp Wp.heap.size SS n (i+1) [] _ _ _):=hZq (RoA.next (i:=i) (by
      have hT:rdT SS i=rdA SS i++[i+1]:=by unfold rdT;rw[if_pos (by rw[HSL];exact hin)]
      rw[hT]
      exact uQ HR6))
     clear HR6 hn6 hrun hB6 hb5 hb6 hb7
     go_wp2
     go_roundw
     case rel=>exact ⟨i+1,_,_,by omega,by go_num,HFIN⟩
     case measure=>simp[intOf];omega
    ·have hdc:decide (i+1<n)=false:=decide_eq_false hin
     rw[hdc]at m2
     have HFIN:Hid (RoA Wp Wp.heap.size SS n (i+1) [] rs R wc):=hZq (RoA.next (i:=i) (by
      have hT:rdT SS i=rdA SS i:=by unfold rdT;rw[if_neg (by rw[HSL];exact hin),List.append_nil]
      rw[hT]
      exact (uQ HRO).1))
     clear HRO HPU0 RD0 HPB HKW BG HBG
     go_wp2
     go_roundw
     case rel=>exact ⟨i+1,_,_,by omega,by go_num,HFIN⟩
     case measure=>simp[intOf];omega
  ·obtain rfl:i=n:=by omega
   have hC:=uQ HC
   have hsz:=uQ HSZ
   have hkw:=uQ HKW wr hC.ro.kp
   clear HC HPU0 RD0 HPB HKW BG HBG
   go_wp2
   go_ret
   refine ⟨by rw[<-hsz];rfl,rs,R,?_,hC.ln,fun j r hr=>hC.dn j r ?_ hr⟩
   ·rw[<-hsz]
    exact ⟨hC.ro.row,hC.ro.len,hC.ro.ins,hC.ro.nd,hC.ro.az,hC.ro.nw,hkw,by omega⟩
   ·have:=(List.getElem?_eq_some_iff.1 hr).1
    rw[hC.ln]at this
    exact this
end Go.Proofs.YtcmjnlpofebbmaaGreatDoor
namespace Go.Proofs.YtcmjnlpofebbmaaGreatDoor.Mt
def all (P:Pm)(en:Nat)(T:List (List Nat)):List (List (List Nat)):=dfs P en (P.len+1) T
def alo (P:Pm)(en:Nat)(T:List (List Nat))(t:Nat):List (List (List Nat)):=alg P en (P.len+1) T t
def wal (P:Pm)(en:Nat)(T:List (List Nat))(t q:Nat):List (List (List Nat)):=wlk P en (P.len+1) T t q
theorem all_unf {P:Pm}{en:Nat}(T:List (List Nat))(hen:en<=P.len)(h1:1<=P.len):all P en T=(if T.length=P.N then [T] else [])++(rds P T).flatMap (alo P en T):=by
 unfold all
 rw[q0L]
 congr 1
 refine q0R fun t _=>?_
 unfold alo alg
 refine q0R fun q hq=>?_
 obtain ⟨m,hm⟩: ∃m,P.len=m+1:=⟨P.len-1,by omega⟩
 rw[hm]
 exact (qan m _ (by rw[endT_ext];omega)).symm
theorem wal_end {P:Pm}{en t q:Nat}{T:List (List Nat)}(h:en<=q):wal P en T t q=[]:=qdj h
theorem wal_step {P:Pm}{en t q:Nat}{T:List (List Nat)}(hp:endT T<q)(hb:btw P T t (endT T) q=true)(hq:q<en):wal P en T t q=(if P.H t (las T t) q=true then all P en (ext T t q) else [])++(if opn P T t q=true then wal P en T t (q+1) else []):=qbO hp hb hq
theorem wal_loop {P:Pm}{ask:Nat->Nat->Bool}(hA:Asks P ask){en s q:Nat}{T:List (List Nat)}(hen:en<=P.len)(hs:s+1=T.length)(hm:P.many s=true)(hp:endT T<q)(hb:btw P T s (endT T) q=true)(hq:q<en)(hH:P.H s (las T s) q=true)(hd:all P en (ext T s q)=[]):wal P en T s (q+1)=[]:=qbN hA hs hm hp hb hq hH (by omega) hd
theorem fnd_all (P:Pm)(wi:Nat):fnd P wi=(List.range P.len).reverse.flatMap fun x=>if P.H 0 [] x=true then all P (min (x+wi) P.len) [[x]] else []:=rfl
def spE (az:List Nat)(T:List (List Nat))(i:Nat):Nat:=if i∈az then lst (T.getD i []) else 0
def Dd (P:Pm)(en q fr tz:Nat)(az:List Nat)(f:Nat->Nat):Prop:= ∀T:List (List Nat),T.length=fr+1->endT T=q->(∀i,i<8->spE az T i=f i)->alo P en T tz=[]
theorem Dd.of {P:Pm}{ask:Nat->Nat->Bool}(hA:Asks P ask){en q fr tz:Nat}{az:List Nat}(has: ∀i,i<fr-> ∀t,tz<=t->ask t i=true->i∈az)(h8: ∀i∈az,i<8){U:List (List Nat)}(hU:U.length=fr+1)(hq:endT U=q)(hto:tz=fr\/tz=fr+1)(hen:en<=P.len)(hd:alo P en U tz=[]):Dd P en q fr tz az (spE az U):=by
 intro T hT hq' hsp
 have hne:T≠[]:=fun e=>by rw[e]at hT;simp at hT
 have hal:Alk ask tz T U:=by
  refine ⟨by omega,by omega,fun i hi t ht ha=>?_⟩
  have him:=has i (by omega) t ht ha
  have:=hsp i (h8 i him)
  unfold spE at this
  rw[if_pos him,if_pos him]at this
  have g1:T[i]?=some T[i]:=List.getElem?_eq_getElem (by omega)
  have g2:U[i]?=some (U[i]'(by omega)):=List.getElem?_eq_getElem (by omega)
  rw[List.getD_eq_getElem?_getD,List.getD_eq_getElem?_getD,g1,g2]at this
  rw[g1,g2]
  simpa using this
 exact hal.dead hA hne (by omega) (by omega) hd
theorem Dd.less {P:Pm}{en en' q fr tz:Nat}{az:List Nat}{f:Nat->Nat}(h:Dd P en q fr tz az f)(hle:en'<=en)(hen:en<=P.len):Dd P en' q fr tz az f:=fun T hT hq hsp=>qa8 hle (f:=P.len) (by omega) (h T hT hq hsp)
def apN (az L:List Nat)(q:Nat):Nat:=match az with
 |[]=>0
 |i::_=>q-L.getD i 0
def NtOk (P:Pm)(t W:Nat)(az:List Nat)(row:List Int):Prop:= ∀(j:Nat) (v:Int),row[j]?=some v->v=0\/((v=1\/v=2)/\ ∀(L:List Nat) (q:Nat),L.length=t->(∀i∈az.head?,L.getD i 0<=q)->j=q * W+apN az L q->apN az L q<W->P.H t L q=decide (v=2))
theorem NtOk.zero (P:Pm)(t W:Nat)(az:List Nat)(n:Nat):NtOk P t W az (List.replicate n 0):=fun j v h=>by
 have:=List.mem_of_getElem? h
 exact Or.inl (List.eq_of_mem_replicate this)
theorem NtOk.put {P:Pm}{ask:Nat->Nat->Bool}(hA:Asks P ask){t W:Nat}{az:List Nat}{row:List Int}(h:NtOk P t W az row)(has: ∀i,ask t i=true->i∈az)(h1:az.length<=1)(hlt: ∀i∈az,i<t){L:List Nat}{q:Nat}(hL:L.length=t)(hle: ∀i∈az.head?,L.getD i 0<=q)(hap:apN az L q<W){v:Int}(hv:v=1\/v=2)(hH:P.H t L q=decide (v=2)):NtOk P t W az (row.set (q * W+apN az L q) v):=by
 intro j u hu
 rw[List.getElem?_set]at hu
 by_cases e:q * W+apN az L q=j
 ·rw[if_pos e]at hu
  split at hu
  ·cases hu
   refine Or.inr ⟨hv,fun L' q' hL' hle' hj hap'=>?_⟩
   rw[<-hH]
   have hqq:q'=q:=by
    have h2:q' * W+apN az L' q'=q * W+apN az L q:=by omega
    have hW:0<W:=by omega
    have e1:(q' * W+apN az L' q') / W=q':=by rw[Nat.mul_comm,Nat.mul_add_div hW,Nat.div_eq_of_lt hap'];rfl
    have e2:(q * W+apN az L q) / W=q:=by rw[Nat.mul_comm,Nat.mul_add_div hW,Nat.div_eq_of_lt hap];rfl
    rw[<-e1,h2,e2]
   subst hqq
   have hapq:apN az L' q'=apN az L q':=by omega
   refine hA t L' L q' (by omega) (fun i hi=>?_)
   have him:=has i hi
   match az,h1,him with
   |[a],_,him=>
    rw[List.mem_singleton]at him
    subst him
    have g:=hlt i (by simp)
    have l1:=hle i (by simp)
    have l2:=hle' i (by simp)
    unfold apN at hapq
    simp only at hapq
    have e1:L[i]?=some L[i]:=List.getElem?_eq_getElem (by omega)
    have e2:L'[i]?=some (L'[i]'(by omega)):=List.getElem?_eq_getElem (by omega)
    rw[e1,e2]
    simp only[List.getD_eq_getElem?_getD,e1,e2,Option.getD_some]at l1 l2 hapq
    simp only[Option.some.injEq]
    omega
  ·cases hu
 ·rw[if_neg e]at hu
  exact h j u hu
end Go.Proofs.YtcmjnlpofebbmaaGreatDoor.Mt
namespace Go.Proofs.YtcmjnlpofebbmaaGreatDoor
open Go.RowKit Go.Shelf
theorem NmsAt.take {w:World}{ad:Option Addr}{l:List ByteArray}(h:NmsAt w ad l)(n:Nat):NmsAt w ad (l.take n):=fun hl=>by
 obtain ⟨b,off,e,hlt,hc⟩:=h (fun e=>hl (by rw[e];simp))
 refine ⟨b,off,e,hlt,fun i hi=>?_⟩
 rw[List.length_take]at hi
 rw[List.getElem_take]
 exact hc i (by omega)
theorem EvsAt.take {w:World}{ad:Option Addr}{l:List Ev}(h:EvsAt w ad l)(n:Nat):EvsAt w ad (l.take n):=fun hl=>by
 obtain ⟨b,off,e,hlt,hc⟩:=h (fun e=>hl (by rw[e];simp))
 refine ⟨b,off,e,hlt,fun i x hx=>hc i x ?_⟩
 rw[List.getElem?_take]at hx
 split at hx
 ·exact hx
 ·cases hx
theorem qaR (k:HK)(T:List (List Nat))(t:Nat):(hkL k T).take t=Mt.lasE k.es (Mt.las T t):=by
 unfold hkL Mt.lasE Mt.las
 rw[List.take_length, <-List.map_take, <-List.map_take]
theorem q9T (al:Option Addr)(n cl t:Nat)(h:t<=n)(hc:n<=cl)(hz: ∀a,al=some a->a.spot=none)(hn:al=none->n=0/\cl=0)(W:World):(Instr.slice 25 (.slice al n cl) none (some (.int .i64 (t:Int))) none).run Tryz.prog W= .ok (.slice al t cl) W:=by
 have h3:(t:Int)<=(cl:Int):=by omega
 cases al with
 |none=>
  obtain ⟨rfl,rfl⟩:=hn rfl
  obtain rfl:t=0:=by omega
  simp[Instr.slice,Instr.sliceBounds,run_underlying Tryz.underlying25,Tryz.sizeOf29,go_sem]
 |some a=>
  simp[Instr.slice,Instr.sliceBounds,run_underlying Tryz.underlying25,Tryz.sizeOf29,go_sem,h3]
theorem qeg (a:Addr)(n cl t:Nat)(h:t<=n)(hc:n<=cl)(W:World):(Instr.slice 83 (.slice (some a) n cl) none (some (.int .i64 (t:Int))) none).run Tryz.prog W= .ok (.slice (some a) t cl) W:=by
 have h3:(t:Int)<=(cl:Int):=by omega
 simp[Instr.slice,Instr.sliceBounds,run_underlying Tryz.underlying83,Tryz.sizeOf9,go_sem,h3]
theorem HK.H_eq (k:HK)(t:Nat)(ht:t<k.l.length)(L:List Nat)(q:Nat)(hq:q<k.es.length):k.P.H t L q=hdB k.l[t].s.cd ⟨k.es[q],(q00 (stgs k.l)).take t,Mt.lasE k.es L⟩:=by
 show Mt.Hp k.p k.es t L q=_
 unfold Mt.Hp
 have h1:k.p.ss[t]?=some k.l[t].s:=by
  show (stgs k.l)[t]?=_
  rw[List.getElem?_eq_getElem (by rw[q03];exact ht),q16 ht]
 rw[h1]
 dsimp only
 rw[List.getD_eq_getElem?_getD,List.getElem?_eq_getElem hq]
 rfl
theorem q4e (k:HK)(hI:HkI k)(w:World)(T:List (List Nat))(pv lv:Value)(vs:List Value)(h:HkS k w T (hkL k T) pv lv vs)(t q:Nat)(ht:t<k.l.length)(htT:t<=T.length)(hq:q<k.es.length):
  Calls Tryz.prog 77 #[.pointer (some ⟨k.gt,0,none⟩), .int .i64 (t:Int), .int .i64 (q:Int)] w fun e w'=>e= .returned (.bool (k.P.H t (Mt.las T t) q))/\Kp [] w w':=by
 rw[k.H_eq t ht _ q hq]
 have hd:=h.al (Kp.drew w)
 have kb:=hd.kb hI
 obtain ⟨sb,so,hsa, -, -, -, -,s3,hpt⟩:=(hI.st.kp kb).at t ht
 have hev:=hI.ev.kp kb (by simp)
 obtain ⟨eb,eo,hea,e0,e1,e2,e3,e4,e5,e6⟩:=hev.seven q hq
 have hnm:=(hI.nm.kp hd.kp hI.nf).take t
 obtain ⟨nb,no,hna,_⟩:=(hI.nm.kp hd.kp hI.nf) (fun e=>by have:=congrArg List.length e;rw[q0D,q03]at this;have h0:([]:List ByteArray).length=0:=rfl;omega)
 have htk:=qaR k T t
 have hln:(hkL k T).length=T.length:=by unfold hkL;rw[q3D,q5X]
 obtain ⟨al,cl,hlv,hle,hcl,hsp,hno⟩: ∃al cl,lv= .slice al T.length cl/\EvsAt w.drew al (hkL k T)/\T.length<=cl/\(∀a,al=some a->a.spot=none)/\(al=none->T.length=0/\cl=0):=by
  obtain ⟨a,c,e,hat⟩:=hd.la.at
  rw[hln]at e
  obtain ⟨_,⟨e2,h1⟩|⟨g,cap,cur,e2,_,hh,hc,_⟩⟩:=id hd.la
  ·rw[hln]at h1
   rw[e]at e2
   injection e2 with e3 e4 e5
   exact ⟨a,c,e,hat,by omega,by rw[e3];simp,fun _=>⟨h1,e5⟩⟩
  ·rw[hln]at hc
   rw[e]at e2
   injection e2 with e3 e4 e5
   refine ⟨a,c,e,hat,by omega,fun x hx=>?_,fun hx=>?_⟩
   ·rw[e3]at hx;cases hx;rfl
   ·rw[e3]at hx;cases hx
 have hlt:=hle.take t
 rw[htk]at hlt
 have hsE:=hZq (q9T al T.length cl t htT hcl hsp hno)
 have hsN:=hZq (qeg ⟨nb,no,none⟩ k.l.length k.cn t (by omega) hI.cn)
 have HH:=hZq (q9d k.l[t].ad (some ⟨nb,no,none⟩) al k.l[t].c k.cn cl k.l[t].s.cd k.es[q] ((q00 (stgs k.l)).take t) (Mt.lasE k.es (Mt.las T t)) w.drew hpt (by rw[<-hna];exact hnm) (by rw[List.length_take,q0D,q03];have:=hI.l8;omega) hlt (hI.tb.kp kb (by simp)) (hI.ft _ (List.getElem_mem ht)))
 have hl1:((q00 (stgs k.l)).take t).length=t:=by rw[List.length_take,q0D,q03];omega
 have hl2:(Mt.lasE k.es (Mt.las T t)).length=t:=by rw[q3D,Mt.las_len htT]
 rw[hl1,hl2]at HH
 have b0:w.drew.cell? ⟨k.gt,0,none⟩=some (.slice (some ⟨sb,so,none⟩) k.l.length k.sc):=by rw[<-hsa];exact hd.box.cell rfl
 have b2:w.drew.cell? ⟨k.gt,2,none⟩=some (.slice (some ⟨eb,eo,none⟩) k.es.length k.ec):=by rw[<-hea];exact hd.box.cell rfl
 have b3:w.drew.cell? ⟨k.gt,3,none⟩=some (.slice (some ⟨nb,no,none⟩) k.l.length k.cn):=by rw[<-hna];exact hd.box.cell rfl
 have b5:w.drew.cell? ⟨k.gt,5,none⟩=some (.slice al T.length cl):=by rw[<-hlv];exact hd.box.cell rfl
 have hti:(t:Int)<(k.l.length:Int):=by omega
 have hqi:(q:Int)<(k.es.length:Int):=by omega
 have hl8:=hI.l8
 have hel:=hI.el
 clear hI hd kb hpt hev hnm htk hln hle hlt hsa hea hna hlv h hl1 hl2 hno hsp
 generalize hdB k.l[t].s.cd ⟨k.es[q],(q00 (stgs k.l)).take t,Mt.lasE k.es (Mt.las T t)⟩=B at *
 generalize hdE k.l[t].s.cd ⟨k.es[q],(q00 (stgs k.l)).take t,Mt.lasE k.es (Mt.las T t)⟩=E at *
 generalize k.l[t].s.cd.length=m at *
 generalize k.l[t].ad=ad at *
 generalize k.l[t].c=sc at *
 generalize k.es[q]=ev at *
 obtain ⟨ek,et,n0,n1,n2,n3,ex⟩:=ev
 unfold Ev.c at HH
 dsimp only at HH e0 e1 e2 e3 e4 e5 e6
 generalize k.l.length=N at *
 generalize k.es.length=M at *
 have cS:w.drew.cell? ⟨k.gt,0,none⟩=some (.slice (some ⟨sb,so,none⟩) N k.sc)/\w.drew.cell? ⟨k.gt,2,none⟩=some (.slice (some ⟨eb,eo,none⟩) M k.ec)/\w.drew.cell? ⟨k.gt,3,none⟩=some (.slice (some ⟨nb,no,none⟩) N k.cn)/\w.drew.cell? ⟨k.gt,5,none⟩=some (.slice al T.length cl)/\w.drew.cell? ⟨sb,so+t * 4+3,none⟩=some (.slice ad m sc)/\w.drew.cell? ⟨eb,eo+q * 7,none⟩=some (.string ek)/\w.drew.cell? ⟨eb,eo+q * 7+1,none⟩=some (.string et)/\w.drew.cell? ⟨eb,eo+q * 7+2,none⟩=some (.int .i64 n0)/\w.drew.cell? ⟨eb,eo+q * 7+3,none⟩=some (.int .i64 n1)/\w.drew.cell? ⟨eb,eo+q * 7+4,none⟩=some (.int .i64 n2)/\w.drew.cell? ⟨eb,eo+q * 7+5,none⟩=some (.int .i64 n3)/\w.drew.cell? ⟨eb,eo+q * 7+6,none⟩=some (.string ex):=⟨b0,b2,b3,b5,s3,e0,e1,e2,e3,e4,e5,e6⟩
 have HS:Hid (∀W,Below w.drew.heap.size w.drew W->W.cell? ⟨k.gt,0,none⟩=some (.slice (some ⟨sb,so,none⟩) N k.sc)/\W.cell? ⟨k.gt,2,none⟩=some (.slice (some ⟨eb,eo,none⟩) M k.ec)/\W.cell? ⟨k.gt,3,none⟩=some (.slice (some ⟨nb,no,none⟩) N k.cn)/\W.cell? ⟨k.gt,5,none⟩=some (.slice al T.length cl)/\W.cell? ⟨sb,so+t * 4+3,none⟩=some (.slice ad m sc)/\W.cell? ⟨eb,eo+q * 7,none⟩=some (.string ek)/\W.cell? ⟨eb,eo+q * 7+1,none⟩=some (.string et)/\W.cell? ⟨eb,eo+q * 7+2,none⟩=some (.int .i64 n0)/\W.cell? ⟨eb,eo+q * 7+3,none⟩=some (.int .i64 n1)/\W.cell? ⟨eb,eo+q * 7+4,none⟩=some (.int .i64 n2)/\W.cell? ⟨eb,eo+q * 7+5,none⟩=some (.int .i64 n3)/\W.cell? ⟨eb,eo+q * 7+6,none⟩=some (.string ex)):=hZq (fun W hb=>by
  have k1:=Kp.ofBelow hb
  exact ⟨k1.cell b0 (by simp),k1.cell b2 (by simp),k1.cell b3 (by simp),k1.cell b5 (by simp),k1.cell s3 (by simp),k1.cell e0 (by simp),k1.cell e1 (by simp),k1.cell e2 (by simp),k1.cell e3 (by simp),k1.cell e4 (by simp),k1.cell e5 (by simp),k1.cell e6 (by simp)⟩)
 clear b0 b2 b3 b5 s3 e0 e1 e2 e3 e4 e5 e6
 generalize T.length=n at *
 have hE1:=fun W=>uQ hsE W
 have hN1:=fun W=>uQ hsN W
 go_enter Tryz.func77,Tryz.ntmps77
 go_wp2_with fail
 go_region_held3 (fun W=>W.cell? ⟨k.gt,0,none⟩=some (.slice (some ⟨sb,so,none⟩) N k.sc)/\W.cell? ⟨k.gt,2,none⟩=some (.slice (some ⟨eb,eo,none⟩) M k.ec)/\W.cell? ⟨k.gt,3,none⟩=some (.slice (some ⟨nb,no,none⟩) N k.cn)/\W.cell? ⟨k.gt,5,none⟩=some (.slice al n cl)/\W.cell? ⟨sb,so+t * 4+3,none⟩=some (.slice ad m sc)/\W.cell? ⟨eb,eo+q * 7,none⟩=some (.string ek)/\W.cell? ⟨eb,eo+q * 7+1,none⟩=some (.string et)/\W.cell? ⟨eb,eo+q * 7+2,none⟩=some (.int .i64 n0)/\W.cell? ⟨eb,eo+q * 7+3,none⟩=some (.int .i64 n1)/\W.cell? ⟨eb,eo+q * 7+4,none⟩=some (.int .i64 n2)/\W.cell? ⟨eb,eo+q * 7+5,none⟩=some (.int .i64 n3)/\W.cell? ⟨eb,eo+q * 7+6,none⟩=some (.string ex))
  (first|with_reducible exact cS|exact uQ HS _ (by assumption))
  (first
   |(go_at_call 104;refine (uQ HH).mono ?_;rintro e w3 ⟨rfl,hb3⟩))
 have hk3:Kp [] w w3:=(Kp.drew w).trans (Kp.ofBelow hb3) (by simp)
 clear HH HS cS hE1 hN1 hsE hsN
 go_wp2
 go_ret
 exact ⟨rfl,hk3⟩
end Go.Proofs.YtcmjnlpofebbmaaGreatDoor
