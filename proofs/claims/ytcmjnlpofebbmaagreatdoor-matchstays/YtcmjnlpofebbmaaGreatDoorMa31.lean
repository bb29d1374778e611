/-
  Walks and plain facts, made small.
-/
import Derived.Test.YtcmjnlpofebbmaaGreatDoorMa30
set_option maxRecDepth 100000
set_option maxHeartbeats 8000000
set_option linter.unusedSimpArgs false
namespace Go.Proofs.YtcmjnlpofebbmaaGreatDoor
open Go.RowKit Go.Shelf
structure DdS (gd n lo:Nat)(G:Nat->Spt->Prop)(D:List (Option Nat))(w:World):Prop where
 row:CBox gd (D.map Value.map).toArray 100 w
 len:D.length=n
 mp: ∀(q b:Nat),D[q]?=some (some b)->lo<=b/\ ∃S,SetP w b S/\ ∀s∈S,G q s
 nd: ∀(i j b:Nat),D[i]?=some (some b)->D[j]?=some (some b)->i=j
def ddF (gd:Nat)(D:List (Option Nat)):List Nat:=gd::D.filterMap id
theorem q2t {gd b q:Nat}{D:List (Option Nat)}(h:D[q]?=some (some b)):b∈ddF gd D:=by
 unfold ddF
 rw[List.mem_cons,List.mem_filterMap]
 exact Or.inr ⟨some b,List.mem_of_getElem? h,rfl⟩
theorem q2n {gd b:Nat}{D:List (Option Nat)}(h:b∈ddF gd D):b=gd\/ ∃q:Nat,D[q]?=some (some b):=by
 unfold ddF at h
 rw[List.mem_cons,List.mem_filterMap]at h
 refine h.imp id ?_
 rintro ⟨x,hx,e⟩
 obtain ⟨q,hq⟩:=List.getElem?_of_mem hx
 exact ⟨q,by rw[hq,show x=some b from e]⟩
theorem DdS.kp {gd n lo:Nat}{G:Nat->Spt->Prop}{D:List (Option Nat)}{w w':World}{F:List Nat}(h:DdS gd n lo G D w)(hk:Kp F w w')(hF: ∀b∈ddF gd D,b∉F):DdS gd n lo G D w':=by
 refine ⟨h.row.kp hk (hF _ (by unfold ddF;simp)),h.len,fun q b hb=>?_,h.nd⟩
 obtain ⟨h1,S,h2,h3⟩:=h.mp q b hb
 exact ⟨h1,S,h2.kp hk (hF b (q2t hb)),h3⟩
theorem DdS.less {gd n lo:Nat}{G G':Nat->Spt->Prop}{D:List (Option Nat)}{w:World}(h:DdS gd n lo G D w)(hG: ∀q s,G q s->G' q s):DdS gd n lo G' D w:=⟨h.row,h.len,fun q b hb=>let ⟨h1,S,h2,h3⟩:=h.mp q b hb;⟨h1,S,h2,fun s hs=>hG q s (h3 s hs)⟩,h.nd⟩
theorem SetP.ne {w:World}{b g:Nat}{S:List Spt}{cs:Array Value}{t:TypeId}(h:SetP w b S)(h2:CBox g cs t w):b≠g:=fun e=>by
 obtain ⟨es,c,h1,_⟩:=h
 rw[e,show w.heap[g]?=some (.cells cs t) from h2]at h1
 cases h1
theorem DdS.at {gd n lo q:Nat}{G:Nat->Spt->Prop}{D:List (Option Nat)}{w:World}(h:DdS gd n lo G D w){o:Option Nat}(hq:D[q]?=some o):w.cell? ⟨gd,q,none⟩=some (.map o):=h.row.cell (by
 rw[List.getElem?_toArray,List.getElem?_map,hq]
 rfl)
theorem DdS.set {gd n lo q:Nat}{G:Nat->Spt->Prop}{D:List (Option Nat)}{w:World}(h:DdS gd n lo G D w)(o:Option Nat)(ho: ∀b,o=some b->lo<=b/\SetP w b []/\ ∀i:Nat,D[i]?≠some (some b)):DdS gd n lo G (D.set q o) (w.setCell ⟨gd,q,none⟩ (.map o)):=by
 have ks:=Kp.set w gd q (.map o)
 refine ⟨?_,by rw[List.length_set];exact h.len,fun i b hb=>?_,fun i j b hi hj=>?_⟩
 ·have:=h.row.set q (.map o)
  rw[List.setIfInBounds_toArray, <-List.map_set]at this
  exact this
 ·rw[List.getElem?_set]at hb
  by_cases e:q=i
  ·rw[if_pos e]at hb
   split at hb
   ·have:=Option.some.inj hb
    obtain ⟨h1,h2,_⟩:=ho b this
    exact ⟨h1,[],h2.kp ks (by simpa using h2.ne h.row),by simp⟩
   ·cases hb
  ·rw[if_neg e]at hb
   obtain ⟨h1,S,h2,h3⟩:=h.mp i b hb
   exact ⟨h1,S,h2.kp ks (by simpa using h2.ne h.row),h3⟩
 ·rw[List.getElem?_set]at hi hj
  by_cases ei:q=i
  ·by_cases ej:q=j
   ·omega
   ·rw[if_pos ei]at hi
    rw[if_neg ej]at hj
    split at hi
    ·have:=Option.some.inj hi
     exact absurd hj ((ho b this).2.2 j)
    ·cases hi
  ·rw[if_neg ei]at hi
   by_cases ej:q=j
   ·rw[if_pos ej]at hj
    split at hj
    ·have:=Option.some.inj hj
     exact absurd hi ((ho b this).2.2 i)
    ·cases hj
   ·rw[if_neg ej]at hj
    exact h.nd i j b hi hj
theorem DdS.lt {gd n lo:Nat}{G:Nat->Spt->Prop}{D:List (Option Nat)}{w:World}(h:DdS gd n lo G D w){b:Nat}(hb:b∈ddF gd D):b<w.heap.size:=by
 rcases q2n hb with e|⟨q,hq⟩
 ·rw[e];exact (Array.getElem?_eq_some_iff.1 h.row).1
 ·obtain ⟨_,S,h2,_⟩:=h.mp q b hq
  exact h2.lt
theorem DdS.put {gd n lo q b:Nat}{G:Nat->Spt->Prop}{D:List (Option Nat)}{w:World}(h:DdS gd n lo G D w)(hq:D[q]?=some (some b))(s:Spt)(hs:G q s): ∃w',(Instr.mapUpdate 100 (.map (some b)) (.agg s.c) (.agg #[])).run Tryz.prog w= .ok () w'/\DdS gd n lo G D w'/\Kp [b] w w':=by
 obtain ⟨h1,S,h2,h3⟩:=h.mp q b hq
 obtain ⟨w',S',hrun,hS,hin,hk⟩:=h2.store s
 refine ⟨w',hrun,⟨h.row.kp hk (by simpa using (h2.ne h.row).symm),h.len,fun i b2 hb=>?_,h.nd⟩,hk⟩
 by_cases e:b2=b
 ·subst e
  have:i=q:=h.nd i q b2 hb hq
  subst this
  exact ⟨h1,S',hS,fun x hx=>(hin x hx).elim (h3 x) (fun e=>by rw[e];exact hs)⟩
 ·obtain ⟨g1,S2,g2,g3⟩:=h.mp i b2 hb
  exact ⟨g1,S2,g2.kp hk (by simpa using e),g3⟩
theorem qae (k:HK)(w:World)(gs gx B gd en tl lo:Nat)(G:Nat->Spt->Prop)(D:List (Option Nat))(hs:CBox gs (srC k gx B gd en tl) 97 w)(hD:DdS gd k.es.length lo G D w)(hlo:lo<=w.heap.size)(q:Nat)(hq:q<k.es.length)(s:Spt)(hG:G q s):
  Calls Tryz.prog 109 #[.pointer (some ⟨gs,0,none⟩), .int .i64 (q:Int), .agg s.c] w fun e w'=>(∃v,e= .returned v)/\ ∃D',DdS gd k.es.length lo G D' w'/\Kp (ddF gd D) w w'/\ ∀b∈ddF gd D',b∈ddF gd D\/w.heap.size<=b:=by
 obtain ⟨N,hN⟩: ∃N,k.es.length=N:=⟨_,rfl⟩
 have c0:=hs.cell (i:=3) (v:= .slice (some ⟨gd,0,none⟩) k.es.length k.es.length) rfl
 rw[hN]at hD hq c0 ⊢
 obtain ⟨o,ho⟩: ∃o,D[q]?=some o:=⟨_,List.getElem?_eq_getElem (by rw[hD.len];exact hq)⟩
 have hqi:(q:Int)<(N:Int):=by omega
 have hgs:gs<w.heap.size:=(Array.getElem?_eq_some_iff.1 hs).1
 have hgd:gd<w.heap.size:=hD.lt (by unfold ddF;simp)
 have hgg:gs≠gd:=q0p hs hD.row (by decide)
 have k1:=Kp.alloc w (.cells s.c 186)
 have p1:=CBox.new w s.c 186
 have hz1:(w.alloc (.cells s.c 186)).heap.size=w.heap.size+1:=by simp
 obtain ⟨W1,hW1⟩: ∃W1,W1=w.alloc (.cells s.c 186):=⟨_,rfl⟩
 rw[<-hW1]at k1 p1 hz1
 have D1:=hD.kp k1 (by simp)
 have c1:=k1.cell c0 (by simp)
 have e1:=D1.at ho
 have HC:Hid (∀W,(∃F,Kp F w W/\ ∀x∈F,x≠gs)->W.cell? ⟨gs,3,none⟩=some (.slice (some ⟨gd,0,none⟩) N N)):=hZq (fun W ⟨F,hk,hF⟩=>hk.cell c0 (fun hm=>hF _ hm rfl))
 have hmm: ∀W:World,(Instr.makeMap 100 none).run Tryz.prog W= .ok (.map (some W.heap.size)) (W.alloc (.map #[] 0)):=fun W=>run_makeMap _ W
 have qn: ∀W,(binOp .eql 100 (.map o) (.map none)).run Tryz.prog W= .ok (.bool o.isNone) W:=fun W=>by simp[binOp,run_equal_map_nil W 100 186 188 o Tryz.underlying100]
 have HD:=hZq hD
 have HD1:=hZq D1
 have HK1:=hZq k1
 have HP1:=hZq p1
 have HHG:=hZq hG
 have HG0:Hid (∀D':List (Option Nat),(∀(i b:Nat),D'[i]?=some (some b)->D[i]?=some (some b)\/w.heap.size<=b)-> ∀b∈ddF gd D',b∈ddF gd D\/w.heap.size<=b):=hZq (fun D' hh b hb=>by
  rcases q2n hb with e|⟨i,hi⟩
  ·exact Or.inl (by rw[e];unfold ddF;simp)
  ·exact (hh i b hi).imp (fun h=>q2t h) id)
 have HOG:Hid (∀D' W,DdS gd N lo G D' W->CBox gs (srC k gx B gd en tl) 97 W-> ∀x∈ddF gd D',x≠gs):=hZq (fun D' W h1 h2 x hx e=>by
  rcases q2n hx with e2|⟨i,hi⟩
  ·exact hgg (by rw[<-e,e2])
  ·obtain ⟨_,S,h3,_⟩:=h1.mp i x hi
   exact h3.ne h2 e)
 have HSB:=hZq hs
 clear hD D1 k1 p1 hG c0 hs
 go_enter Tryz.func109,Tryz.ntmps109
 obtain ⟨fr,td,f⟩:=s
 unfold Spt.c at *
 dsimp only at *
 go_upto_region 1 with fail
 rw[<-hW1]
 have HW1:=hZq hW1
 clear hW1
 go_upto_if 13 with fail
 go_cut [] (fun wc=> ∃(D':List (Option Nat)) (b:Nat),Hid (DdS gd N lo G D' wc/\D'[q]?=some (some b)/\Kp (ddF gd D) w wc/\(∀b∈ddF gd D',b∈ddF gd D\/w.heap.size<=b)/\CBox w.heap.size #[.int .i16 (fr:Int), .int .i16 (td:Int), .int .i16 (f 0:Int), .int .i16 (f 1:Int), .int .i16 (f 2:Int), .int .i16 (f 3:Int), .int .i16 (f 4:Int), .int .i16 (f 5:Int), .int .i16 (f 6:Int), .int .i16 (f 7:Int)] 186 wc))
 case first=>
  cases o with
  |some b=>
   have HF:=hZq (show DdS gd N lo G D W1/\D[q]?=some (some b)/\Kp (ddF gd D) w W1/\(∀b∈ddF gd D,b∈ddF gd D\/w.heap.size<=b)/\_ from ⟨uQ HD1,ho,(uQ HK1).mono (by simp),fun b hb=>Or.inl hb,uQ HP1⟩)
   clear HD HD1 HK1 HP1 HG0 HOG HSB HHG HC ho
   go_wp2
   go_meet
   exact ⟨D,b,HF⟩
  |none=>
   have k2:=Kp.alloc W1 (.map #[] 0)
   have hz2:(W1.alloc (.map #[] 0)).heap.size=W1.heap.size+1:=by simp
   have hS2:=SetP.new W1
   have c2:=k2.cell c1 (by simp)
   have D2:=(uQ HD1).kp k2 (by simp)
   have fz:=D2.row.froz q
   have e2:=D2.at ho
   have p2:=(uQ HP1).kp k2 (by simp)
   have HF:Hid (DdS gd N lo G (D.set q (some W1.heap.size)) ((W1.alloc (.map #[] 0)).setCell ⟨gd,q,none⟩ (.map (some W1.heap.size)))/\(D.set q (some W1.heap.size))[q]?=some (some W1.heap.size)/\Kp (ddF gd D) w ((W1.alloc (.map #[] 0)).setCell ⟨gd,q,none⟩ (.map (some W1.heap.size)))/\(∀b∈ddF gd (D.set q (some W1.heap.size)),b∈ddF gd D\/w.heap.size<=b)/\CBox w.heap.size _ 186 ((W1.alloc (.map #[] 0)).setCell ⟨gd,q,none⟩ (.map (some W1.heap.size)))):=hZq (by
    refine ⟨D2.set (some W1.heap.size) (fun b hb=>?_),?_,(((uQ HK1).trans k2 (by simp)).mono (by simp)).trans (Kp.set _ _ _ _) (fun x hx=>Or.inl (by rw[List.mem_singleton]at hx;rw[hx];unfold ddF;simp)),uQ HG0 _ (fun i b hb=>?_),p2.kp (Kp.set _ _ _ _) (by rw[List.mem_singleton];omega)⟩
    ·cases hb
     refine ⟨by omega,hS2,fun i hi=>?_⟩
     have:=(uQ HD1).lt (q2t (gd:=gd) hi)
     omega
    ·rw[List.getElem?_set,if_pos rfl,if_pos (by rw[(uQ HD).len];exact hq)]
    ·rw[List.getElem?_set]at hb
     split at hb
     ·split at hb
      ·have:=Option.some.inj (Option.some.inj hb)
       exact Or.inr (by omega)
      ·cases hb
     ·exact Or.inl hb)
   clear HD HD1 HK1 HP1 HG0 HOG HSB HHG HC ho k2 hz2 hS2 D2 p2 hz1
   go_wp2
   go_meet
   exact ⟨_,_,HF⟩
 case rest=>
 obtain ⟨D',b,HR⟩:=hcut
 obtain ⟨V,hV⟩: ∃V,V=wc.drew:=⟨_,rfl⟩
 have kV:Kp [] wc V:=by rw[hV];exact Kp.drew _
 obtain ⟨r1,r2,r3,r4,r5⟩:=uQ HR
 have d1:=r1.kp kV (by simp)
 obtain ⟨w9,hup,d9,k9⟩:=d1.put r2 ⟨fr,td,f⟩ (uQ HHG)
 unfold Spt.c at hup
 dsimp only at hup
 have HUP:=hZq hup
 have s1:V.cell? ⟨gs,3,none⟩=some (.slice (some ⟨gd,0,none⟩) N N):=uQ HC V ⟨_,r3.trans kV (by simp),uQ HOG D w (uQ HD) (uQ HSB)⟩
 have s2:=d1.at r2
 have p5:=r5.kp kV (by simp)
 have HFI:Hid (∃D',DdS gd N lo G D' w9/\Kp (ddF gd D) w w9/\ ∀b∈ddF gd D',b∈ddF gd D\/w.heap.size<=b):=hZq ⟨D',d9,(r3.trans kV (by simp)).trans k9 (fun x hx=>by rw[List.mem_singleton]at hx;rw[hx];exact r4 b (q2t r2)),r4⟩
 have t0:=p5.cell (i:=0) (v:= .int .i16 (fr:Int)) rfl
 have t1:=p5.cell (i:=1) (v:= .int .i16 (td:Int)) rfl
 have t2:=p5.cell (i:=2) (v:= .int .i16 (f 0:Int)) rfl
 have t3:=p5.cell (i:=3) (v:= .int .i16 (f 1:Int)) rfl
 have t4:=p5.cell (i:=4) (v:= .int .i16 (f 2:Int)) rfl
 have t5:=p5.cell (i:=5) (v:= .int .i16 (f 3:Int)) rfl
 have t6:=p5.cell (i:=6) (v:= .int .i16 (f 4:Int)) rfl
 have t7:=p5.cell (i:=7) (v:= .int .i16 (f 5:Int)) rfl
 have t8:=p5.cell (i:=8) (v:= .int .i16 (f 6:Int)) rfl
 have t9:=p5.cell (i:=9) (v:= .int .i16 (f 7:Int)) rfl
 have HS9:w9.cell? ⟨gs,3,none⟩=some (.slice (some ⟨gd,0,none⟩) N N)/\w9.cell? ⟨gd,q,none⟩=some (.map (some b))/\w9.cell? ⟨w.heap.size,0,none⟩=some (.int .i16 (fr:Int))/\w9.cell? ⟨w.heap.size,1,none⟩=some (.int .i16 (td:Int))/\w9.cell? ⟨w.heap.size,2,none⟩=some (.int .i16 (f 0:Int))/\w9.cell? ⟨w.heap.size,3,none⟩=some (.int .i16 (f 1:Int))/\w9.cell? ⟨w.heap.size,4,none⟩=some (.int .i16 (f 2:Int))/\w9.cell? ⟨w.heap.size,5,none⟩=some (.int .i16 (f 3:Int))/\w9.cell? ⟨w.heap.size,6,none⟩=some (.int .i16 (f 4:Int))/\w9.cell? ⟨w.heap.size,7,none⟩=some (.int .i16 (f 5:Int))/\w9.cell? ⟨w.heap.size,8,none⟩=some (.int .i16 (f 6:Int))/\w9.cell? ⟨w.heap.size,9,none⟩=some (.int .i16 (f 7:Int)):=by
  have h2:=(d1.mp q b r2).2
  obtain ⟨S0,hS0,_⟩:=h2
  have n1:gs≠b:=fun e=>uQ HOG D' V d1 ((uQ HSB).kp (r3.trans kV (by simp)) (fun hm=>uQ HOG D w (uQ HD) (uQ HSB) _ hm rfl)) b (q2t r2) e.symm
  have n2:gd≠b:=fun e=>hS0.ne d1.row e.symm
  have n3:w.heap.size≠b:=fun e=>hS0.ne p5 e.symm
  exact ⟨k9.cell s1 (by simpa using n1),k9.cell s2 (by simpa using n2),k9.cell t0 (by simpa using n3),k9.cell t1 (by simpa using n3),k9.cell t2 (by simpa using n3),k9.cell t3 (by simpa using n3),k9.cell t4 (by simpa using n3),k9.cell t5 (by simpa using n3),k9.cell t6 (by simpa using n3),k9.cell t7 (by simpa using n3),k9.cell t8 (by simpa using n3),k9.cell t9 (by simpa using n3)⟩
 clear HD HD1 HK1 HP1 HG0 HOG HSB HHG HC ho HR r1 r2 r3 r4 r5 d1 hup d9 k9 p5 kV c1 e1 qn
 go_upto_region 3 with fail
 refine wp_region_held_drew (S:=fun W=>W.cell? ⟨gs,3,none⟩=some (.slice (some ⟨gd,0,none⟩) N N)/\W.cell? ⟨gd,q,none⟩=some (.map (some b))/\W.cell? ⟨w.heap.size,0,none⟩=some (.int .i16 (fr:Int))/\W.cell? ⟨w.heap.size,1,none⟩=some (.int .i16 (td:Int))/\W.cell? ⟨w.heap.size,2,none⟩=some (.int .i16 (f 0:Int))/\W.cell? ⟨w.heap.size,3,none⟩=some (.int .i16 (f 1:Int))/\W.cell? ⟨w.heap.size,4,none⟩=some (.int .i16 (f 2:Int))/\W.cell? ⟨w.heap.size,5,none⟩=some (.int .i16 (f 3:Int))/\W.cell? ⟨w.heap.size,6,none⟩=some (.int .i16 (f 4:Int))/\W.cell? ⟨w.heap.size,7,none⟩=some (.int .i16 (f 5:Int))/\W.cell? ⟨w.heap.size,8,none⟩=some (.int .i16 (f 6:Int))/\W.cell? ⟨w.heap.size,9,none⟩=some (.int .i16 (f 7:Int))) (by kernel_rfl) (by rw[<-hV];exact ⟨s1,s2,t0,t1,t2,t3,t4,t5,t6,t7,t8,t9⟩) (fun hHeld=>?_)
 rw[<-hV]at hHeld ⊢
 clear hV
 show wpAnyH _ _ _ _ _ 10 (Array.replicate 10 false) _ _
 refine zzH (i:=0) (v:=?_) rfl (fun _ _ _ h=>h) (Or.inl ⟨by rfl,?_⟩) (by assumption) ?_
 rotate_left 1
 ·intro w0 hSw;(try dsimp only at hSw);go_simp;(try with_reducible rfl)
 try simp only[Act.put,zz1,zz2,zz3]
 refine zzH (i:=1) (v:=?_) rfl (fun _ _ _ h=>h) (Or.inl ⟨by rfl,?_⟩) (by assumption) ?_
 rotate_left 1
 ·intro w0 hSw;(try dsimp only at hSw);go_simp;(try with_reducible rfl)
 try simp only[Act.put,zz1,zz2,zz3]
 refine zzH (i:=2) (v:=?_) rfl (fun _ _ _ h=>h) (Or.inl ⟨by rfl,?_⟩) (by assumption) ?_
 rotate_left 1
 ·intro w0 hSw;(try dsimp only at hSw);go_simp;(try with_reducible rfl)
 try simp only[Act.put,zz1,zz2,zz3]
 refine zzH (i:=3) (v:=?_) rfl (fun _ _ _ h=>h) (Or.inl ⟨by rfl,?_⟩) (by assumption) ?_
 rotate_left 1
 ·intro w0 hSw;(try dsimp only at hSw);go_simp;(try with_reducible rfl)
 try simp only[Act.put,zz1,zz2,zz3]
 refine zzH (i:=4) (v:=?_) rfl (fun _ _ _ h=>h) (Or.inl ⟨by rfl,?_⟩) (by assumption) ?_
 rotate_left 1
 ·intro w0 hSw;(try dsimp only at hSw);go_simp;(try with_reducible rfl)
 try simp only[Act.put,zz1,zz2,zz3]
 refine zzH (i:=5) (v:=?_) rfl (fun _ _ _ h=>h) (Or.inl ⟨by rfl,?_⟩) (by assumption) ?_
 rotate_left 1
 ·intro w0 hSw;(try dsimp only at hSw);go_simp;(try with_reducible rfl)
 try simp only[Act.put,zz1,zz2,zz3]
 refine zzH (i:=6) (v:=?_) rfl (fun _ _ _ h=>h) (Or.inl ⟨by rfl,?_⟩) (by assumption) ?_
 rotate_left 1
 ·intro w0 hSw;(try dsimp only at hSw);go_simp;(try with_reducible rfl)
 try simp only[Act.put,zz1,zz2,zz3]
 refine zzH (i:=7) (v:=?_) rfl (fun _ _ _ h=>h) (Or.inl ⟨by rfl,?_⟩) (by assumption) ?_
 rotate_left 1
 ·intro w0 hSw;(try dsimp only at hSw);go_simp;(try with_reducible rfl)
 try simp only[Act.put,zz1,zz2,zz3]
 refine zzH (i:=8) (v:=?_) rfl (fun _ _ _ h=>h) (Or.inl ⟨by rfl,?_⟩) (by assumption) ?_
 rotate_left 1
 ·intro w0 hSw;(try dsimp only at hSw);go_simp;(try with_reducible rfl)
 try simp only[Act.put,zz1,zz2,zz3]
 refine wpAnyH_ready (rs:=[9]) (by kernel_rfl) (by simp) ?_
 refine AllReadyH.cons rfl (fun K hK=>?_) AllReadyH.nil
 go_simp
 rw[uQ HUP]
 simp only[Result.andThen_ok]
 rw[Oper.upon_skip]
 refine hK.out _ _ ?_ (fun hHeld=>?_)
 ·exact HS9
 clear hK K
 try simp only[Act.put]
 refine wpAnyH_done (by kernel_rfl) ?_ _
 go_end0
 exact ⟨⟨_,rfl⟩,uQ HFI⟩
open Go.RowKit
section
variable {P:Program} {ops:Array Oper} {Q:Exit->Act->World->Prop} {md:Region.Mode} {S:World->Prop} {lt:List Nat}
def gone (lt:List Nat)(listed:Array Bool):Bool:=lt.any fun j=>listed.getD j false
theorem gone_iff {listed:Array Bool}:gone lt listed=true↔ ∃j∈lt,listed.getD j false=true:=by unfold gone;rw[List.any_eq_true]
def q0r (P:Program)(md:Region.Mode)(ops:Array Oper)(Q:Exit->Act->World->Prop)(S:World->Prop)(lt:List Nat):Nat->Array Bool->Act->World->Prop
 |0,listed,a,w=>Region.ready md ops listed=[]/\Q .normal a w
 |fuel+1,listed,a,w=>
  (Region.ready md ops listed=[]->Q .normal a w)/\
  ∀i∈Region.ready md ops listed,wpOp P ops Q i (fun a' w'=>(gone lt (listed.setIfInBounds i true)=true\/S w')/\q0r P md ops Q S lt fuel (listed.setIfInBounds i true) a' w') a w
theorem q2B: ∀(fuel:Nat) (listed:Array Bool) (a:Act) (w:World),q0r P md ops Q S lt fuel listed a w->wpAny P md ops Q fuel listed a w
 |0,_,_,_,h=>h
 |fuel+1,_,_,_,h=>⟨h.1,fun i hi=>wpOp_mono (fun a' w' h'=>q2B fuel _ a' w' h'.2) (h.2 i hi)⟩
theorem q5O {listed:Array Bool}{i:Nat}(h:gone lt listed=true):gone lt (listed.setIfInBounds i true)=true:=by
 obtain ⟨j,hj,e⟩:=gone_iff.1 h
 refine gone_iff.2 ⟨j,hj,?_⟩
 by_cases hij:i=j
 ·subst hij
  have hlt:i<listed.size:=by
   rcases Nat.lt_or_ge i listed.size with h1|h1
   ·exact h1
   ·rw[Array.getD_eq_getD_getElem?,Array.getElem?_eq_none h1]at e;cases e
  simp[hlt]
 ·rw[getD_set_ne false hij];exact e
theorem q4T {listed:Array Bool}{i:Nat}(hi:i∉lt)(h:gone lt (listed.setIfInBounds i true)=true):gone lt listed=true:=by
 obtain ⟨j,hj,e⟩:=gone_iff.1 h
 refine gone_iff.2 ⟨j,hj,?_⟩
 rw[getD_set_ne false (fun e'=>hi (by rw[e'];exact hj))]at e
 exact e
theorem q3g {i:Nat}{oi:Oper}{v:Value}{S':World->Prop}(hi:ops[i]?=some oi)(hil:i∉lt)(hS':(∀w,S' w)\/(S'=S/\ ∀j∈lt,q1N md ops j i=true))(hsel: ∀(j:Nat) (o:Oper) cs b,ops[j]?=some o->o.op≠ .select cs b)
  (hQ: ∀c a w,Q (.panic c) (a.put oi.dst v) w->Q (.panic c) a w):
  ∀(fuel:Nat) (listed:Array Bool) (a:Act) (w:World),
   (∀j oj,ops[j]?=some oj->j≠i->listed.getD j true=false->(∀e∈oj.after,Region.binds md e=true->e.on≠i)->oi.apart ops oj=true)->
   i∈Region.ready md ops listed->YieldsIf P ops S' oi v a->S' w->((∀w,S' w)\/gone lt listed=false)->(gone lt listed=true\/S w)->
   q0r P md ops Q S lt fuel (listed.setIfInBounds i true) (a.put oi.dst v) w->q0r P md ops Q S lt (fuel+1) listed a w:=by
 intro fuel
 induction fuel with
 |zero=>
  intro listed a w _ hr hy hS _ hg H
  refine ⟨fun h=>(by rw[h]at hr;cases hr),fun j hj=>?_⟩
  by_cases hji:j=i
  ·subst hji;exact hy.wpOp hi hS ⟨hg.imp_left q5O,H⟩
  ·have:=ready_mono hj hji
   rw[H.1]at this
   cases this
 |succ fuel ih=>
  intro listed a w hfree hr hy hS hno hg H
  refine ⟨fun h=>(by rw[h]at hr;cases hr),fun j hj=>?_⟩
  by_cases hji:j=i
  ·subst hji;exact hy.wpOp hi hS ⟨hg.imp_left q5O,H⟩
  ·have h1:=H.2 j (ready_mono hj hji)
   obtain ⟨hjun,oj,hoj,hall⟩:=mem_ready.1 hj
   have hnot: ∀e∈oj.after,Region.binds md e=true->e.on≠i:=fun e he hb heq=>by
    have h1:=hall e he hb
    have h0:=(mem_ready.1 hr).1
    rw[heq]at h1
    rcases Nat.lt_or_ge i listed.size with h'|h'
    ·simp[h']at h0 h1;rw[h0]at h1;cases h1
    ·simp[Array.getElem?_eq_none h']at h1
   have h2:=wpOp_putIf hoj (hfree j oj hoj hji hjun hnot) (fun cs b=>hsel i oi cs b hi) (fun cs b=>hsel j oj cs b hoj) hQ hy h1
   have hfree': ∀k ok,ops[k]?=some ok->k≠i->(listed.setIfInBounds j true).getD k true=false->
     (∀e∈ok.after,Region.binds md e=true->e.on≠i)->oi.apart ops ok=true:=fun k ok hk hki hun hno=>by
    refine hfree k ok hk hki ?_ hno
    by_cases hjk:j=k
    ·subst hjk;exact hjun
    ·rw[getD_set_ne true hjk]at hun;exact hun
   refine wpOp_mono (fun a' w' h3=>?_) h2
   obtain ⟨hy3,hg3,h4⟩:=h3
   rw[Array.setIfInBounds_comm _ _ (fun e=>hji e.symm)]at hg3 h4
   have hg4:gone lt (listed.setIfInBounds j true)=true\/S w':=hg3.imp_left (q4T hil)
   have hno':(∀w,S' w)\/gone lt (listed.setIfInBounds j true)=false:=by
    rcases hS' with hS'|⟨rfl,hw⟩
    ·exact Or.inl hS'
    ·rcases hno with hno|hno
     ·exact Or.inl hno
     ·refine Or.inr ?_
      cases hc:gone lt (listed.setIfInBounds j true)with
      |false=>rfl
      |true=>
       have hjl:j∉lt:=fun hm=>by
        obtain ⟨e',he',hb',hon'⟩:=q4l hoj (hw j hm)
        exact hnot e' he' hb' hon'
       rw[q4T hjl hc]at hno
       cases hno
   refine ⟨hg4,ih (listed.setIfInBounds j true) a' w' hfree' (ready_mono hr (Ne.symm hji)) hy3 ?_ hno' hg4 h4⟩
   rcases hS' with hS'|⟨rfl,hw⟩
   ·exact hS' w'
   ·rcases hno' with hno'|hno'
    ·exact hno' w'
    ·rcases hg4 with hg4|hg4
     ·rw[hno']at hg4;cases hg4
     ·exact hg4
theorem q7b {i:Nat}{oi:Oper}{v:Value}{fuel:Nat}{listed:Array Bool}{a:Act}{w:World}(hi:ops[i]?=some oi)
  (hil:i∉lt) (hw:(lt.all fun j=>q1N md ops j i)=true) (hno:gone lt listed=false) (hs:Region.noSelect ops=true) (hf:Region.free md ops listed i=true) (hr:(Region.ready md ops listed).contains i=true)
  (hQ: ∀c a w,Q (.panic c) (a.put oi.dst v) w->Q (.panic c) a w) (hy:YieldsIf P ops S oi v a) (hS:S w)
  (h:q0r P md ops Q S lt fuel (listed.setIfInBounds i true) (a.put oi.dst v) w):q0r P md ops Q S lt (fuel+1) listed a w:=
 q3g hi hil (Or.inr ⟨rfl,fun j hj=>List.all_eq_true.1 hw j hj⟩) (Region.noSelect_spec hs) hQ fuel listed a w (Region.free_spec hi hf) (by simpa using hr) hy hS (Or.inr hno) (Or.inr hS) h
theorem q7a {i:Nat}{oi:Oper}{v:Value}{fuel:Nat}{listed:Array Bool}{a:Act}{w:World}(hi:ops[i]?=some oi)
  (hil:i∉lt) (hs:Region.noSelect ops=true) (hf:Region.free md ops listed i=true) (hr:(Region.ready md ops listed).contains i=true)
  (hQ: ∀c a w,Q (.panic c) (a.put oi.dst v) w->Q (.panic c) a w) (hy:YieldsIf P ops (fun _=>True) oi v a) (hS:gone lt listed=true\/S w)
  (h:q0r P md ops Q S lt fuel (listed.setIfInBounds i true) (a.put oi.dst v) w):q0r P md ops Q S lt (fuel+1) listed a w:=
 q3g (S':=fun _=>True) hi hil (Or.inl fun _=>trivial) (Region.noSelect_spec hs) hQ fuel listed a w (Region.free_spec hi hf) (by simpa using hr) hy trivial (Or.inl fun _=>trivial) hS h
theorem zzM {i:Nat}{oi:Oper}{v:Value}{fuel:Nat}{listed:Array Bool}{a:Act}{w:World}(hi:ops[i]?=some oi)(hQ:∀ c a w,Q (.panic c) (a.put oi.dst v) w->Q (.panic c) a w)(hy:YieldsIf P ops S oi v a)(hS:S w)(h:q0r P md ops Q S lt fuel (listed.setIfInBounds i true) (a.put oi.dst v) w)(hil:i∉lt:=by decide)(hw:(lt.all fun j=>q1N md ops j i)=true:=by kernel_rfl)(hno:gone lt listed=false:=by kernel_rfl)(hs:Region.noSelect ops=true:=by kernel_rfl)(hf:Region.free md ops listed i=true:=by kernel_rfl)(hr:(Region.ready md ops listed).contains i=true:=by kernel_rfl):q0r P md ops Q S lt (fuel+1) listed a w:=q7b hi hil hw hno hs hf hr hQ hy hS h
theorem zzN {i:Nat}{oi:Oper}{v:Value}{fuel:Nat}{listed:Array Bool}{a:Act}{w:World}(hi:ops[i]?=some oi)(hQ:∀ c a w,Q (.panic c) (a.put oi.dst v) w->Q (.panic c) a w)(hy:YieldsIf P ops (fun _=>True) oi v a)(hS:gone lt listed=true\/S w)(h:q0r P md ops Q S lt fuel (listed.setIfInBounds i true) (a.put oi.dst v) w)(hil:i∉lt:=by decide)(hs:Region.noSelect ops=true:=by kernel_rfl)(hf:Region.free md ops listed i=true:=by kernel_rfl)(hr:(Region.ready md ops listed).contains i=true:=by kernel_rfl):q0r P md ops Q S lt (fuel+1) listed a w:=q7a hi hil hs hf hr hQ hy hS h
theorem q4m {i:Nat}{o:Oper}{fuel:Nat}{listed:Array Bool}{a:Act}{w:World}(ho:ops[i]?=some o)(hr:Region.ready md ops listed=[i])
  (h: ∀K:Act->World->Prop,(∀a' w',(gone lt (listed.setIfInBounds i true)=true\/S w')->q0r P md ops Q S lt fuel (listed.setIfInBounds i true) a' w'->K a' w')->if Region.wanted o (yielded ops a.tmps)=true then Oper.wp P o a w K Q else K (a.put o.dst undef) w):q0r P md ops Q S lt (fuel+1) listed a w:=by
 refine ⟨fun h0=>(by rw[hr]at h0;cases h0),fun j hj=>?_⟩
 rw[hr,List.mem_singleton]at hj
 subst hj
 have:=h (fun a' w'=>(gone lt (listed.setIfInBounds j true)=true\/S w')/\q0r P md ops Q S lt fuel (listed.setIfInBounds j true) a' w') (fun a' w' h1 h2=>⟨h1,h2⟩)
 unfold wpOp
 rw[ho]
 dsimp only
 split
 ·rename_i hc
  rw[if_pos hc]at this
  exact Or.inl this
 ·rename_i hc
  rw[if_neg hc]at this
  exact this
theorem q79 {listed:Array Bool}{a:Act}{w:World}(hr:Region.ready md ops listed=[])(h:Q .normal a w): ∀fuel,q0r P md ops Q S lt fuel listed a w
 |0=>⟨hr,h⟩
 |_+1=>⟨fun _=>h,by rw[hr];simp⟩
theorem q4n (S:World->Prop)(lt:List Nat){id:Nat}{a:Act}{w:World}(hm:P.follows .mixedOrders=true)
  (h:q0r P .any ops Q S lt ops.size (Array.replicate ops.size false) a w.drew):(Code.region id ops true).wp P Q a w:=wp_region_any hm (q2B _ _ _ _ h)
end
open Go.RowKit Go.Shelf
theorem OwnsX.pop {w:World}{g n cap:Nat}{L:List Ev}{e:Ev}(h:OwnsX 0 w (.slice (some ⟨g,0,none⟩) (n+1) cap) (L++[e])):L.length=n/\OwnsX 0 w (.slice (some ⟨g,0,none⟩) n cap) L:=by
 have hn:(L++[e]).length=n+1:=by
  obtain ⟨_,⟨e,_⟩|⟨g',cap',cur',e,_⟩⟩:=h
  ·cases e
  ·injection e with _ e2 _;omega
 have hp:L.length=n:=by rw[List.length_append]at hn;simpa using hn
 refine ⟨hp,?_⟩
 unfold OwnsX at h ⊢
 rw[hn,List.flatMap_append]at h
 have:=ownsRow_pop (n:=n) (by rw[q1q];omega) h
 rw[hp]
 exact this
section
variable {k:HK} {w:World} {A:List (List Nat)} {L:List Ev} {pv lv:Value} {vs:List Value}
theorem HkS.popB {x:List Nat}{e:Ev}{gp cp gl cl:Nat}(hI:HkI k)(h:HkS k w (A++[x]) (L++[e]) (.slice (some ⟨gp,0,none⟩) (A.length+1) cp) (.slice (some ⟨gl,0,none⟩) (L.length+1) cl) vs):
  HkN k w (hkF k (.slice (some ⟨gp,0,none⟩) (A.length+1) cp) (.slice (some ⟨gl,0,none⟩) (L.length+1) cl) vs) A L (.slice (some ⟨gp,0,none⟩) A.length cp) (.slice (some ⟨gl,0,none⟩) L.length cl) vs.dropLast ((w.setCell ⟨k.gt,4,none⟩ (.slice (some ⟨gp,0,none⟩) A.length cp)).setCell ⟨k.gt,5,none⟩ (.slice (some ⟨gl,0,none⟩) L.length cl)):=by
 have hks:Kp [k.gt] w ((w.setCell ⟨k.gt,4,none⟩ (.slice (some ⟨gp,0,none⟩) A.length cp)).setCell ⟨k.gt,5,none⟩ (.slice (some ⟨gl,0,none⟩) L.length cl)):=(Kp.set _ _ _ _).trans (Kp.set _ _ _ _) (by simp)
 have hp:=h.pl.pop.2
 rw[List.dropLast_concat]at hp
 have hsub: ∀y∈plB (.slice (some ⟨gp,0,none⟩) A.length cp) vs.dropLast,y∈plB (.slice (some ⟨gp,0,none⟩) (A.length+1) cp) vs:=fun y hy=>by
  rw[mem_plB]at hy ⊢
  rcases hy with hy|⟨u,hu,hy⟩
  ·exact Or.inl hy
  ·exact Or.inr ⟨u,List.dropLast_subset _ hu,hy⟩
 refine h.next hI (hp.kp hks (fun y hy hm=>?_)) ((h.box.set 4 _).set 5 _) (q02 h.la.pop.2 hks (fun y hy hm=>?_)) (hks.mono (fun y hy=>?_)) (fun y hy=>Or.inl ?_)
 ·rw[List.mem_singleton]at hm
  subst hm
  exact h.ne (by rw[List.mem_append];exact Or.inl (hsub _ hy))
 ·rw[List.mem_singleton]at hm
  subst hm
  simp[Value.ownBlock]at hy
  exact h.ne (by rw[List.mem_append];exact Or.inr (by simp[Value.ownBlock,hy]))
 ·rw[List.mem_singleton]at hy
  unfold hkF
  rw[hy]
  simp
 ·rw[List.mem_append]at hy ⊢
  rcases hy with hy|hy
  ·exact Or.inl (hsub y hy)
  ·exact Or.inr (by simpa [Value.ownBlock] using hy)
theorem HkS.less {l:List Nat}{q gp n cp gu cu:Nat}(hI:HkI k)(h:HkS k w (A++[l++[q]]) L (.slice (some ⟨gp,0,none⟩) n cp) lv vs)(hu:vs[A.length]?=some (.slice (some ⟨gu,0,none⟩) (l.length+1) cu)):
  HkN k w (hkF k (.slice (some ⟨gp,0,none⟩) n cp) lv vs) (A++[l]) L (.slice (some ⟨gp,0,none⟩) n cp) lv (vs.set A.length (.slice (some ⟨gu,0,none⟩) l.length cu)) (w.setCell ⟨gp,A.length,none⟩ (.slice (some ⟨gu,0,none⟩) l.length cu)):=by
 have hi:=h.pl.ins.2 A.length _ _ hu (q4g (l:=l++[q]) (by simp))
 rw[List.map_append]at hi
 have hi2:=hi.pop.2
 have hp:=h.pl.put hu (Kp.refl _ w) hi2 (Or.inl rfl)
 rw[q21 _ _ _ _ rfl]at hp
 have hks:=Kp.set w gp A.length (.slice (some ⟨gu,0,none⟩) l.length cu)
 have hgm:gp∈plB (.slice (some ⟨gp,0,none⟩) n cp) vs:=mem_plB.2 (Or.inl rfl)
 refine h.next hI hp (h.box.kp hks (fun hm=>?_)) (q02 h.la hks (fun y hy hm=>?_)) (hks.mono (fun y hy=>?_)) (fun y hy=>Or.inl ?_)
 ·rw[List.mem_singleton]at hm
  exact h.ne (by rw[hm,List.mem_append];exact Or.inl hgm)
 ·rw[List.mem_singleton]at hm
  subst hm
  exact h.ne2 y (by rw[hy];simp) hgm
 ·rw[List.mem_singleton]at hy
  unfold hkF
  rw[hy,List.mem_cons,List.mem_append]
  exact Or.inr (Or.inl hgm)
 ·rw[List.mem_append]at hy ⊢
  rcases hy with hy|hy
  ·refine Or.inl ?_
   rw[mem_plB]at hy ⊢
   rcases hy with hy|⟨u,hu2,hy⟩
   ·exact Or.inl hy
   ·rcases List.mem_or_eq_of_mem_set hu2 with hu2|rfl
    ·exact Or.inr ⟨u,hu2,hy⟩
    ·exact Or.inr ⟨_,List.mem_of_getElem? hu,hy⟩
  ·exact Or.inr hy
end
end Go.Proofs.YtcmjnlpofebbmaaGreatDoor
