/-
  Walks and plain facts, made small.
-/
import Derived.Test.YtcmjnlpofebbmaaGreatDoorMa21
set_option maxRecDepth 100000
set_option maxHeartbeats 8000000
set_option linter.unusedSimpArgs false
namespace Go.Proofs.YtcmjnlpofebbmaaGreatDoor
open Go.RowKit Go.Shelf
theorem q5b (v:Value)(l:List Nat)(x:Int)(w:World)(hl:l.length<=1000000)(h:IRo w v (l.map Int.ofNat)):
  Calls Tryz.prog 120 #[v, .int .i64 x] w fun e w'=>e= .returned (.bool ((l.map Int.ofNat).contains x))/\w'=w:=by
 obtain ⟨a,c,rfl,hat⟩:=h.at
 by_cases h0:l=[]
 ·subst h0
  exact Tryz.slices_Contains_int_empty a c x w
 ·obtain ⟨b,off,rfl,_,hc⟩:=hat (fun e=>h0 (List.map_eq_nil_iff.1 e))
  have:=Tryz.slices_Contains_int b off (l.map Int.ofNat).length c (l.map Int.ofNat) x w (Nat.le_refl _) (by rw[List.length_map];omega) (fun j hj=>by
   rw[hc j hj,List.getD_eq_getElem?_getD,List.getElem?_eq_getElem hj]
   rfl)
  rw[List.take_length]at this
  exact this
theorem q5A (l:List Nat)(i:Nat):(l.map Int.ofNat).contains (i:Int)=decide (i∈l):=by
 by_cases h:i∈l
 ·rw[decide_eq_true h,List.contains_iff_mem]
  exact List.mem_map.2 ⟨i,h,rfl⟩
 ·rw[decide_eq_false h]
  cases hc:(l.map Int.ofNat).contains (i:Int)with
  |false=>rfl
  |true=>
   exfalso
   rw[List.contains_iff_mem]at hc
   obtain ⟨j,hj,e⟩:=List.mem_map.1 hc
   have:j=i:=Int.ofNat.inj e
   exact h (by rw[<-this];exact hj)
structure AbS (w:World)(fr:Nat)(v:Value)(bs:List Nat)(G:Nat->Prop)(m:Nat)(wr:World):Prop where
 row:IRo wr v (bs.map Int.ofNat)
 nw: ∀b,v.ownBlock=some b->w.heap.size<=b
 lt: ∀i∈bs,i<fr
 al: ∀i,G i->i<fr->i∈bs
 ln:bs.length<=m
 kp:Kp [] w wr
theorem AbS.go {w wr w':World}{fr m:Nat}{v:Value}{bs:List Nat}{G:Nat->Prop}(h:AbS w fr v bs G m wr)(hk:Kp [] wr w'):AbS w fr v bs G m w':=⟨h.row.kp hk (by simp),h.nw,h.lt,h.al,h.ln,h.kp.trans hk (by simp)⟩
theorem AbS.any {w wr:World}{fr m m':Nat}{v:Value}{bs:List Nat}{G G':Nat->Prop}(h:AbS w fr v bs G m wr)(hG: ∀i,G' i->i<fr->G i\/i∈bs)(hm:m<=m'):AbS w fr v bs G' m' wr:=⟨h.row,h.nw,h.lt,fun i hi hlt=>(hG i hi hlt).elim (fun x=>h.al i x hlt) id,Nat.le_trans h.ln hm,h.kp⟩
theorem AbS.app {w wr:World}{fr m:Nat}{v:Value}{bs:List Nat}{G:Nat->Prop}(h:AbS w fr v bs G m wr)(i:Nat)(hi:i<fr){g c:Nat}(hz:CBox g #[.int .i64 (i:Int)] 3 wr)(hm:m<=100000)(ty:TypeId):
  ∃g' cap w',(Builtin.append_ #[38,38] ty #[v, .slice (some ⟨g,0,none⟩) 1 c]).run Tryz.prog wr= .ok (.slice (some ⟨g',0,none⟩) (bs.length+1) cap) w'/\AbS w fr (.slice (some ⟨g',0,none⟩) (bs.length+1) cap) (bs++[i]) (fun j=>G j\/j=i) (m+1) w'/\Kp v.ownBlock.toList wr w'/\(v.ownBlock=some g'\/wr.heap.size<=g'):=by
 have hln:=h.ln
 have hll:(bs.map Int.ofNat).length=bs.length:=List.length_map _
 obtain ⟨g',cap,w',hrun,r1,r2,r3⟩:=h.row.app (i:Int) (c:=c) hz (by rw[hll];omega) ty
 rw[hll]at hrun r1
 have hks:=h.kp.size
 refine ⟨g',cap,w',hrun,⟨by rw[List.map_append];exact r1,fun b hb=>?_,fun j hj=>?_,fun j hj hlt=>?_,by rw[List.length_append];simp;omega,h.kp.trans r2 (fun x hx=>Or.inr (h.nw x (by simpa using hx)))⟩,r2,r3⟩
 ·simp[Value.ownBlock]at hb
  subst hb
  exact r3.elim (h.nw _) (fun e=>by omega)
 ·rw[List.mem_append,List.mem_singleton]at hj
  exact hj.elim (h.lt j) (fun e=>by omega)
 ·rw[List.mem_append,List.mem_singleton]
  exact hj.imp (fun x=>h.al j x hlt) id
theorem qef (b o n c t:Nat)(h:t<n)(hc:n<=c)(W:World):(Instr.slice 22 (.slice (some ⟨b,o,none⟩) n c) (some (.int .i64 (t:Int))) none none).run Tryz.prog W= .ok (.slice (some ⟨b,o+t * 4,none⟩) (n-t) (c-t)) W:=by
 have h3:(t:Int)<=(n:Int):=by omega
 have h4: ¬ c=t:=by omega
 simp[Instr.slice,Instr.sliceBounds,run_underlying Tryz.underlying22,Tryz.sizeOf86,go_sem,h3,h4,Go.WideShapes.add_plain]
theorem q3T (sa:Option Addr)(sc:Nat)(l:List SR)(wi:Int)(fr td:Nat)(w:World)(h:StsAt w sa l)(hp:(pcR ⟨stgs l,wi⟩).2=0)(hT:TbE w)(hfit: ∀r∈l, ∀q∈r.s.cd,q.fit)(hsc:l.length<=sc)(hto:td<l.length):
  Calls Tryz.prog 103 #[.agg #[.slice sa l.length sc, .int .i64 wi], .int .i64 (fr:Int), .int .i64 (td:Int)] w fun e w'=> ∃v bs,e= .returned v/\AbS w fr v bs (fun i=> ∃t,td<=t/\t<l.length/\i∈asT (stgs l) t) 2000 w':=by
 have h8:l.length<=8:=by have:=(q1s hp).2.1;rw[show (⟨stgs l,wi⟩:Ptn).ss.length=l.length from q03 l]at this;exact this
 obtain ⟨sb,so,rfl,hsbl, -⟩:=h (fun e=>by rw[e]at hto;simp at hto)
 have k1:=Kp.alloc w (.cells #[.slice (some ⟨sb,so,none⟩) l.length sc, .int .i64 wi] 24)
 have p0:=CBox.new w #[.slice (some ⟨sb,so,none⟩) l.length sc, .int .i64 wi] 24
 have HP:Hid (∀W,Kp [] (w.alloc (.cells #[.slice (some ⟨sb,so,none⟩) l.length sc, .int .i64 wi] 24)) W->W.cell? ⟨w.heap.size,0,none⟩=some (.slice (some ⟨sb,so,none⟩) l.length sc)/\W.cell? ⟨w.heap.size,1,none⟩=some (.int .i64 wi)/\Kp [] w W):=hZq (fun W hk=>⟨(p0.kp hk (by simp)).cell rfl,(p0.kp hk (by simp)).cell rfl,k1.trans hk (by simp)⟩)
 have HST:Hid (∀(i:Nat) (hi:i<l.length) W (hk:Kp [] w W),W.cell? ⟨sb,so+i * 4,none⟩=some (.string l[i].s.nm)/\W.cell? ⟨sb,so+i * 4+1,none⟩=some (.int .i64 l[i].s.hw)/\W.cell? ⟨sb,so+i * 4+2,none⟩=some (.bool l[i].s.mn)/\W.cell? ⟨sb,so+i * 4+3,none⟩=some (.slice l[i].ad l[i].s.cd.length l[i].c)/\PtsAt W l[i].ad l[i].s.cd):=hZq (fun i hi W hk=>by
  obtain ⟨b2,o2,e, -,hh⟩:=(h.kp hk).at i hi
  cases e
  exact hh)
 have HSA:=hZq (fun (i:Nat) (hi:i<l.length) W' (hk:Kp [] w W') (hpt:PtsAt W' l[i].ad l[i].s.cd)=>q2e (some ⟨sb,so,none⟩) sc l wi l[i].s.nm l[i].s.hw l[i].s.mn l[i].ad l[i].c l[i].s.cd W' (h.kp hk) h8 hpt (hT.kp hk (by simp)) (hfit _ (List.getElem_mem hi)))
 have HAZ:Hid (∀(i:Nat) (hi:i<l.length),asZ l l[i].s.cd=(asT (stgs l) i).map Int.ofNat):=hZq (fun i hi=>q8L hp hi)
 have HAL:Hid (∀i,(asT (stgs l) i).length<=200):=hZq (fun i=>by
  unfold asT
  cases (stgs l)[i]? with
  |none=>simp
  |some s=>
   dsimp only
   rw[List.length_map]
   exact q3O s.cd)
 have r0:=qef sb so l.length sc td hto hsc
 obtain ⟨c0, -, -⟩:=uQ HP _ (Kp.refl _ _)
 have H0:Hid (AbS (w.alloc (.cells #[.slice (some ⟨sb,so,none⟩) l.length sc, .int .i64 wi] 24)) fr (.slice none 0 0) [] (fun i=> ∃t,td<=t/\t<td+0/\i∈asT (stgs l) t) (0 * 200) (w.alloc (.cells #[.slice (some ⟨sb,so,none⟩) l.length sc, .int .i64 wi] 24))):=hZq ⟨IRo.nil _,by simp[Value.ownBlock],by simp,fun i ⟨t,h1,h2,_⟩ _=>by omega,by simp,Kp.refl _ _⟩
 clear h hT hfit k1 p0 hp
 generalize stgs l=SS at *
 obtain ⟨n,hn⟩: ∃n,l.length=n:=⟨_,rfl⟩
 have HN:=hZq hn
 rw[hn]at h8 hsc hto r0 c0 H0 HP ⊢
 clear hn
 obtain ⟨m,hm⟩: ∃m,m=n-td:=⟨_,rfl⟩
 rw[<-hm]at r0
 have hmn:td+m=n:=by omega
 obtain ⟨Wp,hWp⟩: ∃Wp,Wp=w.alloc (.cells #[.slice (some ⟨sb,so,none⟩) n sc, .int .i64 wi] 24):=⟨_,rfl⟩
 rw[<-hWp]at HP H0
 have hWs:w.heap.size<=Wp.heap.size:=(uQ HP _ (Kp.refl _ _)).2.2.size
 go_enter Tryz.func103,Tryz.ntmps103
 go_wp2_with fail
 go_loopw [7,17] (fun ov iv wr=> ∃(j:Nat) (a:Option Addr) (c L:Nat) (bs:List Nat),j<=m/\iv= .int .i64 (j:Int)/\ov= .slice a L c/\Hid (L=bs.length)/\Hid (AbS Wp fr (.slice a L c) bs (fun i=> ∃t,td<=t/\t<td+j/\i∈asT SS t) (j * 200) wr)) (fun _ iv _=>m-(intOf iv).toNat)
 case atStart=>exact ⟨0,none,0,0,[],Nat.zero_le _,rfl,rfl,hZq rfl,by rw[<-hWp];exact H0⟩
 case round=>
  obtain ⟨j,a,c,L,bs,hj,rfl,rfl,HL,HC⟩:=hrel
  clear H0 hWp c0 r0
  by_cases hlt:j<m
  ·have hjT:td+j<l.length:=by rw[uQ HN];omega
   have hli:(j:Int)<(m:Int):=by omega
   have hAb:=uQ HC
   have hkp:=hAb.kp
   have hkw:=(uQ HP wr hkp).2.2
   obtain ⟨s0,s1,s2,s3,hpt⟩:=uQ HST (td+j) hjT wr hkw
   rw[show so+(td+j) * 4=so+td * 4+j * 4 by rw[Nat.add_mul];omega]at s0 s1 s2 s3
   have SA0:=fun W' (hk:Kp [] wr W')=>uQ HSA (td+j) hjT W' (hkw.trans hk (by simp)) (hpt.kp hk)
   have haz:=uQ HAZ (td+j) hjT
   have hal:=uQ HAL (td+j)
   generalize l[td+j]=r at *
   obtain ⟨⟨rnm,rhw,rmn,rcd⟩,rad,rc⟩:=r
   dsimp only at s0 s1 s2 s3 SA0 hpt haz
   rw[haz,uQ HN]at SA0
   have ka:=Kp.alloc wr (.cells #[.string rnm, .int .i64 rhw, .bool rmn, .slice rad rcd.length rc] 86)
   have hsb:=CBox.new wr #[.string rnm, .int .i64 rhw, .bool rmn, .slice rad rcd.length rc] 86
   have z0:=hsb.cell (i:=0) (v:= .string rnm) rfl
   have z1:=hsb.cell (i:=1) (v:= .int .i64 rhw) rfl
   have z2:=hsb.cell (i:=2) (v:= .bool rmn) rfl
   have z3:=hsb.cell (i:=3) (v:= .slice rad rcd.length rc) rfl
   obtain ⟨p0,p1, -⟩:=uQ HP _ (hkp.trans ka (by simp))
   have SA:=hZq (SA0 _ ka)
   have HAB:=hZq hAb
   obtain ⟨TT,hTT⟩: ∃TT,TT=asT SS (td+j):=⟨_,rfl⟩
   rw[<-hTT]at SA hal
   have HTT:=hZq hTT
   generalize rcd.length=xn at *
   clear HSA HST HAZ HAL SA0 hpt haz HC hkp hAb hkw hsb hTT
   have hwlt:wr.heap.size<(wr.alloc (.cells #[.string rnm, .int .i64 rhw, .bool rmn, .slice rad xn rc] 86)).heap.size:=by simp
   go_wp2_with fail
   refine (uQ SA).mono ?_
   rintro e w2 ⟨v2,rfl,hI2,hB2,hk2⟩
   have hkW2:Kp [] wr w2:=ka.trans hk2 (by simp)
   obtain ⟨a2,c2,rfl⟩: ∃a c,v2= .slice a TT.length c:=by
    obtain ⟨a,c,e,_⟩:=hI2.at
    rw[List.length_map]at e
    exact ⟨a,c,e⟩
   have HAB2:=hZq ((uQ HAB).go hkW2)
   have HI2:Hid (IRo w2 (.slice a2 TT.length c2) (TT.map Int.ofNat)/\ ∀b,(Value.slice a2 TT.length c2).ownBlock=some b->(Value.slice a L c).ownBlock≠some b):=hZq ⟨hI2,fun b hb hb2=>by
    have h1:=hB2 b hb
    have h2:=(uQ HAB).row.lt hb2
    simp at h1
    omega⟩
   clear SA hk2 hB2 HAB ka hI2 hkW2 z0 z1 z2 z3 p0 p1 s0 s1 s2 s3 hwlt
   obtain ⟨tn,htn⟩: ∃tn,TT.length=tn:=⟨_,rfl⟩
   have HTN:=hZq htn
   rw[htn]at hal HI2 ⊢
   clear htn
   go_wp2_with fail
   go_loopw [7,25] (fun ov iv wr=> ∃(jj:Nat) (a:Option Addr) (c L:Nat) (bs:List Nat),jj<=tn/\iv= .int .i64 (jj:Int)/\ov= .slice a L c/\Hid (L=bs.length)/\Hid ((IRo wr (.slice a2 tn c2) (TT.map Int.ofNat)/\ ∀b,(Value.slice a2 tn c2).ownBlock=some b->(Value.slice a L c).ownBlock≠some b)/\AbS Wp fr (.slice a L c) bs (fun i=>(∃t,td<=t/\t<td+j/\i∈asT SS t)\/i∈TT.take jj) (j * 200+jj) wr)) (fun _ iv _=>tn-(intOf iv).toNat)
   case atStart=>exact ⟨0,a,c,L,bs,Nat.zero_le _,rfl,rfl,HL,hZq ⟨uQ HI2,(uQ HAB2).any (fun i hi _=>hi.elim Or.inl (fun h=>by simp at h)) (by omega)⟩⟩
   case round=>
    obtain ⟨jj,a,c,L,bs,hjj,rfl,rfl,HL2,HC2⟩:=hrel
    clear HAB2 HL HI2
    by_cases hltt:jj<tn
    ·have hjT2:jj<TT.length:=by rw[uQ HTN];exact hltt
     have hli2:(jj:Int)<(tn:Int):=by omega
     obtain ⟨hk3,hA3⟩:=uQ HC2
     obtain ⟨gb,go,rfl,x0⟩: ∃gb go,a2=some ⟨gb,go,none⟩/\wr.cell? ⟨gb,go+jj,none⟩=some (.int .i64 (TT[jj]:Int)):=by
      have hI3:=hk3.1
      obtain ⟨a,c,e,hat⟩:=hI3.at
      injection e with e1 _ _
      subst e1
      obtain ⟨gb,go,e,_,hc⟩:=hat (fun e=>by have:=congrArg List.length e;rw[List.length_map]at this;have h0:([]:List Int).length=0:=rfl;omega)
      refine ⟨gb,go,e,?_⟩
      have:=hc jj (by rw[List.length_map];exact hjT2)
      rw[List.getElem_map]at this
      exact this
     have HTK:Hid (TT.take (jj+1)=TT.take jj++[TT[jj]]):=hZq (by rw[List.take_add_one,List.getElem?_eq_getElem hjT2];rfl)
     have hbl:bs.length<=3000:=by have:=hA3.ln;have:j * 200<=8 * 200:=Nat.mul_le_mul_right _ (by omega);omega
     have HA3:=hZq hA3
     have HK3:=hZq hk3
     have HCT:=hZq (q5b (.slice a L c) bs (TT[jj]:Int) wr (by omega) hA3.row)
     rw[q5A]at HCT
     generalize TT[jj]=ii at *
     clear hA3 hk3 HC2
     by_cases hif:ii<fr
     ·have hif1:(ii:Int)<(fr:Int):=by omega
      by_cases hin:ii∈bs
      ·rw[decide_eq_true hin]at HCT
       have HF:Hid ((IRo wr (.slice (some ⟨gb,go,none⟩) tn c2) (TT.map Int.ofNat)/\ ∀b,(Value.slice (some ⟨gb,go,none⟩) tn c2).ownBlock=some b->(Value.slice a L c).ownBlock≠some b)/\AbS Wp fr (.slice a L c) bs (fun i=>(∃t,td<=t/\t<td+j/\i∈asT SS t)\/i∈TT.take (jj+1)) (j * 200+(jj+1)) wr):=hZq ⟨uQ HK3,(uQ HA3).any (fun i hi _=>by
        rcases hi with hi|hi
        ·exact Or.inl (Or.inl hi)
        ·rw[uQ HTK,List.mem_append,List.mem_singleton]at hi
         exact hi.elim (fun h=>Or.inl (Or.inr h)) (fun e=>Or.inr (by rw[e];exact hin))) (by omega)⟩
       clear HTK HA3 HK3 hin
       go_wp2_with fail
       refine (uQ HCT).mono ?_
       rintro e w5 ⟨rfl,rfl⟩
       clear HCT
       go_wp2
       go_roundw
       case rel=>exact ⟨jj+1,a,c,L,bs,by omega,by go_num,rfl,HL2,HF⟩
       case measure=>simp[intOf];omega
      ·rw[decide_eq_false hin]at HCT
       have kz:=Kp.alloc wr (.cells #[.int .i64 (ii:Int)] 3)
       obtain ⟨g',cap',w6,hrun,hA6,hk6,hor6⟩:=((uQ HA3).go kz).app ii hif (g:=wr.heap.size) (c:=1) (CBox.new wr _ _) (by have:j * 200<=8 * 200:=Nat.mul_le_mul_right _ (by omega);omega) 38
       have hll:L=bs.length:=uQ HL2
       have HF:Hid ((IRo w6 (.slice (some ⟨gb,go,none⟩) tn c2) (TT.map Int.ofNat)/\ ∀b,(Value.slice (some ⟨gb,go,none⟩) tn c2).ownBlock=some b->(Value.slice (some ⟨g',0,none⟩) (L+1) cap').ownBlock≠some b)/\AbS Wp fr (.slice (some ⟨g',0,none⟩) (L+1) cap') (bs++[ii]) (fun i=>(∃t,td<=t/\t<td+j/\i∈asT SS t)\/i∈TT.take (jj+1)) (j * 200+(jj+1)) w6):=by
        have hI5:=uQ HK3
        rw[hll]
        refine hZq ⟨⟨(hI5.1.kp kz (by simp)).kp hk6 (fun b hb hm=>hI5.2 b hb (by simpa using hm)),fun b hb hb2=>?_⟩,hA6.any (fun i hi _=>?_) (by omega)⟩
        ·simp only[Value.ownBlock,Option.some.injEq]at hb2
         rcases hor6 with h6|h6
         ·exact hI5.2 b hb (by rw[h6,hb2])
         ·have h7:=hI5.1.lt hb
          simp at h6
          omega
        ·rcases hi with hi|hi
         ·exact Or.inl (Or.inl (Or.inl hi))
         ·rw[uQ HTK,List.mem_append,List.mem_singleton]at hi
          exact hi.elim (fun h=>Or.inl (Or.inl (Or.inr h))) (fun e=>Or.inl (Or.inr e))
       rw[<-hll]at hrun
       have HRUN:=hZq hrun
       have HLN:Hid (L+1=(bs++[ii]).length):=hZq (by rw[List.length_append,hll];rfl)
       clear hll hrun hA6 hk6 hor6 kz HTK HA3 HK3 hin hbl
       go_wp2_with fail
       refine (uQ HCT).mono ?_
       rintro e w5 ⟨rfl,rfl⟩
       clear HCT
       go_wp2_with (at_builtin;refine q0e rfl _ _ _ rfl rfl rfl (uQ HRUN) ?_)
       go_roundw
       case rel=>exact ⟨jj+1,_,cap',L+1,bs++[ii],by omega,by go_num,rfl,HLN,HF⟩
       case measure=>simp[intOf];omega
     ·have hif1: ¬ (ii:Int)<(fr:Int):=by omega
      have hif2:((ii:Int)<(fr:Int))=False:=eq_false hif1
      have HF:Hid ((IRo wr (.slice (some ⟨gb,go,none⟩) tn c2) (TT.map Int.ofNat)/\ ∀b,(Value.slice (some ⟨gb,go,none⟩) tn c2).ownBlock=some b->(Value.slice a L c).ownBlock≠some b)/\AbS Wp fr (.slice a L c) bs (fun i=>(∃t,td<=t/\t<td+j/\i∈asT SS t)\/i∈TT.take (jj+1)) (j * 200+(jj+1)) wr):=hZq ⟨uQ HK3,(uQ HA3).any (fun i hi hlt=>by
       rcases hi with hi|hi
       ·exact Or.inl (Or.inl hi)
       ·rw[uQ HTK,List.mem_append,List.mem_singleton]at hi
        exact hi.elim (fun h=>Or.inl (Or.inr h)) (fun e=>by omega)) (by omega)⟩
      clear HTK HA3 HK3 HCT
      go_wp2
      go_roundw
      case rel=>exact ⟨jj+1,a,c,L,bs,by omega,by go_num,rfl,HL2,HF⟩
      case measure=>simp[intOf];omega
    ·obtain rfl:jj=tn:=by omega
     obtain ⟨hk3,hA3⟩:=uQ HC2
     have HF:Hid (AbS Wp fr (.slice a L c) bs (fun i=> ∃t,td<=t/\t<td+(j+1)/\i∈asT SS t) ((j+1) * 200) wr):=hZq (hA3.any (fun i hi _=>by
      obtain ⟨t,h1,h2,h3⟩:=hi
      rcases Nat.lt_or_ge t (td+j)with h4|h4
      ·exact Or.inl (Or.inl ⟨t,h1,h4,h3⟩)
      ·have:t=td+j:=by omega
       rw[this, <-uQ HTT]at h3
       exact Or.inl (Or.inr (by rw[<-uQ HTN,List.take_length];exact h3))) (by omega))
     clear HC2 hk3 hA3
     go_wp2
     go_roundw
     case rel=>exact ⟨j+1,a,c,L,bs,by omega,by go_num,rfl,HL2,HF⟩
     case measure=>simp[intOf];omega
  ·obtain rfl:j=m:=by omega
   have hC0:=uQ HC
   have hC:AbS w fr (.slice a L c) bs (fun i=> ∃t,td<=t/\t<td+j/\i∈asT SS t) (j * 200) wr:=⟨hC0.row,fun b hb=>Nat.le_trans hWs (hC0.nw b hb),hC0.lt,hC0.al,hC0.ln,(uQ HP wr hC0.kp).2.2⟩
   clear HC HST HSA HAZ HAL HP hC0
   go_wp2
   go_ret
   refine ⟨_,bs,rfl,hC.any (fun i hi _=>?_) (by have:j * 200<=8 * 200:=Nat.mul_le_mul_right _ (by omega);omega)⟩
   obtain ⟨t,h1,h2,h3⟩:=hi
   exact Or.inl ⟨t,h1,by omega,h3⟩
open Go.RowKit
theorem q0E {P:Program}{fn:Func}{p u:Tmp}{ty:TypeId}(h:fn.results=#[.cell p ty, .tmp u])(tmps:Array Value)(w:World)(g:Nat)(t:TypeId)(cs:Array Value)(fr:Nat × Nat)(d:TypeDesc)
  (hp:tmps.getD p undef= .pointer (some ⟨g,0,none⟩)) (hg:w.heap[g]?=some (.cells cs t fr))
  (hu:P.underlying ty=some d) (hd:(match d with| .struct _| .array _ _=>true|_=>false)=true) (hi:(P.info? ty).map (·.size)=some cs.size):
  (results fn tmps).run P w= .ok (.tuple #[.agg cs,tmps.getD u undef]) w:=by
 rw[results_cell_tmp h,hp]
 simp[asAddr,run_loadVar_row w g t ty cs fr d hg hu hd hi]
open Go.RowKit
theorem eqF (d:Nat)(a c a' c':Int)(w:World):(Op.equalIn (d+2) 44 (.agg #[.int .i64 a, .int .i64 c]) (.agg #[.int .i64 a', .int .i64 c'])).run Tryz.prog w= .ok (a==a' && c==c') w:=by
 have hi:=fun (a b:Int) (w:World)=>run_equalIn_int (P:=Tryz.prog) w d 3 .i64 .i64 a b Tryz.underlying3
 have he:=fun (a b:Int) (w:World)=>run_equalIn_int (P:=Tryz.prog) w d 32 .i64 .i64 a b Tryz.underlying32
 unfold Op.equalIn
 simp only[Sem.run_bind,run_underlying Tryz.underlying44,Result.andThen_ok]
 simp[part,Tryz.sizeOf3,Tryz.sizeOf32,go_sem,hi,he]
 by_cases h0:a=a' <;> by_cases h1:c=c' <;> simp[h0,h1]
open Go.RowKit Go.Shelf
theorem q1G:(Tryz.prog.info? 136).map (·.size)=some 3:=by kernel_rfl
theorem q2G:(Tryz.prog.info? 175).map (·.size)=some 12:=by kernel_rfl
theorem eqN (d:Nat)(a b:Nd)(w:World):(Op.equalIn (d+2) 136 (.agg a.c) (.agg b.c)).run Tryz.prog w= .ok (ndE a b) w:=by
 obtain ⟨a0,a1,a2⟩:=a
 obtain ⟨b0,b1,b2⟩:=b
 have hi:=fun (a b:Int) (w:World)=>run_equalIn_int (P:=Tryz.prog) w d 3 .i64 .i64 a b Tryz.underlying3
 have hb:=fun (a b:Bool) (w:World)=>run_equalIn_bool (P:=Tryz.prog) w d 4 a b Tryz.underlying4
 unfold Op.equalIn Nd.c ndE
 simp only[Sem.run_bind,run_underlying Tryz.underlying136,Result.andThen_ok]
 simp[part,Tryz.sizeOf3,Tryz.sizeOf4,go_sem,hi,hb]
 by_cases h0:a0=b0 <;> cases a1 <;> cases b1 <;> cases a2 <;> cases b2 <;> simp[h0]
theorem CBox.set3 {g:Nat}{x y z:Value}{t:TypeId}{w:World}(h:CBox g #[x,y,z] t w)(a b c:Value):CBox g #[a,b,c] t (((w.setCell ⟨g,0,none⟩ a).setCell ⟨g,1,none⟩ b).setCell ⟨g,2,none⟩ c):=((h.set 0 a).set 1 b).set 2 c
theorem Kp.set3 (w:World)(g:Nat)(a b c:Value):Kp [g] w (((w.setCell ⟨g,0,none⟩ a).setCell ⟨g,1,none⟩ b).setCell ⟨g,2,none⟩ c):=
 ((Kp.set _ _ _ _).trans (Kp.set _ _ _ _) (by simp)).trans (Kp.set _ _ _ _) (by simp)
theorem q9v (w:World)(A:Obj)(x y z:Value)(t:TypeId):Kp [] w ((w.alloc A).alloc (.cells #[x,y,z] t))/\CBox (w.heap.size+1) #[x,y,z] t ((w.alloc A).alloc (.cells #[x,y,z] t)):=by
 refine ⟨(Kp.alloc _ _).trans (Kp.alloc _ _) (by simp),?_⟩
 have:=CBox.new (w.alloc A) #[x,y,z] t
 rwa [show (w.alloc A).heap.size=w.heap.size+1 by simp]at this
theorem q3a {w W:World}{g:Nat}{x y z:Value}{t:TypeId}(hk:Kp [] w W)(hg:w.heap.size<=g)(hb:CBox g #[x,y,z] t W)(a b c:Value):
  CBox g #[a,b,c] t (((W.setCell ⟨g,0,none⟩ a).setCell ⟨g,1,none⟩ b).setCell ⟨g,2,none⟩ c)/\Kp [] w (((W.setCell ⟨g,0,none⟩ a).setCell ⟨g,1,none⟩ b).setCell ⟨g,2,none⟩ c):=
 ⟨hb.set3 a b c,hk.trans (Kp.set3 W g a b c) (fun x hx=>Or.inr (by simp only[List.mem_singleton]at hx;omega))⟩
theorem q2f (sa:Option Addr)(sc:Nat)(l:List SR)(wi:Int)(s:Nat)(w:World)(h:StsAt w sa l)(hl:l.length<=9223372036854775807)(h1:1<=s)(h2:s<=l.length):
  Calls Tryz.prog 101 #[.agg #[.slice sa l.length sc, .int .i64 wi], .int .i64 (s:Int)] w fun e w'=>e= .returned (.agg (bgN (stgs l) s).c)/\Kp [] w w':=by
 obtain ⟨k,rfl⟩: ∃k,s=k+1:=⟨s-1,by omega⟩
 obtain ⟨b,off,rfl,hbl,x0,x1,x2,x3, -⟩:=h.at k (by omega)
 have hmn:mnAt (stgs l) k=l[k].s.mn:=by rw[qb7 (by rw[q03];omega),q16 (by omega)]
 have htk:(bgN (stgs l) (k+1)).c=#[.int .i64 ((k+1:Nat):Int), .bool l[k].s.mn, .bool (decide ((k+1:Nat)<l.length))]:=by
  unfold bgN Nd.c
  rw[Nat.add_sub_cancel,hmn,q03]
 have hdec:decide ((k+1:Nat)<l.length)=decide (((k+1:Nat):Int)<(l.length:Int)):=by
  rw[decide_eq_decide];omega
 rw[htk,hdec]
 have hli:(k:Int)<(l.length:Int):=by omega
 have hsub:IntKind.i64.wrap (((k+1:Nat):Int)-1)=(k:Int):=by simp only[IntKind.wrap_i64];omega
 obtain ⟨hk0,hb0⟩:=q9v w (.cells #[.slice (some ⟨b,off,none⟩) l.length sc, .int .i64 wi] 24) (.int .i64 0) (.bool false) (.bool false) 136
 have hp:=(CBox.new w #[.slice (some ⟨b,off,none⟩) l.length sc, .int .i64 wi] 24).kp (Kp.alloc _ (.cells #[.int .i64 0, .bool false, .bool false] 136)) (by simp)
 have p0:=hp.cell (i:=0) (v:= .slice (some ⟨b,off,none⟩) l.length sc) rfl
 have y2:=hk0.cell x2 (by simp)
 have z0:=hb0.froz 0
 have z1:=hb0.froz 1
 have z2:=hb0.froz 2
 have c0:=hb0.cell (i:=0) (v:= .int .i64 0) rfl
 have c1:=hb0.cell (i:=1) (v:= .bool false) rfl
 have c2:=hb0.cell (i:=2) (v:= .bool false) rfl
 have HE:=hZq (fun a b c=>q3a hk0 (by omega) hb0 a b c)
 generalize ((k+1:Nat):Int)=S at *
 clear h hmn htk hdec x0 x1 x2 x3 hk0 hb0 hp
 generalize l[k].s.mn=MN at *
 generalize l.length=n at *
 have cS:((w.alloc (.cells #[.slice (some ⟨b,off,none⟩) n sc, .int .i64 wi] 24)).alloc (.cells #[.int .i64 0, .bool false, .bool false] 136)).drew.cell? ⟨w.heap.size,0,none⟩=some (.slice (some ⟨b,off,none⟩) n sc)/\((w.alloc (.cells #[.slice (some ⟨b,off,none⟩) n sc, .int .i64 wi] 24)).alloc (.cells #[.int .i64 0, .bool false, .bool false] 136)).drew.cell? ⟨b,off+k * 4+2,none⟩=some (.bool MN):=⟨p0,y2⟩
 clear p0 y2
 go_enter Tryz.func101,Tryz.ntmps101
 go_wp2_with fail
 generalize (w.alloc (.cells #[.slice (some ⟨b,off,none⟩) n sc, .int .i64 wi] 24)).alloc (.cells #[.int .i64 0, .bool false, .bool false] 136)=V at *
 have cS2:((((V.setCell ⟨w.heap.size+1,0,none⟩ (.int .i64 S)).setCell ⟨w.heap.size+1,1,none⟩ (.bool MN)).setCell ⟨w.heap.size+1,2,none⟩ (.bool (decide (S<(n:Int))))).drew).cell? ⟨w.heap.size,0,none⟩=some (.slice (some ⟨b,off,none⟩) n sc)/\((((V.setCell ⟨w.heap.size+1,0,none⟩ (.int .i64 S)).setCell ⟨w.heap.size+1,1,none⟩ (.bool MN)).setCell ⟨w.heap.size+1,2,none⟩ (.bool (decide (S<(n:Int))))).drew).cell? ⟨b,off+k * 4+2,none⟩=some (.bool MN):=⟨(Kp.set3 V (w.heap.size+1) (.int .i64 S) (.bool MN) (.bool (decide (S<(n:Int))))).cell cS.1 (by simp),(Kp.set3 V (w.heap.size+1) (.int .i64 S) (.bool MN) (.bool (decide (S<(n:Int))))).cell cS.2 (by simp;omega)⟩
 go_region_held3 (fun W=>W.cell? ⟨w.heap.size,0,none⟩=some (.slice (some ⟨b,off,none⟩) n sc)/\W.cell? ⟨b,off+k * 4+2,none⟩=some (.bool MN))
  (first|with_reducible exact cS|with_reducible exact cS2)
  (first|fail)
 go_wp2
 obtain ⟨hx,hy⟩:=uQ HE (.int .i64 S) (.bool MN) (.bool (decide (S<(n:Int))))
 exact bodyPost_ret (results_cell_row Tryz.results101 _ _ (w.heap.size+1) 136 _ (0,0) _ rfl (hx.kp (Kp.drew _) (by simp)) Tryz.underlying136 rfl q1G) rfl ⟨rfl,hy.trans (Kp.drew _) (by simp)⟩
def Hd (a b:List UInt8):Prop:=a.head?=b.head?\/(Gap a/\Gap b)
theorem Hd.spn {a b:List UInt8}(h:Hd a b){p:UInt8->Bool}(hp: ∀c,q09 c=true->p c=false)(h0:spn p a=0):spn p b=0:=by
 rcases h with h|⟨_,h⟩
 ·cases b with
  |nil=>rfl
  |cons c r=>
   cases a with
   |nil=>simp at h
   |cons d q=>
    simp at h
    subst h
    rw[Go.Proofs.YtcmjnlpofebbmaaGreatDoor.spn]at h0 ⊢
    split at h0
    ·omega
    ·rename_i hd
     rw[if_neg hd]
 ·exact h.spn hp
theorem q6x {p:UInt8->Bool}{w a:List UInt8}(h:spn p (w++a)=w.length):spn p w=w.length/\spn p a=0:=by
 have h1:spn p w=w.length:=by
  have:=q2P p (w++a) w.length
  rw[List.take_left' rfl,h,Nat.min_self]at this
  exact this
 have h2:=q3N (b:=a) h1
 rw[h]at h2
 exact ⟨h1,by omega⟩
theorem qa1 {w a b:List UInt8}{t:Tk}(h:tkR (w++a)=some (t,w.length))(hw:w≠[])(hg:Hd a b):tkR (w++b)=some (t,w.length):=by
 cases w with
 |nil=>exact absurd rfl hw
 |cons c r=>
  have pal: ∀x,q09 x=true->q0h x=false:=fun c hc=>by have:=(q4p c).1 hc;unfold q0h q0A q07;simp;omega
  have pdg: ∀x,q09 x=true->q07 x=false:=fun c hc=>by have:=(q4p c).1 hc;unfold q07;simp;omega
  rw[List.cons_append,tkR]at *
  split at h
  ·rename_i hb
   rw[if_pos hb]
   unfold tkW at h ⊢
   split at h
   ·cases h
   ·rename_i h32
    simp only[Option.some.injEq,Prod.mk.injEq]at h
    obtain ⟨rfl,hn⟩:=h
    rw[<-List.cons_append]at hn h32 ⊢
    obtain ⟨e1,e2⟩:=q6x hn
    have e3:=q3N (b:=b) e1
    rw[hg.spn pal e2,Nat.add_zero]at e3
    rw[hn]at h32
    rw[e3,if_neg h32,List.take_left' rfl, <-List.cons_append,hn,List.take_left' rfl]
  ·rename_i hb
   rw[if_neg hb]
   split at h
   ·rename_i hd
    rw[if_pos hd]
    unfold tkN at h ⊢
    split at h
    ·cases h
    ·rename_i hz
     split at h
     ·cases h
     ·rename_i hv
      simp only[Option.some.injEq,Prod.mk.injEq]at h
      obtain ⟨rfl,hn⟩:=h
      rw[<-List.cons_append]at hn hz hv ⊢
      obtain ⟨e1,e2⟩:=q6x hn
      have e3:=q3N (b:=b) e1
      rw[hg.spn pdg e2,Nat.add_zero]at e3
      rw[hn,List.take_left' rfl]at hv
      rw[hn]at hz
      rw[e3,List.take_left' rfl,if_neg (by simpa using hz),if_neg hv, <-List.cons_append,hn,List.take_left' rfl]
   ·rename_i hd
    rw[if_neg hd]
    split at h
    ·rename_i hq
     rw[if_pos hq]
     unfold tkT at h ⊢
     split at h
     ·cases h
     ·rename_i h256
      split at h
      ·rename_i hh
       simp only[Option.some.injEq,Prod.mk.injEq]at h
       obtain ⟨rfl,hn⟩:=h
       simp only[List.length_cons]at hn
       have hlt:spn isIn (r++a)<r.length:=by omega
       have e1:spn isIn r=spn isIn (r++a):=by
        have:=q2P isIn (r++a) r.length
        rw[List.take_left' rfl]at this
        omega
       have hlt2:spn isIn r<r.length:=by omega
       rw[<-e1]at h256 hh hn ⊢
       rw[qeh hlt2,if_neg h256,List.take_append_of_le_length (by omega),List.head?_drop,List.getElem?_append_left hlt2]
       rw[List.head?_drop,List.getElem?_append_left hlt2]at hh
       rw[if_pos hh,List.take_append_of_le_length (by omega)]
       simp only[List.length_cons,Option.some.injEq,Prod.mk.injEq,true_and]
       omega
      ·cases h
    ·rename_i hq
     rw[if_neg hq]
     unfold tkS at h ⊢
     split at h
     ·rename_i h2
      simp only[Option.some.injEq,Prod.mk.injEq]at h
      obtain ⟨rfl,hn⟩:=h
      rw[if_pos ⟨h2.1,by
       cases r with
       |nil=>simp at hn
       |cons d r=>exact h2.2⟩,hn]
     ·rename_i h2
      split at h
      ·rename_i h1
       simp only[Option.some.injEq,Prod.mk.injEq]at h
       obtain ⟨rfl,hn⟩:=h
       obtain rfl:r=[]:=List.eq_nil_of_length_eq_zero (by simpa using hn.symm)
       rw[if_neg (fun h3=>by
        rcases hg with hg|⟨_,hg⟩
        ·exact h2 ⟨h3.1,by simpa [hg] using h3.2⟩
        ·have:=(q4p 61).1 (hg 61 (by simpa using h3.2))
         simp at this),if_pos h1,hn]
      ·cases h
def layF:Nat->List Tk->Nat->List UInt8
 |E,[],n=>List.replicate (n-E) 32
 |E,t::r,n=>List.replicate (t.pl.toNat-E) 32++(q04 t++layF (E+(t.pl.toNat-E)+(q04 t).length) r n)
def FitE:Nat->List Tk->Nat->Prop
 |E,[],n=>E<=n
 |E,t::r,n=>0<=t.pl/\E<=t.pl.toNat/\0<(q04 t).length/\FitE (t.pl.toNat+(q04 t).length) r n
theorem FitE.mono {E E':Nat}{ts:List Tk}{n:Nat}(h:FitE E ts n)(hE:E'<=E):FitE E' ts n:=by
 cases ts with
 |nil=>exact Nat.le_trans hE h
 |cons t r=>exact ⟨h.1,Nat.le_trans hE h.2.1,h.2.2⟩
theorem FitE.le {E:Nat}{ts:List Tk}{n:Nat}(h:FitE E ts n):E<=n:=by
 induction ts generalizing E with
 |nil=>exact h
 |cons t r ih=>have:=ih h.2.2.2;have:=h.2.1;omega
theorem q39 {E:Nat}{ts:List Tk}{n:Nat}(h:FitE (E+1) ts n):layF E ts n=32::layF (E+1) ts n:=by
 cases ts with
 |nil=>
  have h1:E+1<=n:=h
  rw[layF,layF,show n-E=(n-(E+1))+1 by omega,List.replicate_succ]
 |cons t r=>
  have h1:E+1<=t.pl.toNat:=h.2.1
  rw[layF,layF,show t.pl.toNat-E=(t.pl.toNat-(E+1))+1 by omega,List.replicate_succ,show E+(t.pl.toNat-(E+1)+1)=E+1+(t.pl.toNat-(E+1)) by omega]
  rfl
theorem qb0 {E:Nat}{ts:List Tk}{n:Nat}(k:Nat)(h:FitE (E+k) ts n):layF E ts n=List.replicate k 32++layF (E+k) ts n:=by
 induction k generalizing E with
 |zero=>rfl
 |succ k ih=>
  rw[q39 (h.mono (by omega)),ih (E:=E+1) (by rw[show E+1+k=E+(k+1) by omega];exact h),List.replicate_succ,show E+1+k=E+(k+1) by omega]
  rfl
theorem qb1 {E:Nat}{ts:List Tk}{n:Nat}(h:FitE E ts n):(layF E ts n).length=n-E:=by
 induction ts generalizing E with
 |nil=>rw[layF,List.length_replicate]
 |cons t r ih=>
  obtain ⟨_,h1,_,h2⟩:=h
  have e:E+(t.pl.toNat-E)+(q04 t).length=t.pl.toNat+(q04 t).length:=by omega
  have:=h2.le
  rw[layF,e,List.length_append,List.length_append,List.length_replicate,ih h2]
  omega
theorem q7Y:q09 32=true:=by decide
theorem qbD (l:List UInt8)(k c:Nat): ∀ts,toks l k c= .good ts->FitE k ts (k+l.length)/\Hd (layF k ts (k+l.length)) l/\ ∀c',c'+ts.length<=4096->toks (layF k ts (k+l.length)) k c'= .good ts:=by
 refine q24 (P:=fun l k c=> ∀ts,toks l k c= .good ts->FitE k ts (k+l.length)/\Hd (layF k ts (k+l.length)) l/\ ∀c',c'+ts.length<=4096->toks (layF k ts (k+l.length)) k c'= .good ts) ?_ ?_ ?_ ?_ ?_ l k c
 ·intro k c ts h
  rw[q1A]at h
  cases h
  refine ⟨Nat.le_refl _,Or.inl (by simp[layF]),fun c' _=>?_⟩
  simp[layF,q1A]
 ·intro b r k c hb ih ts h
  rw[q12 hb]at h
  obtain ⟨h1,h2,h3⟩:=ih ts h
  rw[List.length_cons,show k+(r.length+1)=k+1+r.length by omega]
  refine ⟨h1.mono (by omega),Or.inr ⟨?_,?_⟩,fun c' hc=>?_⟩
  ·rw[q39 h1];intro x hx;simp at hx;subst hx;exact q7Y
  ·intro x hx;simp at hx;subst hx;exact hb
  ·rw[q39 h1,q12 q7Y];exact h3 c' hc
 ·intro l k c h0 hb hn ts h
  rw[q1l hn h0 hb]at h
  cases h
 ·intro l k t n hn ts h
  rw[q1k hn]at h
  cases h
 ·intro l k c t n hn hc4 ih ts h
  rw[q13 hn hc4]at h
  obtain ⟨r,hr,rfl⟩:=q2L h
  obtain ⟨g1,g2,g3,_⟩:=q0o hn
  obtain ⟨h1,h2,h3⟩:=ih r hr
  rw[List.length_drop,show k+n+(l.length-n)=k+l.length by omega]at h1 h2 h3
  have hsp:(q04 t).length=n:=by rw[g3,List.length_take];omega
  have ho:q04 (t.out (k:Int))=q04 t:=q55 t _
  have hpl:(t.out (k:Int)).pl=(k:Int):=rfl
  have e:layF k ([t.out (k:Int)]++r) (k+l.length)=q04 t++layF (k+n) r (k+l.length):=by
   rw[List.singleton_append,layF,ho,hpl,Int.toNat_natCast,Nat.sub_self,hsp]
   rfl
  have hne:q04 t≠[]:=fun e=>by rw[e]at hsp;simp at hsp;omega
  have hl:l=q04 t++l.drop n:=by rw[g3,List.take_append_drop]
  have ht:tkR (q04 t++layF (k+n) r (k+l.length))=some (t,(q04 t).length):=by
   refine qa1 (a:=l.drop n) ?_ hne (by rcases h2 with h2|⟨h2,h2'⟩;exact Or.inl h2.symm;exact Or.inr ⟨h2',h2⟩)
   rw[<-hl,hsp]
   exact hn
  refine ⟨⟨by rw[hpl];omega,by rw[hpl,Int.toNat_natCast];exact Nat.le_refl _,by rw[ho,hsp];exact g1,by rw[hpl,Int.toNat_natCast,ho,hsp];exact h1⟩,Or.inl ?_,fun c' hc=>?_⟩
  ·rw[e,hl]
   cases hs:q04 t with
   |nil=>exact absurd hs hne
   |cons x y=>simp
  ·rw[List.singleton_append,List.length_cons]at hc
   rw[e,q13 ht (by omega),hsp,show (q04 t++layF (k+n) r (k+l.length)).drop n=layF (k+n) r (k+l.length) by rw[<-hsp];exact List.drop_left' rfl,h3 (c'+1) (by omega)]
   rfl
theorem q6C (l:List UInt8)(k c:Nat): ∀ts,toks l k c= .good ts-> ∀a r,ts=a++r-> ∃l' k' c',toks l' k' c'= .good r/\k<=k'/\k'+l'.length=k+l.length:=by
 refine q24 (P:=fun l k c=> ∀ts,toks l k c= .good ts-> ∀a r,ts=a++r-> ∃l' k' c',toks l' k' c'= .good r/\k<=k'/\k'+l'.length=k+l.length) ?_ ?_ ?_ ?_ ?_ l k c
 ·intro k c ts h a r e
  rw[q1A]at h
  cases h
  have:r=[]:=by simp at e;exact e.2
  subst this
  exact ⟨[],k,c,rfl,Nat.le_refl _,rfl⟩
 ·intro b q k c hb ih ts h a r e
  rw[q12 hb]at h
  obtain ⟨l',k',c',h1,h2,h3⟩:=ih ts h a r e
  exact ⟨l',k',c',h1,by omega,by rw[h3,List.length_cons];omega⟩
 ·intro l k c h0 hb hn ts h
  rw[q1l hn h0 hb]at h
  cases h
 ·intro l k t n hn ts h
  rw[q1k hn]at h
  cases h
 ·intro l k c t n hn hc4 ih ts h a r e
  cases a with
  |nil=>exact ⟨l,k,c,by rw[h,e];rfl,Nat.le_refl _,rfl⟩
  |cons x a=>
   rw[q13 hn hc4]at h
   obtain ⟨q,hq,rfl⟩:=q2L h
   obtain ⟨g1,g2,_⟩:=q0o hn
   simp only[List.cons_append,List.cons.injEq]at e
   obtain ⟨l',k',c',h1,h2,h3⟩:=ih q hq a r e.2
   exact ⟨l',k',c',h1,by omega,by rw[h3,List.length_drop];omega⟩
theorem q4i {s:List UInt8}{a r:List Tk}(h:toks s 0 0= .good (a++r)):FitE 0 r s.length/\(layF 0 r s.length).length=s.length/\toks (layF 0 r s.length) 0 0= .good r:=by
 obtain ⟨l',k',c',h1,_,h3⟩:=q6C s 0 0 _ h a r rfl
 obtain ⟨f1,_,f3⟩:=qbD l' k' c' r h1
 have hlen:=(q4K s 0 0 _ h (by omega)).1
 rw[List.length_append]at hlen
 rw[show k'+l'.length=s.length by omega]at f1 f3
 have f0:FitE 0 r s.length:=f1.mono (Nat.zero_le _)
 refine ⟨f0,by rw[qb1 f0];rfl,?_⟩
 rw[qb0 (E:=0) k' (by rw[Nat.zero_add];exact f1),q77 _ _ _ _ (fun x hx=>by rw[List.mem_replicate]at hx;rw[hx.2];exact q7Y),List.length_replicate,Nat.zero_add]
 exact f3 0 (by omega)
def layA (b:List UInt8)(t:Tk):List UInt8:=b++(List.replicate (t.pl.toNat-b.length) 32++q04 t)
def lay (l:List Tk):List UInt8:=l.foldl layA []
theorem qb3 {l:List Tk}{k:Nat}(h:k<l.length):lay (l.take (k+1))=layA (lay (l.take k)) l[k]:=by
 unfold lay
 rw[List.take_succ_eq_append_getElem h,List.foldl_append]
 rfl
theorem q3e (n:Nat):q04 (endZ n)=[]:=by unfold endZ;rw[q2A (by omega) (by omega)]
theorem qb2 (r:List Tk)(n:Nat): ∀b:List UInt8,(r++[endZ n]).foldl layA b=b++layF b.length r n:=by
 induction r with
 |nil=>
  intro b
  simp only[List.nil_append,List.foldl_cons,List.foldl_nil,layA,layF]
  rw[q3e,List.append_nil]
  rfl
 |cons t r ih=>
  intro b
  rw[List.cons_append,List.foldl_cons,ih,layF]
  have e:(layA b t).length=b.length+(t.pl.toNat-b.length)+(q04 t).length:=by unfold layA;simp;omega
  rw[e]
  unfold layA
  simp
theorem qcO (r:List Tk)(n:Nat):lay (r++[endZ n])=layF 0 r n:=by
 have:=qb2 r n []
 simpa [lay] using this
theorem qdy {r:List Tk}{n:Nat}: ∀{E:Nat} {b:List UInt8},FitE E r n->b.length=E-> ∀k (h:k<(r++[endZ n]).length),0<=(r++[endZ n])[k].pl/\(((r++[endZ n]).take k).foldl layA b).length<=(r++[endZ n])[k].pl.toNat/\(r++[endZ n])[k].pl.toNat<=n:=by
 induction r with
 |nil=>
  intro E b hf hb k h
  simp only[List.nil_append,List.length_singleton]at h
  obtain rfl:k=0:=by omega
  have hf':E<=n:=hf
  refine ⟨by show 0<=(n:Int);omega,?_,by show ((n:Int)).toNat<=n;omega⟩
  show b.length<=((n:Int)).toNat
  omega
 |cons t r ih=>
  intro E b hf hb k h
  obtain ⟨f1,f2,f3,f4⟩:=hf
  have hle:=f4.le
  cases k with
  |zero=>exact ⟨f1,by show b.length<=t.pl.toNat;omega,by show t.pl.toNat<=n;omega⟩
  |succ k=>
   have e:(layA b t).length=t.pl.toNat+(q04 t).length:=by unfold layA;simp;omega
   have:=ih f4 e k (by simpa using h)
   simpa using this
open Go.RowKit
theorem q9U (t:Tk)(w:World)(hT:TbW w)(hs:t.s.size<=140737488351232)(h0: -9223372036854775808<=t.n)(h1:t.n<=9223372036854775807):
  Calls Tryz.prog 179 #[t.v] w fun e w'=>e= .returned (.string (txt (q04 t)))/\Below w.heap.size w w':=by
 obtain ⟨k,s,n,p⟩:=t
 dsimp only at hs h0 h1
 unfold Tk.v
 dsimp only
 by_cases hk2:k=2
 ·subst hk2
  rw[q7N]
  go_enter Tryz.func179,Tryz.ntmps179
  go_wp2_with fail
  refine (q8a n h0 h1 _ (hT.alloc _)).mono ?_
  rintro e w1 ⟨rfl,hb⟩
  have HB:Hid (Below w.heap.size w w1):=hZq (((Below.refl _ _).alloc (Nat.le_refl _) _).trans (hb.mono (by simp)))
  clear hb
  go_wp2
  go_ret
  exact ⟨rfl,uQ HB⟩
 ·have g2:(k==2)=false:=by simpa using hk2
  by_cases hk3:k=3
  ·subst hk3
   rw[q7O, <-qbd]
   have b1:(9223372036854775807<(⟨#[39]⟩:ByteArray).size+s.size)=False:=eq_false (by rw[show (⟨#[39]⟩:ByteArray).size=1 from rfl];omega)
   have b2:(9223372036854775807<(⟨#[39]⟩++s:ByteArray).size+(⟨#[39]⟩:ByteArray).size)=False:=eq_false (by rw[ByteArray.size_append,show (⟨#[39]⟩:ByteArray).size=1 from rfl];omega)
   go_enter Tryz.func179,Tryz.ntmps179
   go_wp2
   go_ret
   exact ⟨rfl,(Below.refl _ _).alloc (Nat.le_refl _) _⟩
  ·have g3:(k==3)=false:=by simpa using hk3
   rw[q2A hk2 hk3,q0z]
   go_enter Tryz.func179,Tryz.ntmps179
   go_wp2
   go_ret
   exact ⟨rfl,(Below.refl _ _).alloc (Nat.le_refl _) _⟩
open Go.RowKit
theorem q4N {B:Nat}{w w':World}(h:Below B w w')(n:Nat):Below B w (w'.drewN n):=⟨h.os,h.tape,h.output,h.size,h.block⟩
open Go.RowKit
theorem q3f (t:Tk)(hs:t.s.size<=256)(h0: -9223372036854775808<=t.n)(h1:t.n<=9223372036854775807):(q04 t).length<=258:=by
 unfold q04
 split
 ·have:=Lib.itoa_length_le t.n h0 h1;omega
 ·split
  ·simp only[List.length_cons,List.length_append,q0f,List.length_nil];omega
  ·rw[q0f];omega
theorem qa6 (t:Tk)(h:tkR (q04 t)=none):wrOk t=false:=by unfold wrOk;rw[h];simp
theorem q3R {t:Tk}(h:wrOk t=true): ¬ t.kd=0/\t.s.size<=256/\0<=t.n/\t.n<=9223372036854775807/\(q04 t).length<=258:=by
 have h1:=(q3Q t).1 h
 obtain ⟨_,_,_,_,k1,_,_,hn0,hn1,_⟩:=q0o h1.2
 have e1:(t.out 0).kd=t.kd:=rfl
 have e2:(t.out 0).n=t.n:=rfl
 rw[e1]at k1
 rw[e2]at hn0 hn1
 exact ⟨by omega,h1.1,hn0,hn1,q3f t h1.1 (by omega) hn1⟩
end Go.Proofs.YtcmjnlpofebbmaaGreatDoor
