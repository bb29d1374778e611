/-
  Walks and plain facts, made small.
-/
import Derived.Test.YtcmjnlpofebbmaaGreatDoorMa23
set_option maxRecDepth 100000
set_option maxHeartbeats 8000000
set_option linter.unusedSimpArgs false
namespace Go.Proofs.YtcmjnlpofebbmaaGreatDoor
open Go.RowKit Go.Shelf
structure Tail (l:List Tk)(n:Nat):Prop where
 ex: ∃(s:List UInt8) (a r:List Tk),s.length=n/\toks s 0 0= .good (a++r)/\l=r++[endZ n]
 le:n<=262144
theorem Tail.fit {l:List Tk}{n:Nat}(h:Tail l n)(k:Nat)(hk:k<l.length):0<=l[k].pl/\(lay (l.take k)).length<=l[k].pl.toNat/\l[k].pl.toNat<=n:=by
 obtain ⟨s,a,r,h1,h2,rfl⟩:=h.ex
 obtain ⟨f,_,_⟩:=q4i h2
 rw[h1]at f
 exact qdy f rfl k hk
theorem Tail.wr {l:List Tk}{n:Nat}(h:Tail l n)(k:Nat)(hk:k<l.length):wrOk l[k]=true\/ ∃m,l[k]=endZ m:=by
 obtain ⟨s,a,r,h1,h2,rfl⟩:=h.ex
 have hw:=(q4K s 0 0 _ h2 (by omega)).2
 by_cases hr:k<r.length
 ·left
  rw[List.getElem_append_left hr]
  exact hw _ (by rw[List.mem_append];exact Or.inr (List.getElem_mem hr))
 ·right
  exact ⟨n,by rw[List.getElem_append_right (by omega)];simp⟩
theorem Tail.again {l:List Tk}{n:Nat}(h:Tail l n):(lay l).length=n/\tsL (txt (lay l)).size (tsR (txt (lay l)))=l/\tsC (tsR (txt (lay l)))=0/\tsA (tsR (txt (lay l)))=0:=by
 obtain ⟨s,a,r,h1,h2,rfl⟩:=h.ex
 obtain ⟨_,f2,f3⟩:=q4i h2
 rw[h1]at f2 f3
 have hle:=h.le
 rw[qcO]
 have e:tsR (txt (layF 0 r n))= .good r:=by
  unfold tsR
  rw[if_neg (by rw[q0k];omega),q0y]
  exact f3
 rw[e]
 refine ⟨f2,?_,rfl,rfl⟩
 rw[tsL,q0k,f2]
 rfl
theorem Tail.len {l:List Tk}{n:Nat}(h:Tail l n):l.length<=4097:=by
 obtain ⟨s,a,r,h1,h2,rfl⟩:=h.ex
 have:=(q4K s 0 0 _ h2 (by omega)).1
 rw[List.length_append]at this
 rw[List.length_append,List.length_singleton]
 omega
theorem Tail.ok {l:List Tk}{n:Nat}(h:Tail l n): ∀t∈l,t.ok:=by
 obtain ⟨s,a,r,h1,h2,rfl⟩:=h.ex
 have:=qbC s 0 0 _ h2 (by have:=h.le;omega)
 intro t ht
 rcases List.mem_append.1 ht with ht|ht
 ·exact this t (by simp[ht])
 ·simp only[List.mem_singleton]at ht
  subst ht
  have:=h.le
  exact ⟨⟨by show (-9223372036854775808:Int)<=0;omega,by show (0:Int)<=9223372036854775807;omega⟩,by show (0:Nat)<=_;omega,⟨by show (-9223372036854775808:Int)<=0;omega,by show (0:Int)<=9223372036854775807;omega⟩,by show (-9223372036854775808:Int)<=(n:Int);omega,by show (n:Int)<=_;omega⟩
theorem Tail.endd {l:List Tk}{n:Nat}(h:Tail l n):Endd l:=by
 obtain ⟨s,a,r,h1,h2,rfl⟩:=h.ex
 exact q8X r n
theorem Tail.drop {l:List Tk}{n:Nat}(h:Tail l n)(k:Nat)(hk:k<l.length):Tail (l.drop k) n:=by
 obtain ⟨s,a,r,h1,h2,rfl⟩:=h.ex
 rw[List.length_append,List.length_singleton]at hk
 refine ⟨⟨s,a++r.take k,r.drop k,h1,?_,?_⟩,h.le⟩
 ·rw[List.append_assoc,List.take_append_drop];exact h2
 ·rw[List.drop_append_of_le_length (by omega)]
theorem Tail.lens {l:List Tk}{n:Nat}(h:Tail l n)(k:Nat)(hk:k<=l.length):(lay (l.take k)).length<=300000:=by
 have hle:=h.le
 by_cases hl:k<l.length
 ·have:=h.fit k hl;omega
 ·obtain rfl:k=l.length:=by omega
  rw[List.take_length,h.again.1]
  omega
theorem Bld.kp {B b:Nat}{l:List UInt8}{w w':World}(h:Bld B b l w)(hk:Kp [] w w'):Bld B b l w':=h.below (hk.below (Nat.le_refl _) (by simp))
theorem TksAt.piece {w:World}{b off:Nat}{l:List Tk}{j:Nat}(h:TksAt w (some ⟨b,off,none⟩) l)(hj:j<l.length):TksAt w (some ⟨b,off+j * 4,none⟩) [l[j]]:=fun _=>by
 obtain ⟨b',off',e,hlt,hc⟩:=h (fun e=>by rw[e]at hj;simp at hj)
 cases e
 refine ⟨b,off+j * 4,rfl,hlt,fun i hi=>?_⟩
 obtain rfl:i=0:=by simp at hi;omega
 simpa using hc j hj
theorem q8T (b off cap:Nat)(l:List Tk)(n:Nat)(hL:Tail l n)(w:World)(hT:TbE w)(hcap:l.length<=cap)(hcp:cap<=9223372036854775807)(hA:TksAt w (some ⟨b,off,none⟩) l):
  Calls Tryz.prog 114 #[.slice (some ⟨b,off,none⟩) l.length cap] w fun e w'=>e= .returned (.bool true)/\Below w.heap.size w w':=by
 have hlen:=hL.len
 have hle:=hL.le
 have b0:=Bld.new w
 have HAT:=hZq hA
 have HTB:=hZq hT
 have HFT:=hZq (fun k hk=>hL.fit k hk)
 have HWR:=hZq (fun k hk=>qcL (hL.wr k hk))
 have HOK:=hZq (hL.ok)
 have HNX:=hZq (fun k (hk:k<l.length)=>qb3 hk)
 have HLS:=hZq (fun k hk=>hL.lens k hk)
 have HAG:=hZq hL.again
 have HLL:Hid (lay (l.take l.length)=lay l):=hZq (by rw[List.take_length])
 have HB0:=hZq b0
 have HBW0:Hid (Below w.heap.size w (w.alloc (.cells #[.pointer none, .slice none 0 0] 221))):=hZq ((Below.refl _ _).alloc (Nat.le_refl _) _)
 clear hA hT b0
 obtain ⟨m,hm⟩: ∃m,l.length=m:=⟨_,rfl⟩
 have HM:=hZq hm
 rw[hm]at hlen hcap HLL ⊢
 clear hm
 go_enter Tryz.func114,Tryz.ntmps114
 go_wp2_with fail
 go_loopw [12] (fun i wr=> ∃k:Nat,k<=m/\i= .int .i64 (k:Int)/\Hid (Bld w.heap.size w.heap.size (lay (l.take k)) wr)/\Hid (Below w.heap.size w wr)) (fun i _=>m-(intOf i).toNat)
 case atStart=>exact ⟨0,Nat.zero_le _,rfl,HB0,HBW0⟩
 case round=>
  obtain ⟨k,hk,rfl,HBL,HBW⟩:=hrel
  by_cases hlt:k<m
  ·have hkl:k<l.length:=by rw[uQ HM];exact hlt
   have hli:(k:Int)<(m:Int):=by omega
   have kw:=Kp.ofBelow (uQ HBW)
   obtain ⟨_,_,e,hbl,x0,x1,x2,x3⟩:=((uQ HAT).kp kw).at k hkl
   cases e
   have hp1:=((uQ HAT).kp kw).piece hkl
   obtain ⟨f0,f1,f2⟩:=uQ HFT k hkl
   obtain ⟨P,hP⟩:=Int.eq_ofNat_of_zero_le f0
   have hjr:=uQ HWR k hkl
   have hokk:=uQ HOK _ (List.getElem_mem hkl)
   have HNX2:=hZq (uQ HNX k hkl)
   have hl3:=uQ HLS k (by omega)
   unfold layA at HNX2
   rw[hP,Int.toNat_natCast]at f1 f2 HNX2
   rw[hP]at x3
   have hsp:(q04 l[k]).length<=300:=by
    rcases hL.wr k hkl with h|⟨q,h⟩
    ·have:=(q3R h).2.2.2.2;omega
    ·rw[h,q3e];simp
   generalize hK:l[k]=t at *
   generalize lay (l.take k)=LB at *
   obtain ⟨tk,ts,tn,tp⟩:=t
   dsimp only at hP x0 x1 x2 x3
   subst hP
   have ktk:=Kp.alloc wr (.cells #[.int .i64 tk, .string ts, .int .i64 tn, .int .i64 (P:Int)] 78)
   have JN:=qaZ (some ⟨b,off+k * 4,none⟩) (cap-k) [⟨tk,ts,tn,(P:Int)⟩] _ ((((uQ HTB).kp kw (by simp)).kp ktk (by simp)).tok) (by simp) (by simp;omega) (hp1.kp ktk) (by simpa using hokk)
   rw[hjr,List.length_singleton]at JN
   dsimp only at JN
   have HJN:=hZq JN
   have bx:=CBox.new wr #[.int .i64 tk, .string ts, .int .i64 tn, .int .i64 (P:Int)] 78
   have HBX:=hZq bx
   have HKT:=hZq ktk
   generalize q04 ⟨tk,ts,tn,(P:Int)⟩=SP at *
   have hck:((cap:Int)-(k:Int))=((cap-k:Nat):Int):=by omega
   have hsl1: ¬ ((cap:Int)<(k:Int)+1):=by omega
   clear JN bx ktk hp1 kw hokk hjr hK f0 HFT HWR HOK HNX HLS HAG HLL
   go_wp2_with fail
   refine (uQ HJN).mono ?_
   rintro e w2 ⟨rfl,hb2⟩
   have k2:=(uQ HKT).trans (Kp.ofBelow hb2) (by simp)
   have bx2:=(uQ HBX).kp (Kp.ofBelow hb2) (by simp)
   have c3:w2.drew.cell? ⟨wr.heap.size,3,none⟩=some (.int .i64 (P:Int)):=bx2.cell rfl
   have hlt2:wr.heap.size<w2.heap.size:=(Array.getElem?_eq_some_iff.1 bx2).1
   have BL2:=((uQ HBL).kp k2).kp (Kp.drew w2)
   have LN:=hZq (q3y _ _ _ w2.drew BL2)
   have HBX2:=hZq bx2
   have HBL2:=hZq ((uQ HBL).kp k2)
   have HBW2:=hZq ((uQ HBW).trans (k2.below (uQ HBW).size (by simp)))
   have gd1: ¬ ((P:Int)<(LB.length:Int)):=by omega
   have gd2: ¬ ((262144:Int)<(P:Int)):=by omega
   have gp1:((P:Int)<(LB.length:Int))=False:=by simp;omega
   have gp2:((262144:Int)<(P:Int))=False:=by simp;omega
   have gp3:(P<LB.length)=False:=by simp;omega
   clear HJN hb2 k2 bx2 HKT HBX HBL HBW BL2 x0 x1 x2 x3
   generalize wr.heap.size=G at *
   go_wp2_with fail
   go_region_held3 (fun W=>W.cell? ⟨G,3,none⟩=some (.int .i64 (P:Int)))
    (first|with_reducible exact c3)
    (first|(go_at_call 131;refine (uQ LN).mono ?_;rintro e w3 ⟨rfl,rfl⟩))
   clear LN gd1 gd2
   have HBX3:Hid (CBox G #[.int .i64 tk, .string ts, .int .i64 tn, .int .i64 (P:Int)] 78 w2.drew):=hZq (uQ HBX2)
   have HBL3:=hZq ((uQ HBL2).kp (Kp.drew w2))
   have HBW3:=hZq (uQ HBW2).drew
   have hlt3:G<w2.drew.heap.size:=hlt2
   clear HBX2 HBL2 HBW2 c3 hlt2
   generalize w2.drew=W3 at *
   have d3:W3.drew.cell? ⟨G,3,none⟩=some (.int .i64 (P:Int)):=(uQ HBX3).cell rfl
   have LN:=hZq (q3y _ _ _ W3.drew ((uQ HBL3).kp (Kp.drew W3)))
   have hsub:((P:Int)-(LB.length:Int))=((P-LB.length:Nat):Int):=by omega
   have RP:=hZq (q6p (P-LB.length) W3.drew (by omega))
   have HWS:Hid (∀W,Below W3.drew.heap.size W3.drew W->Calls Tryz.prog 132 #[.pointer (some ⟨w.heap.size,0,none⟩), .string (txt (List.replicate (P-LB.length) 32))] W fun e w'=>e= .returned (.tuple #[.int .i64 (P-LB.length:Nat), .nilIface])/\Bld w.heap.size w.heap.size (LB++List.replicate (P-LB.length) 32) w'/\Below w.heap.size W w'):=hZq (fun W hb=>by
    have:=q0T w.heap.size w.heap.size LB (txt (List.replicate (P-LB.length) 32)) W (((uQ HBL3).kp (Kp.drew W3)).below hb) (by rw[q0k,List.length_replicate];omega) (by have h1:=(uQ HBW3).size;have h2:=hb.size;have h3:W3.drew.heap.size=W3.heap.size:=rfl;omega)
    rw[q0k,List.length_replicate,q0y]at this
    exact this)
   have HNX3:Hid (lay (l.take (k+1))=(LB++List.replicate (P-LB.length) 32)++SP):=hZq (by rw[uQ HNX2,List.append_assoc])
   have hLL:(LB++List.replicate (P-LB.length) 32).length<=700000:=by rw[List.length_append,List.length_replicate];omega
   clear HNX2
   generalize LB++List.replicate (P-LB.length) 32=LB2 at *
   generalize txt (List.replicate (P-LB.length) 32)=RS at *
   obtain ⟨PD,hPD⟩: ∃q,P-LB.length=q:=⟨_,rfl⟩
   rw[hPD]at RP HWS hsub
   have hPDb:PD<=262144:=by omega
   have hPDw:IntKind.i64.wrap (PD:Int)=(PD:Int):=by rw[IntKind.wrap_i64];omega
   clear hPD
   generalize LB.length=LBN at *
   go_wp2_with fail
   go_region_with (first|(go_at_call 132;refine (uQ WS4).mono ?_;rintro e w5 ⟨rfl,hbl5,hb5⟩)|(go_at_call 133;refine (uQ RP).mono ?_;rintro e w4 ⟨rfl,hb4⟩;have WS4:=hZq (uQ HWS w4 hb4))|(go_at_call 131;refine (uQ LN).mono ?_;rintro e w3 ⟨rfl,rfl⟩))
   all_goals
    have HB5:=hZq (((uQ HBW3).drew.trans (hb4.mono (uQ HBW3).size)).trans hb5)
    have HL5:=hZq hbl5
    have W6:=hZq (q0T w.heap.size w.heap.size LB2 (txt SP) w5 hbl5 (by rw[q0k];omega) (uQ HB5).size)
    rw[q0k,q0y, <-uQ HNX3]at W6
    clear hbl5 hb5 hb4 WS4 RP LN HWS d3
    go_wp2_with fail
    refine (uQ W6).mono ?_
    rintro e w7 ⟨rfl,hbl7,hb7⟩
    have HB7:=hZq ((uQ HB5).trans hb7)
    have HL7:=hZq hbl7
    clear hbl7 hb7 W6 HB5 HL5
    go_wp2
    go_roundw
    case rel=>exact ⟨k+1,by omega,by go_num,HL7,HB7⟩
    case measure=>simp[intOf];omega
  ·obtain rfl:k=m:=by omega
   rw[uQ HLL]at HBL
   obtain ⟨a1,a2,a3,a4⟩:=uQ HAG
   have ST:=hZq (q3u _ _ _ wr (uQ HBL) (uQ HBW).size)
   have hTr:=(uQ HTB).below (uQ HBW) (uQ HTB).low
   have HTK:Hid (∀W,Below w.heap.size wr W->Calls Tryz.prog 16 #[.string (txt (lay l))] W fun e w'=> ∃v,e= .returned (.tuple #[v, .agg #[.int .i64 0, .int .i64 0]])/\OwnsK W.heap.size w' v l/\Below W.heap.size W w'):=hZq (fun W hb=>by
    have:=q4h (txt (lay l)) W (hTr.below hb (uQ HTB).low).tok (by rw[q0k];omega)
    rw[a2,a3,a4]at this
    exact this)
   have HEL:Hid (l.length=k):=HM
   clear a1 a2 a3 a4 HAG HLS HNX HWR HFT HOK HLL hTr HBL
   have es:(⟨(lay l).toArray⟩:ByteArray)=txt (lay l):=rfl
   rw[es]at ST
   generalize txt (lay l)=SS at *
   clear es
   go_wp2_with fail
   refine (uQ ST).mono ?_
   rintro e w3 ⟨rfl,hb3⟩
   have TK:=hZq (uQ HTK w3 hb3)
   have HB3:=hZq ((uQ HBW).trans hb3)
   clear ST hb3 HTK
   dsimp only
   go_wp2_with fail
   refine (uQ TK).mono ?_
   rintro e w4 ⟨v,rfl,ho,hb4⟩
   obtain ⟨av,cv,rfl,hav,_⟩:=ho.at
   have HB4:=hZq ((uQ HB3).trans (hb4.mono (uQ HB3).size))
   have kf:=Kp.alloc w4 (.cells #[.int .i64 0, .int .i64 0] 44)
   have HB5:=hZq ((uQ HB4).trans (kf.below (uQ HB4).size (by simp)))
   have EQ:=q5D av (some ⟨b,off,none⟩) cv cap l _ (hav.kp kf) ((((uQ HAT).kp (Kp.ofBelow (uQ HB4)))).kp kf) (by rw[uQ HEL];omega)
   rw[uQ HEL]at EQ
   have HEQ:=hZq EQ
   clear TK hb4 ho hav EQ HB3 kf
   rw[uQ HEL]
   go_wp2_with fail
   refine (uQ HEQ).mono ?_
   rintro e w6 ⟨rfl,hk6⟩
   have HB6:=hZq ((uQ HB5).trans (hk6.below (uQ HB5).size (by simp)))
   clear HEQ hk6 HB5 HB4
   go_wp2
   go_ret
   exact ⟨rfl,uQ HB6⟩
open Go.RowKit Go.Shelf
def PsF (l:List Tk)(x:List Pt)(k:Nat)(A C:Int):Prop:=
 (C=0/\A=0/\k<=l.length/\psR l= .good x (l.drop k)/\ckK x≠0)\/(C=110/\k=0/\x=[]/\((∃q,psR l= .bad q/\A=hdPl q)\/(∃y q,psR l= .good y q/\ckK y=0/\A=0)))
theorem PsT.told {l:List Tk}{B:Nat}{e:Ending}{w':World}(h:PsT l B (psR l) e w'): ∃ad cp k A C x,e= .returned (.tuple #[.slice ad x.length cp, .int .i64 ((k:Nat):Int), .agg #[.int .i64 A, .int .i64 C]])/\OwnsP B w' (.slice ad x.length cp) x/\PsF l x k A C:=by
 unfold PsT at h
 cases hP:psR l with
 |bad q=>
  rw[hP]at h
  exact ⟨none,0,0,_,_,[],h,OwnsP.nil _ _,Or.inr ⟨rfl,rfl,rfl,Or.inl ⟨q,hP,rfl⟩⟩⟩
 |good x q=>
  rw[hP]at h
  dsimp only at h
  split at h
  ·rename_i h0
   exact ⟨none,0,0,_,_,[],h,OwnsP.nil _ _,Or.inr ⟨rfl,rfl,rfl,Or.inr ⟨x,q,hP,h0,rfl⟩⟩⟩
  ·rename_i h0
   obtain ⟨v,k,h1,h2,h3,h4⟩:=h
   obtain ⟨ad,cp,rfl,_,_⟩:=h4.at
   exact ⟨ad,cp,k,0,0,x,h1,h4,Or.inl ⟨rfl,rfl,h2,by rw[hP,h3],h0⟩⟩
theorem TksAt.low {w:World}{b off cap:Nat}{l:List Tk}(h:TksAt w (some ⟨b,off,none⟩) l)(hl:l≠[]):TksLow w.heap.size w (.slice (some ⟨b,off,none⟩) l.length cap) l:=by
 obtain ⟨b',off',e,hlt,hc⟩:=h hl
 cases e
 exact ⟨b,off,cap,rfl,hlt,hc⟩
theorem q85 (b off cap:Nat)(l:List Tk)(n:Nat)(hL:Tail l n)(w:World)(hT:TbE w)(hcap:l.length<=cap)(hcp:cap<=9223372036854775807)(hA:TksAt w (some ⟨b,off,none⟩) l):
  Calls Tryz.prog 94 #[.slice (some ⟨b,off,none⟩) l.length cap] w fun e w'=> ∃ad cp k A C x,e= .returned (.tuple #[.slice ad x.length cp, .int .i64 ((k:Nat):Int), .agg #[.int .i64 A, .int .i64 C]])/\OwnsP w.heap.size w' (.slice ad x.length cp) x/\PsF l x k A C/\Below w.heap.size w w':=by
 have kf:=Kp.alloc w (.cells #[.int .i64 0, .int .i64 0] 44)
 have fb:FBox w.heap.size (w.alloc (.cells #[.int .i64 0, .int .i64 0] 44)):=CBox.new w _ _
 have CB:=hZq (q8T b off cap l n hL _ (hT.kp kf (by simp)) hcap hcp (hA.kp kf))
 have hlen:=hL.len
 have PA:=hZq (fun W (hk:Kp [] w W)=>q9D (.slice (some ⟨b,off,none⟩) l.length cap) l W ((hA.kp hk).low hL.endd.ne) (hT.kp hk (by simp)) (by omega) (fun t ht=>by
  obtain ⟨i,hi,rfl⟩:=List.mem_iff_getElem.1 ht
  rcases hL.wr i hi with h|⟨q,h⟩
  ·have:=(q3R h).2.1;omega
  ·rw[h];show (0:Nat)<=_;omega) hL.endd hL.ok)
 have HKF:=hZq kf
 have HFB:=hZq fb
 clear hA hT kf fb
 generalize l.length=LN at *
 go_enter Tryz.func94,Tryz.ntmps94
 go_wp2_with fail
 refine (uQ CB).mono ?_
 rintro e w1 ⟨rfl,hb1⟩
 have k1:=(uQ HKF).trans (Kp.ofBelow hb1) (by simp)
 have PA1:=hZq (uQ PA w1 k1)
 have HFB1:Hid (FBox w.heap.size w1):=hZq (CBox.kp (uQ HFB) (Kp.ofBelow hb1) (by simp))
 have HB1:=hZq (k1.below (Nat.le_refl _) (by simp))
 clear CB PA hb1 k1 HFB HKF
 go_wp2_with fail
 refine (uQ PA1).mono ?_
 rintro e w2 ⟨ht,hb2⟩
 obtain ⟨ad,cp,k,A,C,x,rfl,ho,hf⟩:=ht.told
 have fb2:FBox w.heap.size w2:=CBox.kp (uQ HFB1) (Kp.ofBelow hb2) (by simp)
 obtain ⟨f0,f1,fz0,fz1⟩:=FBox.cells fb2
 have HB2:=hZq ((uQ HB1).trans (hb2.mono (uQ HB1).size))
 have hs1:=(uQ HB1).size
 have HO2:Hid (OwnsP w.heap.size ((w2.setCell ⟨w.heap.size,0,none⟩ (.int .i64 A)).setCell ⟨w.heap.size,1,none⟩ (.int .i64 C)) (.slice ad x.length cp) x):=hZq (q02 (F:=[w.heap.size]) (ho.mono hs1) ((Kp.set w2 w.heap.size 0 (.int .i64 A)).trans (Kp.set (w2.setCell ⟨w.heap.size,0,none⟩ (.int .i64 A)) w.heap.size 1 (.int .i64 C)) (by simp)) (fun g hg=>by have:=q0d ho fb2 (by decide);rw[hg]at this;simp at this ⊢;exact this))
 have HFB2:=hZq fb2
 have HPF:=hZq hf
 have HB3:=hZq (q2g (uQ HB2) (Nat.le_refl _) (.int .i64 A) (.int .i64 C))
 clear PA1 hb2 ho hf fb2 ht HFB1 HB2 HB1
 dsimp only
 obtain ⟨XL,hXL⟩: ∃q,x.length=q:=⟨_,rfl⟩
 have HXL:=hZq hXL
 rw[hXL]at HO2 ⊢
 clear hXL
 go_wp2
 have q2:CBox w.heap.size #[.int .i64 A, .int .i64 C] 44 ((w2.setCell ⟨w.heap.size,0,none⟩ (.int .i64 A)).setCell ⟨w.heap.size,1,none⟩ (.int .i64 C)):=(uQ HFB2).two _ _
 obtain ⟨z0,z1⟩:=q1m q2
 exact bodyPost_ret (v:= .tuple #[.slice ad XL cp, .int .i64 (k:Int), .agg #[.int .i64 A, .int .i64 C]]) (by simp[results,Tryz.results94,go_sem,z0,z1]) rfl ⟨ad,cp,k,A,C,x,by rw[uQ HXL],by rw[uQ HXL];exact uQ HO2,uQ HPF,uQ HB3⟩
open Go.RowKit Go.Shelf
def prC (tk:Value)(k:Nat)(sv:Value)(wi rA rC:Int):Array Value:=#[tk, .int .i64 (k:Int),sv, .int .i64 wi, .int .i64 rA, .int .i64 rC]
structure PB (gr:Nat)(tk:Value)(l:List Tk)(k:Nat)(sv:Value)(wi rA rC:Int)(W:World):Prop where
 tks:TksLow gr W tk l
 tab:TbE W
 low:8<=gr
 box:CBox gr (prC tk k sv wi rA rC) 61 W
 len:l.length<=100000
 ok: ∀t∈l,t.ok
 cap: ∃b off c,tk= .slice (some ⟨b,off,none⟩) l.length c/\l.length<=c/\c<=9223372036854775807
theorem PB.lt {gr:Nat}{tk:Value}{l:List Tk}{k:Nat}{sv:Value}{wi rA rC:Int}{W:World}(h:PB gr tk l k sv wi rA rC W):gr<W.heap.size:=(Array.getElem?_eq_some_iff.1 h.box).1
theorem PB.kp {F:List Nat}{gr:Nat}{tk:Value}{l:List Tk}{k:Nat}{sv:Value}{wi rA rC:Int}{W W':World}(h:PB gr tk l k sv wi rA rC W)(hk:Kp F W W')(hF: ∀x∈F,gr<x):PB gr tk l k sv wi rA rC W':=
 ⟨h.tks.below (hk.below (by have:=h.lt;omega) (fun x hx=>by have:=hF x hx;omega)),h.tab.kp hk (fun x hx=>by have:=hF x hx;have:=h.low;omega),h.low,h.box.kp hk (fun hm=>by have:=hF gr hm;omega),h.len,h.ok,h.cap⟩
theorem PB.put {gr:Nat}{tk:Value}{l:List Tk}{k:Nat}{sv:Value}{wi rA rC:Int}{W W':World}(h:PB gr tk l k sv wi rA rC W)(hk:Kp [gr] W W'){k':Nat}{sv':Value}{wi' rA' rC':Int}(hb:CBox gr (prC tk k' sv' wi' rA' rC') 61 W'):PB gr tk l k' sv' wi' rA' rC' W':=
 ⟨h.tks.below (hk.below (by have:=h.lt;omega) (by simp)),h.tab.kp hk (by simpa using h.low),h.low,hb,h.len,h.ok,h.cap⟩
theorem PB.next {gr:Nat}{tk:Value}{l:List Tk}{k:Nat}{sv:Value}{wi rA rC:Int}{W:World}(h:PB gr tk l k sv wi rA rC W):PB gr tk l (k+1) sv wi rA rC (W.setCell ⟨gr,1,none⟩ (.int .i64 ((k:Int)+1))):=by
 have e:((k:Int)+1)=((k+1:Nat):Int):=by omega
 rw[e]
 exact h.put (Kp.set W gr 1 _) (h.box.set 1 _)
theorem PB.cells {gr:Nat}{tk:Value}{l:List Tk}{k:Nat}{sv:Value}{wi rA rC:Int}{W:World}(h:PB gr tk l k sv wi rA rC W):W.cell? ⟨gr,0,none⟩=some tk/\W.cell? ⟨gr,1,none⟩=some (.int .i64 (k:Int))/\W.cell? ⟨gr,2,none⟩=some sv/\W.cell? ⟨gr,3,none⟩=some (.int .i64 wi)/\W.cell? ⟨gr,4,none⟩=some (.int .i64 rA)/\W.cell? ⟨gr,5,none⟩=some (.int .i64 rC)/\(∀i,W.frozen? ⟨gr,i,none⟩=false):=
 ⟨h.box.cell rfl,h.box.cell rfl,h.box.cell rfl,h.box.cell rfl,h.box.cell rfl,h.box.cell rfl,h.box.froz⟩
theorem q9O {p:Nat}{W W1:World}(h:Kp [] W W1)(i:Nat)(v:Value):Kp [p] W (W1.setCell ⟨p,i,none⟩ v):=(h.mono (by simp)).trans (Kp.set W1 p i v) (by simp)
theorem q3d {gr:Nat}{tk:Value}{l:List Tk}{k:Nat}{sv:Value}{wi rA rC:Int}{W:World}(h:PB gr tk l k sv wi rA rC W){t:Tk}{r:List Tk}(ht:l.drop k=t::r):
  Calls Tryz.prog 66 #[.pointer (some ⟨gr,0,none⟩)] W fun e w'=>e= .returned (.string (wdS t))/\Below W.heap.size W w':=by
 obtain ⟨hk,ha,_⟩:=q0g ht
 obtain ⟨b,off,cap,htk,hlt,hc⟩:=h.tks
 obtain ⟨c0,c1,c2,c3⟩:=hc k hk
 rw[ha]at c0 c1 c2 c3
 have hlen:=h.len
 have hgl:=h.lt
 obtain ⟨e1,e2,_⟩:=h.cells
 rw[htk]at e1
 clear h hc ha htk ht
 have al: ∀{q:Addr} {v:Value},W.cell? q=some v->q.block<W.heap.size->(W.alloc (.cells #[.int .i64 0, .string { data:=#[] }, .int .i64 0, .int .i64 0] 78)).cell? q=some v:=fun h _=>(Kp.alloc W _).cell h (by simp)
 have d0:=al c0 (by show b<_;omega)
 have d1:=al c1 (by show b<_;omega)
 have d2:=al c2 (by show b<_;omega)
 have d3:=al c3 (by show b<_;omega)
 have g1:=al e1 hgl
 have g2:=al e2 hgl
 clear al
 unfold wdS
 obtain ⟨kd,s,n,pl⟩:=t
 dsimp only at *
 go_enter Tryz.func66,Tryz.ntmps66
 go_wp2
 go_region
 clear c0 c1 c2 c3 d0 d1 d2 d3 e1 e2 g1 g2
 have hb: ∀o,Below W.heap.size W (W.alloc o).drew:=fun o=>((Below.refl _ _).alloc (Nat.le_refl _) _).trans ⟨rfl,rfl,rfl,Nat.le_refl _,fun _ _=>rfl⟩
 by_cases h1:kd=1
 ·subst h1
  go_wp2
  exact bodyPost_ret (results_tmp rfl _ _ _) rfl ⟨rfl,hb _⟩
 ·by_cases h4:kd=4
  ·subst h4
   go_wp2
   exact bodyPost_ret (results_tmp rfl _ _ _) rfl ⟨rfl,hb _⟩
  ·have g1:(kd==1)=false:=beq_eq_false_iff_ne.2 h1
   have g4:(kd==4)=false:=beq_eq_false_iff_ne.2 h4
   go_wp2
   exact bodyPost_ret (results_tmp rfl _ _ _) rfl ⟨by first|rfl|(rw[if_neg (by omega)];rfl),hb _⟩
theorem q2c {gr:Nat}{tk:Value}{l:List Tk}{k:Nat}{sv:Value}{wi rA rC:Int}{W:World}(h:PB gr tk l k sv wi rA rC W){t:Tk}{r:List Tk}(ht:l.drop k=t::r)(sg:ByteArray):
  Calls Tryz.prog 33 #[.pointer (some ⟨gr,0,none⟩), .string sg] W fun e w'=>e= .returned (.bool (decide (wdT t=sg.data.toList)))/\PB gr tk l (if wdT t=sg.data.toList then k+1 else k) sv wi rA rC w'/\Kp [gr] W w':=by
 have WD:=hZq (q3d h ht)
 have hk:k<=100000:=by obtain ⟨hk,_⟩:=q0g ht;have:=h.len;omega
 have HR:=hZq h
 rw[<-q1f]
 clear h ht
 generalize wdS t=S at *
 by_cases he:S.data.toList=sg.data.toList
 ·have heq:(S.toList==sg.toList)=true:=by rw[toList_data,toList_data,he];exact beq_self_eq_true _
  rw[if_pos he,decide_eq_true he]
  clear he
  go_enter Tryz.func33,Tryz.ntmps33
  go_wp2_with fail
  refine (uQ WD).mono ?_
  rintro e w1 ⟨rfl,hb⟩
  have HR1:=hZq ((uQ HR).kp (Kp.ofBelow hb) (by simp))
  obtain ⟨_,c1,_,_,_,_,fz⟩:=(uQ HR1).cells
  have HB:=hZq (Kp.ofBelow hb)
  clear hb HR WD
  go_wp2
  exact bodyPost_ret (results_tmp rfl _ _ _) rfl ⟨rfl,(uQ HR1).next,q9O (uQ HB) 1 _⟩
 ·have heq:(S.toList==sg.toList)=false:=by rw[toList_data,toList_data];exact beq_eq_false_iff_ne.2 he
  rw[if_neg he,decide_eq_false he]
  clear he
  go_enter Tryz.func33,Tryz.ntmps33
  go_wp2_with fail
  refine (uQ WD).mono ?_
  rintro e w1 ⟨rfl,hb⟩
  have HR1:=hZq ((uQ HR).kp (Kp.ofBelow hb) (by simp))
  have HB:=hZq ((Kp.ofBelow hb).mono (G:=[gr]) (by simp))
  clear hb HR WD
  go_wp2
  exact bodyPost_ret (results_tmp rfl _ _ _) rfl ⟨rfl,uQ HR1,uQ HB⟩
theorem eqL (s:ByteArray)(u:List UInt8):(s.toList==u)=decide (s.data.toList=u):=by
 rw[toList_data]
 by_cases h:s.data.toList=u
 ·rw[h];simp
 ·rw[decide_eq_false h];exact beq_eq_false_iff_ne.2 h
theorem q9e (s:ByteArray)(w:World):
  Calls Tryz.prog 93 #[.string s] w fun e w'=>e= .returned (.tuple #[.int .i64 ((hwOf s.data.toList).getD 0), .bool (hwOf s.data.toList).isSome])/\w'=w:=by
 have q1:=eqL s [97,110,121]
 have q2:=eqL s [116,104,101,110]
 have q3:=eqL s [110,101,120,116]
 have q4:=eqL s [115,116,97,114,116]
 unfold hwOf
 by_cases h1:s.data.toList=[97,110,121]
 ·rw[if_pos h1]
  rw[decide_eq_true h1]at q1
  clear q2 q3 q4 h1
  go_enter Tryz.func93,Tryz.ntmps93
  go_wp2
  exact bodyPost_ret (results_tmp2 rfl _ _ _) rfl ⟨rfl,rfl⟩
 ·rw[if_neg h1]
  rw[decide_eq_false h1]at q1
  by_cases h2:s.data.toList=[116,104,101,110]
  ·rw[if_pos h2]
   rw[decide_eq_true h2]at q2
   clear q3 q4 h1 h2
   go_enter Tryz.func93,Tryz.ntmps93
   go_wp2
   exact bodyPost_ret (results_tmp2 rfl _ _ _) rfl ⟨rfl,rfl⟩
  ·rw[if_neg h2]
   rw[decide_eq_false h2]at q2
   by_cases h3:s.data.toList=[110,101,120,116]
   ·rw[if_pos h3]
    rw[decide_eq_true h3]at q3
    clear q4 h1 h2 h3
    go_enter Tryz.func93,Tryz.ntmps93
    go_wp2
    exact bodyPost_ret (results_tmp2 rfl _ _ _) rfl ⟨rfl,rfl⟩
   ·rw[if_neg h3]
    rw[decide_eq_false h3]at q3
    by_cases h4:s.data.toList=[115,116,97,114,116]
    ·rw[if_pos h4]
     rw[decide_eq_true h4]at q4
     clear h1 h2 h3 h4
     go_enter Tryz.func93,Tryz.ntmps93
     go_wp2
     exact bodyPost_ret (results_tmp2 rfl _ _ _) rfl ⟨rfl,rfl⟩
    ·rw[if_neg h4]
     rw[decide_eq_false h4]at q4
     clear h1 h2 h3 h4
     go_enter Tryz.func93,Tryz.ntmps93
     go_wp2
     exact bodyPost_ret (results_tmp2 rfl _ _ _) rfl ⟨rfl,rfl⟩
def SB (gs:Nat)(nm:ByteArray)(hw:Int)(mn:Bool)(cv:Value)(W:World):Prop:=CBox gs #[.string nm, .int .i64 hw, .bool mn,cv] 86 W
theorem qa3 {gr gs:Nat}{W W1:World}(h:Kp [] W W1)(i j:Nat)(u v:Value):Kp [gr,gs] W ((W1.setCell ⟨gs,i,none⟩ u).setCell ⟨gr,j,none⟩ v):=((h.mono (by simp)).trans (Kp.set W1 gs i u) (by simp)).trans (Kp.set _ gr j v) (by simp)
theorem q3G {gr gs:Nat}{tk:Value}{l:List Tk}{k:Nat}{sv:Value}{wi rA rC:Int}{W:World}(h:PB gr tk l k sv wi rA rC W){t:Tk}{r:List Tk}(ht:l.drop k=t::r){nm:ByteArray}{hw:Int}{mn:Bool}{cv:Value}(hs:SB gs nm hw mn cv W)(hgs:gr<gs):
  Calls Tryz.prog 67 #[.pointer (some ⟨gr,0,none⟩), .pointer (some ⟨gs,0,none⟩)] W fun e w'=>e= .returned (.bool (hwOf (wdT t)).isSome)/\PB gr tk l (if (hwOf (wdT t)).isSome then k+1 else k) sv wi rA rC w'/\SB gs nm (if (hwOf (wdT t)).isSome then (hwOf (wdT t)).getD 0 else hw) mn cv w'/\Kp [gr,gs] W w':=by
 have WD:=hZq (q3d h ht)
 have hk:k<=100000:=by obtain ⟨hk,_⟩:=q0g ht;have:=h.len;omega
 have HR:=hZq h
 have HS:=hZq hs
 have HO:=hZq (fun W=>q9e (wdS t) W)
 rw[q1f]at HO
 clear h ht hs
 generalize wdS t=S at *
 generalize hwOf (wdT t)=Q at *
 cases Q with
 |none=>
  simp only[Option.isSome_none,Option.getD_none]at HO ⊢
  rw[if_neg (by simp),if_neg (by simp)]
  go_enter Tryz.func67,Tryz.ntmps67
  go_wp2_with fail
  refine (uQ WD).mono ?_
  rintro e w1 ⟨rfl,hb⟩
  have HR1:=hZq ((uQ HR).kp (Kp.ofBelow hb) (by simp))
  have HS1:=hZq (CBox.kp (uQ HS) (Kp.ofBelow hb) (by simp))
  have HB:=hZq ((Kp.ofBelow hb).mono (G:=[gr,gs]) (by simp))
  clear hb HR WD HS
  dsimp only
  go_wp2_with fail
  refine (uQ HO _).mono ?_
  rintro e w2 ⟨rfl,rfl⟩
  clear HO
  go_wp2
  exact bodyPost_ret (results_tmp rfl _ _ _) rfl ⟨rfl,uQ HR1,uQ HS1,uQ HB⟩
 |some q=>
  simp only[Option.isSome_some,Option.getD_some]at HO ⊢
  rw[if_pos trivial,if_pos trivial]
  go_enter Tryz.func67,Tryz.ntmps67
  go_wp2_with fail
  refine (uQ WD).mono ?_
  rintro e w1 ⟨rfl,hb⟩
  have HR1:=hZq ((uQ HR).kp (Kp.ofBelow hb) (by simp))
  have hs1:SB gs nm hw mn cv w1:=CBox.kp (uQ HS) (Kp.ofBelow hb) (by simp)
  have z1:=hs1.cell (i:=1) (v:= .int .i64 hw) rfl
  have zf:=CBox.froz hs1
  have HR2:Hid (PB gr tk l k sv wi rA rC (w1.setCell ⟨gs,1,none⟩ (.int .i64 q))):=hZq ((uQ HR1).kp (Kp.set w1 gs 1 _) (by simpa using hgs))
  obtain ⟨_,c1,_,_,_,_,fz⟩:=(uQ HR2).cells
  have HS2:Hid (SB gs nm q mn cv (w1.setCell ⟨gs,1,none⟩ (.int .i64 q))):=hZq (hs1.set 1 _)
  have HS3:Hid (SB gs nm q mn cv ((w1.setCell ⟨gs,1,none⟩ (.int .i64 q)).setCell ⟨gr,1,none⟩ (.int .i64 ((k:Int)+1)))):=hZq (CBox.kp (uQ HS2) (Kp.set _ gr 1 _) (by simp;omega))
  have HB:=hZq (Kp.ofBelow hb)
  have hltg:gs<w1.heap.size:=(Array.getElem?_eq_some_iff.1 hs1).1
  clear hb HR WD HS hs1
  dsimp only
  go_wp2_with fail
  refine (uQ HO _).mono ?_
  rintro e w2 ⟨rfl,rfl⟩
  clear HO
  go_wp2
  exact bodyPost_ret (results_tmp rfl _ _ _) rfl ⟨rfl,(uQ HR2).next,uQ HS3,qa3 (uQ HB) _ _ _ _⟩
theorem q53 {gr gs:Nat}{tk:Value}{l:List Tk}{k:Nat}{sv:Value}{wi rA rC:Int}{W:World}(h:PB gr tk l k sv wi rA rC W){t:Tk}{r:List Tk}(ht:l.drop k=t::r){nm:ByteArray}{hw:Int}{mn:Bool}{cv:Value}(hs:SB gs nm hw mn cv W)(hgs:gr<gs):
  Calls Tryz.prog 68 #[.pointer (some ⟨gr,0,none⟩), .pointer (some ⟨gs,0,none⟩)] W fun e w'=>e= .returned (.bool (isSg (wdS t)))/\PB gr tk l (if isSg (wdS t) then k+1 else k) sv wi rA rC w'/\SB gs (if isSg (wdS t) then wdS t else nm) hw mn cv w'/\Kp [gr,gs] W w':=by
 have WD:=hZq (q3d h ht)
 have hkt:=q0g ht
 have hk:k<=100000:=by obtain ⟨hk,_⟩:=hkt;have:=h.len;omega
 have hsz:(wdS t).size<=9223372036854775807:=by
  obtain ⟨hk,he,_⟩:=hkt
  have:=h.ok t (by rw[<-he];exact List.getElem_mem _)
  unfold wdS
  split
  ·exact this.2.1
  ·show (0:Nat)<=_;omega
 have HR:=hZq h
 have HS:=hZq hs
 have HIN:=hZq (fun W hW=>q3Z (wdS t) W hW hsz)
 clear h ht hs hkt
 generalize wdS t=S at *
 generalize isSg S=Q at *
 cases Q with
 |false=>
  rw[if_neg (by simp),if_neg (by simp)]
  go_enter Tryz.func68,Tryz.ntmps68
  go_wp2_with fail
  refine (uQ WD).mono ?_
  rintro e w1 ⟨rfl,hb⟩
  have HR1:=hZq ((uQ HR).kp (Kp.ofBelow hb) (by simp))
  have HS1:=hZq (CBox.kp (uQ HS) (Kp.ofBelow hb) (by simp))
  have HB:=hZq (Kp.ofBelow hb)
  have IN:=hZq (uQ HIN w1 (uQ HR1).tab)
  clear hb HR WD HS HIN
  go_wp2_with fail
  refine (uQ IN).mono ?_
  rintro e w2 ⟨rfl,hb2⟩
  have HR2:=hZq ((uQ HR1).kp (Kp.ofBelow hb2) (by simp))
  have HS2:=hZq (CBox.kp (uQ HS1) (Kp.ofBelow hb2) (by simp))
  have HB2:=hZq (((uQ HB).trans (Kp.ofBelow hb2) (by simp)).mono (G:=[gr,gs]) (by simp))
  clear hb2 HR1 HS1 HB IN
  go_wp2
  exact bodyPost_ret (results_tmp rfl _ _ _) rfl ⟨rfl,uQ HR2,uQ HS2,uQ HB2⟩
 |true=>
  rw[if_pos rfl,if_pos rfl]
  go_enter Tryz.func68,Tryz.ntmps68
  go_wp2_with fail
  refine (uQ WD).mono ?_
  rintro e w1 ⟨rfl,hb⟩
  have HR1:=hZq ((uQ HR).kp (Kp.ofBelow hb) (by simp))
  have HS1:=hZq (CBox.kp (uQ HS) (Kp.ofBelow hb) (by simp))
  have HB:=hZq (Kp.ofBelow hb)
  have IN:=hZq (uQ HIN w1 (uQ HR1).tab)
  clear hb HR WD HS HIN
  go_wp2_with fail
  refine (uQ IN).mono ?_
  rintro e w2 ⟨rfl,hb2⟩
  have hs2:SB gs nm hw mn cv w2:=CBox.kp (uQ HS1) (Kp.ofBelow hb2) (by simp)
  have z1:=hs2.cell (i:=0) (v:= .string nm) rfl
  have zf:=CBox.froz hs2
  have HR2:Hid (PB gr tk l k sv wi rA rC (w2.setCell ⟨gs,0,none⟩ (.string S))):=hZq (((uQ HR1).kp (Kp.ofBelow hb2) (by simp)).kp (Kp.set w2 gs 0 _) (by simpa using hgs))
  obtain ⟨_,c1,_,_,_,_,fz⟩:=(uQ HR2).cells
  have HS2:Hid (SB gs S hw mn cv (w2.setCell ⟨gs,0,none⟩ (.string S))):=hZq (hs2.set 0 _)
  have HS3:Hid (SB gs S hw mn cv ((w2.setCell ⟨gs,0,none⟩ (.string S)).setCell ⟨gr,1,none⟩ (.int .i64 ((k:Int)+1)))):=hZq (CBox.kp (uQ HS2) (Kp.set _ gr 1 _) (by simp;omega))
  have HB2:=hZq ((uQ HB).trans (Kp.ofBelow hb2) (by simp))
  have hltg:gs<w2.heap.size:=(Array.getElem?_eq_some_iff.1 hs2).1
  clear hb2 HR1 HS1 HB IN hs2
  go_wp2
  exact bodyPost_ret (results_tmp rfl _ _ _) rfl ⟨rfl,(uQ HR2).next,uQ HS3,qa3 (uQ HB2) _ _ _ _⟩
open Go.RowKit Go.Shelf
theorem TksAt.drop {w:World}{b off:Nat}{l:List Tk}(h:TksAt w (some ⟨b,off,none⟩) l)(k:Nat):TksAt w (some ⟨b,off+k * 4,none⟩) (l.drop k):=fun hne=>by
 have hl:k<l.length:=by
  rcases Nat.lt_or_ge k l.length with h1|h1
  ·exact h1
  ·exact absurd (List.drop_eq_nil_of_le h1) hne
 obtain ⟨b',off',e,hlt,hc⟩:=h (fun e=>by rw[e]at hl;simp at hl)
 cases e
 refine ⟨b,off+k * 4,rfl,hlt,fun i hi=>?_⟩
 rw[List.length_drop]at hi
 have:=hc (k+i) (by omega)
 rw[show off+(k+i) * 4=off+k * 4+i * 4 by omega]at this
 simpa [List.getElem_drop] using this
theorem TksLow.at' {B:Nat}{w:World}{b off c:Nat}{l:List Tk}(h:TksLow B w (.slice (some ⟨b,off,none⟩) l.length c) l)(hB:B<=w.heap.size):TksAt w (some ⟨b,off,none⟩) l:=fun _=>by
 obtain ⟨b',off',c',e,hlt,hc⟩:=h
 cases e
 exact ⟨b,off,rfl,by omega,hc⟩
theorem Kp.drew2 {F:List Nat}{X Y:World}(h:Kp F X Y):Kp F X.drew Y.drew:=⟨h.os,h.tape,h.output,h.size,h.block⟩
theorem q7D {W V:World}(h:Kp [] W V){g:Nat}(hg:W.heap.size<=g)(x y:Value):Kp [] W ((V.setCell ⟨g,0,none⟩ x).setCell ⟨g,1,none⟩ y):=
 (h.trans (Kp.set V g 0 x) (fun z hz=>Or.inr (by simp at hz;omega))).trans (Kp.set _ g 1 y) (fun z hz=>Or.inr (by simp at hz;omega))
theorem q9G {gr gs:Nat}{tk:Value}{l:List Tk}{k n:Nat}{sv:Value}{wi rA rC:Int}{W:World}(h:PB gr tk l k sv wi rA rC W)(hk:k<l.length)(hL:Tail (l.drop k) n){nm:ByteArray}{hw:Int}{mn:Bool}{cv:Value}(hs:SB gs nm hw mn cv W)(hgs:gr<gs):
  Calls Tryz.prog 69 #[.pointer (some ⟨gr,0,none⟩), .pointer (some ⟨gs,0,none⟩)] W fun e w'=> ∃ad cp j A C x,e= .returned (.bool (decide (C=0)))/\PB gr tk l (k+j) sv wi A C w'/\SB gs nm hw mn (.slice ad x.length cp) w'/\OwnsP W.heap.size w' (.slice ad x.length cp) x/\PsF (l.drop k) x j A C/\Kp [gr,gs] W w':=by
 obtain ⟨b,off,cap,htk,hcp1,hcp2⟩:=h.cap
 subst htk
 have hlen:=h.len
 have hA:=((h.tks.at' (by have:=h.lt;omega)).drop k)
 have hTb:=h.tab
 have HEP:=hZq (fun V (hk:Kp [] W V)=>q85 b (off+k * 4) (cap-k) (l.drop k) n hL V (hTb.kp hk (by simp)) (by rw[List.length_drop];omega) (by omega) (hA.kp hk))
 rw[List.length_drop]at HEP
 obtain ⟨c0,c1,c2,c3,c4,c5,fz⟩:=h.cells
 have HR:=hZq h
 have HS:=hZq hs
 have hltr:=h.lt
 have HCK:Hid (∀V,Kp [] W V->V.cell? ⟨gr,0,none⟩=some (.slice (some ⟨b,off,none⟩) l.length cap)/\V.cell? ⟨gr,1,none⟩=some (.int .i64 (k:Int))):=hZq (fun V hk=>⟨hk.cell c0 (by simp),hk.cell c1 (by simp)⟩)
 have ka:Kp [] W W.drew:=Kp.drew W
 have kb:Kp [] W (W.alloc (.cells #[.int .i64 0, .int .i64 0] 44)).drew:=(Kp.alloc W _).trans (Kp.drew _) (by simp)
 have fbb:FBox W.heap.size (W.alloc (.cells #[.int .i64 0, .int .i64 0] 44)).drew:=CBox.new W _ _
 have sa:=uQ HCK _ ka
 have sb:=uQ HCK _ kb
 have HKA:=hZq ka
 have HKB:=hZq kb
 have HFB:=hZq fbb
 have hkl:(k:Int)<=(l.length:Int):=by omega
 have hkc:(k:Int)<=(cap:Int):=by omega
 have hlc:(l.length:Int)<=(cap:Int):=by omega
 have hck:(cap=k)=False:=by simp;omega
 have HPA:=hZq (uQ HEP _ ka)
 have HPB:=hZq (uQ HEP _ kb)
 clear h hs hA hTb c0 c1 c2 c3 c4 c5 fz fbb HEP
 obtain ⟨LN,hLN⟩: ∃q,l.length=q:=⟨_,rfl⟩
 have HLN:=hZq hLN
 rw[hLN]at sa sb HPA HPB HCK hkl hlc hk hcp1 hlen
 clear hLN
 go_enter Tryz.func69,Tryz.ntmps69
 go_wp2_with fail
 go_cut [5,6,7] (fun v5 v6 v7 wc=> ∃gf ad cp j A C x,v5= .slice ad (x:List Pt).length cp/\v6= .int .i64 ((j:Nat):Int)/\v7= .pointer (some ⟨gf,0,none⟩)/\Hid (CBox gf #[.int .i64 A, .int .i64 C] 44 wc/\W.heap.size<=gf/\OwnsP W.heap.size wc (.slice ad x.length cp) x/\PsF (l.drop k) x j A C/\Kp [] W wc))
 case first=>
  go_region_held3 (fun V=>V.cell? ⟨gr,0,none⟩=some (.slice (some ⟨b,off,none⟩) LN cap)/\V.cell? ⟨gr,1,none⟩=some (.int .i64 (k:Int)))
   (first|with_reducible exact sa|with_reducible exact sb|with_reducible exact sc|with_reducible exact sd|with_reducible exact se|with_reducible exact sf)
   (first
    |(go_at_call 94;(with_reducible refine (uQ HPA).mono ?_);rintro e w1 ⟨ad,cp,j,A,C,x,rfl,ho,hf,hb1⟩;have kw:Kp [] W w1:=ka.trans (Kp.ofBelow hb1) (by simp);have sc:=uQ HCK w1 kw;have sd:=uQ HCK (w1.alloc (.cells #[.int .i64 0, .int .i64 0] 44)) (kw.trans (Kp.alloc w1 _) (by simp));have se:=uQ HCK (w1.alloc (.cells #[.int .i64 A, .int .i64 C] 44)) (kw.trans (Kp.alloc w1 _) (by simp)))
    |(go_at_call 94;(with_reducible refine (uQ HPB).mono ?_);rintro e w1 ⟨ad,cp,j,A,C,x,rfl,ho,hf,hb1⟩;have kw:Kp [] W w1:=kb.trans (Kp.ofBelow hb1) (by simp);have sc:=uQ HCK w1 kw;have sf:=uQ HCK _ (q7D kw (Nat.le_refl _) (.int .i64 A) (.int .i64 C));have hfb:FBox W.heap.size w1:=CBox.kp (uQ HFB) (Kp.ofBelow hb1) (by simp);obtain ⟨f0,f1,z0,z1⟩:=FBox.cells hfb))
  ·go_wp2_with fail
   go_meet
   refine ⟨w1.heap.size,ad,cp,j,A,C,x,rfl,rfl,rfl,hZq ⟨CBox.new w1 _ _,kw.size,?_,hf,kw.trans (Kp.alloc w1 _) (by simp)⟩⟩
   exact (ho.mono (Nat.le_refl _)).kp (Kp.alloc w1 _)
  ·go_wp2_with fail
   go_meet
   refine ⟨W.heap.size,ad,cp,j,A,C,x,rfl,rfl,rfl,hZq ⟨FBox.two hfb _ _,Nat.le_refl _,?_,hf,q7D kw (Nat.le_refl _) _ _⟩⟩
   have hne:=q0d ho hfb (by decide)
   refine q02 (F:=[W.heap.size]) (ho.mono (by have:=kb.size;omega)) ((Kp.set w1 W.heap.size 0 (.int .i64 A)).trans (Kp.set (w1.setCell ⟨W.heap.size,0,none⟩ (.int .i64 A)) W.heap.size 1 (.int .i64 C)) (by simp)) (fun g hg=>by rw[hg]at hne;simp at hne ⊢;exact hne)
 case rest=>
  obtain ⟨gf,ad,cp,j,A,C,x,rfl,rfl,rfl,HX⟩:=hcut
  obtain ⟨hf,hgf,ho,hps,hkw⟩:=uQ HX
  have hltw:=hkw.size
  have hgsl:gs<W.heap.size:=(Array.getElem?_eq_some_iff.1 (uQ HS)).1
  have h1:=(uQ HR).kp (hkw.trans (Kp.drew wc) (by simp)) (by simp)
  have h2:SB gs nm hw mn cv wc.drew:=CBox.kp (CBox.kp (uQ HS) hkw (by simp)) (Kp.drew wc) (by simp)
  have h3:CBox gf #[.int .i64 A, .int .i64 C] 44 wc.drew:=CBox.kp hf (Kp.drew wc) (by simp)
  have f0:=h3.cell (i:=0) (v:= .int .i64 A) rfl
  have f1:=h3.cell (i:=1) (v:= .int .i64 C) rfl
  have s3:=CBox.cell h2 (i:=3) (v:=cv) rfl
  have sz:=CBox.froz h2
  obtain ⟨_,c1,_,_,c4,c5,fz⟩:=h1.cells
  obtain ⟨_,p1,_,_,p4,p5,pz⟩:=((uQ HR).kp hkw (by simp)).cells
  have p4z:=pz 4
  have p5z:=pz 5
  have HPS:=hZq hps
  have k1:Kp [gs] wc (wc.setCell ⟨gs,3,none⟩ (.slice ad x.length cp)).drew:=(Kp.set wc gs 3 (.slice ad x.length cp)).trans (Kp.drew _) (by simp)
  have h2b:SB gs nm hw mn (.slice ad x.length cp) (wc.setCell ⟨gs,3,none⟩ (.slice ad x.length cp)).drew:=CBox.set h2 3 _
  have h1b:=((uQ HR).kp hkw (by simp)).kp k1 (by simpa using hgs)
  have h3b:CBox gf #[.int .i64 A, .int .i64 C] 44 (wc.setCell ⟨gs,3,none⟩ (.slice ad x.length cp)).drew:=CBox.kp hf k1 (by simp;omega)
  have g0:=h3b.cell (i:=0) (v:= .int .i64 A) rfl
  have g1:=h3b.cell (i:=1) (v:= .int .i64 C) rfl
  obtain ⟨_,d1,_,_,d4,d5,dz⟩:=h1b.cells
  have kgr:Kp [gr] (wc.setCell ⟨gs,3,none⟩ (.slice ad x.length cp)).drew (((wc.setCell ⟨gs,3,none⟩ (.slice ad x.length cp)).setCell ⟨gr,4,none⟩ (.int .i64 A)).setCell ⟨gr,5,none⟩ (.int .i64 C)).drew:=((Kp.set (wc.setCell ⟨gs,3,none⟩ (.slice ad x.length cp)) gr 4 (.int .i64 A)).trans (Kp.set _ gr 5 (.int .i64 C)) (by simp)).drew2
  have h1c:PB gr (.slice (some ⟨b,off,none⟩) l.length cap) l k sv wi A C (((wc.setCell ⟨gs,3,none⟩ (.slice ad x.length cp)).setCell ⟨gr,4,none⟩ (.int .i64 A)).setCell ⟨gr,5,none⟩ (.int .i64 C)).drew:=h1b.put kgr ((h1b.box.set 4 _).set 5 _)
  obtain ⟨_,e1,_,_,_,_,ez⟩:=h1c.cells
  have kc:Kp [gr,gs] wc (((wc.setCell ⟨gs,3,none⟩ (.slice ad x.length cp)).setCell ⟨gr,4,none⟩ (.int .i64 A)).setCell ⟨gr,5,none⟩ (.int .i64 C)).drew:=(k1.mono (by simp)).trans kgr (by simp)
  have h2c:SB gs nm hw mn (.slice ad x.length cp) (((wc.setCell ⟨gs,3,none⟩ (.slice ad x.length cp)).setCell ⟨gr,4,none⟩ (.int .i64 A)).setCell ⟨gr,5,none⟩ (.int .i64 C)).drew:=CBox.kp h2b kgr (by simp;omega)
  have h3c:CBox gf #[.int .i64 A, .int .i64 C] 44 (((wc.setCell ⟨gs,3,none⟩ (.slice ad x.length cp)).setCell ⟨gr,4,none⟩ (.int .i64 A)).setCell ⟨gr,5,none⟩ (.int .i64 C)).drew:=CBox.kp hf kc (by simp;omega)
  have hoc:OwnsP W.heap.size (((wc.setCell ⟨gs,3,none⟩ (.slice ad x.length cp)).setCell ⟨gr,4,none⟩ (.int .i64 A)).setCell ⟨gr,5,none⟩ (.int .i64 C)).drew (.slice ad x.length cp) x:=q02 ho kc (fun g hg=>by have:=(World.ownsRow.lt ho g hg).1;simp;omega)
  have HE1:=hZq h1c
  have HE2:=hZq h2c
  have HE3:=hZq hoc
  have HE4:=hZq ((hkw.mono (G:=[gr,gs]) (by simp)).trans kc (by simp))
  have hjl:k+j<=100000:=by
   rcases hps with ⟨_,_,hj,_⟩|⟨_,hj,_⟩
   ·rw[List.length_drop,uQ HLN]at hj;omega
   ·omega
  have HE6:Hid (∀V,V=(((wc.setCell ⟨gs,3,none⟩ (.slice ad x.length cp)).setCell ⟨gr,4,none⟩ (.int .i64 A)).setCell ⟨gr,5,none⟩ (.int .i64 C)).drew->V.cell? ⟨gf,0,none⟩=some (.int .i64 A)/\(V.setCell ⟨gr,1,none⟩ (.int .i64 ((k:Int)+(j:Int)))).cell? ⟨gf,1,none⟩=some (.int .i64 C)):=hZq (fun V e=>by
   subst e
   exact ⟨h3c.cell rfl,(CBox.kp h3c (Kp.set _ gr 1 _) (by simp;omega)).cell rfl⟩)
  clear HX hf hgf ho hps hkw h1 h2 h3 h2b h1b kgr kc k1 h1c h2c h3c h3b hoc HS HR HKA HKB HFB HCK ka kb HPA HPB sa sb
  obtain ⟨XL,hXL⟩: ∃q,x.length=q:=⟨_,rfl⟩
  have HXL:=hZq hXL
  rw[hXL]at HE1 HE2 HE3 HE4 HE6 d1 d4 d5 dz e1 ez g0 g1 ⊢
  clear hXL
  go_wp2_with fail
  go_region
  clear f0 f1 s3 sz c1 c4 c5 fz g0 g1 d1 d4 d5 dz p1 p4 p5 pz p4z p5z
  obtain ⟨_,g1⟩:=uQ HE6 _ rfl
  generalize (((wc.setCell ⟨gs,3,none⟩ (.slice ad XL cp)).setCell ⟨gr,4,none⟩ (.int .i64 A)).setCell ⟨gr,5,none⟩ (.int .i64 C)).drew=V at *
  go_wp2_with fail
  have ekj:((k:Int)+(j:Int))=((k+j:Nat):Int):=by omega
  have F1:PB gr (.slice (some ⟨b,off,none⟩) l.length cap) l (k+j) sv wi A C (V.setCell ⟨gr,1,none⟩ (.int .i64 ((k:Int)+(j:Int)))):=by
   rw[ekj]
   exact (uQ HE1).put (Kp.set V gr 1 _) ((uQ HE1).box.set 1 _)
  refine bodyPost_ret (results_tmp rfl _ _ _) rfl ⟨ad,cp,j,A,C,x,rfl,F1,?_,?_,uQ HPS,(uQ HE4).trans (Kp.set V gr 1 _) (by simp)⟩
  ·rw[uQ HXL]
   exact CBox.kp (uQ HE2) (Kp.set V gr 1 _) (by simp;omega)
  ·rw[uQ HXL]
   have ho:=uQ HE3
   exact q02 ho (Kp.set V gr 1 _) (fun g hg=>by have:=(World.ownsRow.lt ho g hg).1;simp;omega)
end Go.Proofs.YtcmjnlpofebbmaaGreatDoor
