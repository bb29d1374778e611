/-
  Walks and plain facts, made small.
-/
import Derived.Test.YtcmjnlpofebbmaaGreatDoorMa24
import Derived.Deep.RegionLaw
set_option maxRecDepth 100000
set_option maxHeartbeats 8000000
set_option linter.unusedSimpArgs false
namespace Go.Proofs.YtcmjnlpofebbmaaGreatDoor
open Go.RowKit Go.Shelf
def srE (r:SR):List Value:=[.string r.s.nm, .int .i64 r.s.hw, .bool r.s.mn, .slice r.ad r.s.cd.length r.c]
theorem qdd (r:SR):(srE r).length=4:=rfl
theorem qcH:(Tryz.prog.info? 86).map (fun i=>(i.zero,i.size,i.bytes))=some (some (.agg #[.string ⟨#[]⟩, .int .i64 0, .bool false, .slice none 0 0]),4,56):=by kernel_rfl
structure OwnsG (B:Nat)(w:World)(v:Value)(l:List SR):Prop where
 row:w.ownsRow B 86 4 v l.length (l.flatMap srE)
 cds: ∀r∈l,OwnsP B w (.slice r.ad r.s.cd.length r.c) r.s.cd
theorem OwnsG.nil (B:Nat)(w:World):OwnsG B w (.slice none 0 0) []:=⟨World.ownsRow_nil _ _ _ _,by simp⟩
theorem OwnsG.kp {F:List Nat}{B:Nat}{w w':World}{v:Value}{l:List SR}(h:OwnsG B w v l)(hk:Kp F w w')(hF: ∀x∈F,x<B):OwnsG B w' v l:=
 ⟨q02 h.row hk (fun g hg hm=>by have:=(World.ownsRow.lt h.row g hg).1;have:=hF g hm;omega),fun r hr=>q02 (h.cds r hr) hk (fun g hg hm=>by have:=(World.ownsRow.lt (h.cds r hr) g hg).1;have:=hF g hm;omega)⟩
theorem OwnsG.at {B:Nat}{w:World}{v:Value}{l:List SR}(h:OwnsG B w v l): ∃ad cp,v= .slice ad l.length cp/\StsAt w ad l/\l.length<=cp:=by
 obtain ⟨_,⟨rfl,h0⟩|⟨g,cp,cur,rfl,_,_,hcap,_⟩⟩:=id h.row
 ·refine ⟨none,0,by rw[h0],fun hne=>?_,by omega⟩
  exact absurd (List.eq_nil_of_length_eq_zero h0) hne
 ·have hl:=World.ownsRow.lt h.row g rfl
  refine ⟨_,_,rfl,fun _=>⟨g,0,rfl,hl.2,fun i hi=>?_⟩,hcap⟩
  have c:=fun j (hj:j<4)=>q0t qdd h.row i j hi hj
  simp only[Nat.zero_add]
  obtain ⟨a',c',e',hat,_⟩:=(h.cds l[i] (List.getElem_mem hi)).at
  injection e' with e1 e2 e3
  exact ⟨c 0 (by omega),c 1 (by omega),c 2 (by omega),c 3 (by omega),by rw[e1];exact hat⟩
theorem q06 {l:List Tk}{k:Nat}(h:k<l.length):l.drop k=l[k]::l.drop (k+1):=List.drop_eq_getElem_cons h
theorem Tail.step {l:List Tk}{k n:Nat}(h:Tail (l.drop k) n){t:Tk}{r:List Tk}(ht:l.drop k=t::r)(hk:t.kd≠0):k+1<l.length/\Tail (l.drop (k+1)) n/\r=l.drop (k+1):=by
 obtain ⟨hkl,_,hr⟩:=q0g ht
 have he:=h.endd
 rw[ht]at he
 have hne:=(he.tail hk).ne
 have h1:1<(l.drop k).length:=by
  rw[ht]
  have:=List.length_pos_iff.2 hne
  simp
  exact this
 rw[List.length_drop]at h1
 refine ⟨by omega,?_,hr.symm⟩
 have:=h.drop 1 (by rw[List.length_drop];omega)
 rwa [List.drop_drop]at this
theorem Tail.far {l:List Tk}{k n:Nat}(h:Tail (l.drop k) n){x:List Pt}{j:Nat}(hp:psR (l.drop k)= .good x ((l.drop k).drop j)):k+j<l.length/\Tail (l.drop (k+j)) n/\(l.drop k).drop j=l.drop (k+j):=by
 have:=(q2x (mRd 0 (l.drop k)) 0 0 [] (l.drop k) h.endd).1
 unfold psR at hp
 rw[hp]at this
 have hne:=this.1.ne
 rw[List.drop_drop]at hne
 have hj:k+j<l.length:=by
  rcases Nat.lt_or_ge (k+j) l.length with h1|h1
  ·exact h1
  ·exact absurd (List.drop_eq_nil_of_le h1) hne
 refine ⟨hj,?_,by rw[List.drop_drop]⟩
 have:=h.drop j (by rw[List.length_drop];omega)
 rwa [List.drop_drop]at this
theorem qeI {t:Tk}(h:isSg (wdS t)=true):t.kd≠0:=by
 intro e
 have:=(q38 h).1
 unfold wdS at this
 rw[if_neg (by omega)]at this
 exact absurd this (by decide)
theorem qeu {t:Tk}(h:(hwOf (wdT t)).isSome=true):t.kd≠0:=by
 refine q0Q fun e=>?_
 rw[e]at h
 exact absurd h (by decide)
def StT (gr:Nat)(tk:Value)(l:List Tk)(n:Nat)(sv:Value)(wi:Int)(rs:List SR)(W:World)(R:SRd)(e:Ending)(w':World):Prop:=match R with
 | .bad a c=>e= .returned (.bool false)/\ ∃k' A C,PB gr tk l k' sv wi A C w'/\k'<l.length/\((C≠0/\a=A/\c=C)\/(C=0/\a=hdPl (l.drop k')/\c=120))/\Kp [gr] W w'
 | .good s r=>e= .returned (.bool true)/\ ∃k' sv' ad cp,PB gr tk l k' sv' wi 0 0 w'/\k'<l.length/\Tail (l.drop k') n/\l.drop k'=r/\OwnsG (gr+1) w' sv' (rs++[⟨s,ad,cp⟩])/\Below gr W w'
theorem StT.bad {gr:Nat}{tk:Value}{l:List Tk}{n:Nat}{sv:Value}{wi:Int}{rs:List SR}{W w':World}{R:SRd}{k':Nat}(h:PB gr tk l k' sv wi 0 0 w')(hk:k'<l.length)(hK:Kp [gr] W w')(hR:R= .bad (hdPl (l.drop k')) 120):StT gr tk l n sv wi rs W R (.returned (.bool false)) w':=by
 subst hR
 exact ⟨rfl,k',0,0,h,hk,Or.inr ⟨rfl,rfl,rfl⟩,hK⟩
theorem q6Z {gr:Nat}{tk:Value}{l:List Tk}{k:Nat}{sv:Value}{wi rA rC:Int}{W:World}(h:PB gr tk l k sv wi rA rC W){t:Tk}{r:List Tk}(ht:l.drop k=t::r):
  Calls Tryz.prog 35 #[.pointer (some ⟨gr,0,none⟩)] W fun e w'=>e= .returned (.bool (decide (t.kd=2)))/\PB gr tk l (if t.kd=2 then k+1 else k) sv (if t.kd=2 then (if 257<t.n then 257 else t.n) else wi) rA rC w'/\Kp [gr] W w':=by
 obtain ⟨hk,ha,_⟩:=q0g ht
 obtain ⟨b,off,cap,htk,hlt,hc⟩:=h.tks
 obtain ⟨c0,c1,c2,c3⟩:=hc k hk
 rw[ha]at c0 c1 c2 c3
 have hlen:=h.len
 have hgl:=h.lt
 obtain ⟨e1,e2,_⟩:=h.cells
 rw[htk]at e1
 have HR:=hZq h
 clear h hc ha htk ht
 have al: ∀{q:Addr} {v:Value},W.cell? q=some v->q.block<W.heap.size->(W.alloc (.cells #[.int .i64 0, .string { data:=#[] }, .int .i64 0, .int .i64 0] 78)).cell? q=some v:=fun h _=>(Kp.alloc W _).cell h (by simp)
 have d0:=al c0 (by show b<_;omega)
 have d1:=al c1 (by show b<_;omega)
 have d2:=al c2 (by show b<_;omega)
 have d3:=al c3 (by show b<_;omega)
 have g1:=al e1 hgl
 have g2:=al e2 hgl
 clear al
 obtain ⟨kd,s,n,pl⟩:=t
 dsimp only at *
 by_cases h2:kd=2
 ·rw[if_pos h2,if_pos h2,decide_eq_true h2]
  subst h2
  obtain ⟨M,hM⟩: ∃M,(if 257<n then (257:Int) else n)=M:=⟨_,rfl⟩
  have hmn:min n 257=M:=by rw[<-hM];split <;> omega
  rw[hM]
  clear hM
  go_enter Tryz.func35,Tryz.ntmps35
  go_wp2
  go_region
  clear c0 c1 c2 c3 d0 d1 d2 d3 e1 e2 g1 g2
  have hkV:Kp [] W (W.alloc (.cells #[.int .i64 2, .string s, .int .i64 n, .int .i64 pl] 78)).drew:=(Kp.alloc W _).trans (Kp.drew _) (by simp)
  have hPV:=(uQ HR).kp hkV (by simp)
  obtain ⟨_,c1,_,c3,_,_,fz⟩:=hPV.cells
  have t2:(W.alloc (.cells #[.int .i64 2, .string s, .int .i64 n, .int .i64 pl] 78)).drew.cell? ⟨W.heap.size,2,none⟩=some (.int .i64 n):=(CBox.new W _ _).cell rfl
  have t0:(W.alloc (.cells #[.int .i64 2, .string s, .int .i64 n, .int .i64 pl] 78)).drew.cell? ⟨W.heap.size,0,none⟩=some (.int .i64 2):=(CBox.new W _ _).cell rfl
  have HKV:=hZq hkV
  have HPV:=hZq hPV
  have hlV:W.heap.size<(W.alloc (.cells #[.int .i64 2, .string s, .int .i64 n, .int .i64 pl] 78)).drew.heap.size:=by show W.heap.size<(W.alloc _).heap.size;simp
  clear hkV hPV HR
  generalize (W.alloc (.cells #[.int .i64 2, .string s, .int .i64 n, .int .i64 pl] 78)).drew=V at *
  generalize W.heap.size=G at *
  have HP2:Hid (∀m:Int,PB gr tk l k sv m rA rC (V.setCell ⟨gr,3,none⟩ (.int .i64 m))):=hZq (fun m=>(uQ HPV).put (Kp.set V gr 3 _) ((uQ HPV).box.set 3 _))
  obtain ⟨_,x1,_,_,_,_,xz⟩:=(uQ HP2 M).cells
  go_wp2
  exact bodyPost_ret (results_tmp rfl _ _ _) rfl ⟨rfl,(uQ HP2 M).next,(q9O (uQ HKV) 3 _).trans (Kp.set _ gr 1 _) (by simp)⟩
 ·rw[if_neg h2,if_neg h2,decide_eq_false h2]
  have gk:(kd==2)=false:=beq_eq_false_iff_ne.2 h2
  have HKV:Hid (Kp [gr] W (W.alloc (.cells #[.int .i64 kd, .string s, .int .i64 n, .int .i64 pl] 78)).drew):=hZq (((Kp.alloc W _).trans (Kp.drew _) (by simp):Kp [] _ _).mono (by simp))
  have HPV:=hZq ((uQ HR).kp ((Kp.alloc W (.cells #[.int .i64 kd, .string s, .int .i64 n, .int .i64 pl] 78)).trans (Kp.drew _) (by simp)) (by simp))
  go_enter Tryz.func35,Tryz.ntmps35
  go_wp2
  go_region
  clear c0 c1 c2 c3 d0 d1 d2 d3 e1 e2 g1 g2
  go_wp2
  exact bodyPost_ret (results_tmp rfl _ _ _) rfl ⟨rfl,uQ HPV,uQ HKV⟩
open Go.RowKit Go.Shelf
theorem qdn (w:World)(a b c d:Value)(t:TypeId): ∀(j:Nat) (u:Value),[a,b,c,d][j]?=some u->(w.alloc (.cells #[a,b,c,d] t)).drew.cell? ((⟨w.heap.size,0,none⟩:Addr).add j)=some u:=fun j u hj=>by
 have hb:=CBox.new w #[a,b,c,d] t
 rw[Go.WideShapes.add_plain,Nat.zero_add]
 match j,hj with
 |0,hj=>cases hj;exact hb.cell rfl
 |1,hj=>cases hj;exact hb.cell rfl
 |2,hj=>cases hj;exact hb.cell rfl
 |3,hj=>cases hj;exact hb.cell rfl
theorem q75 {gr:Nat}{tk:Value}{l:List Tk}{k n:Nat}{sv:Value}{wi:Int}{rs:List SR}{W V w7:World}{s:Stg}{ad:Option Addr}{c g7 cap7:Nat}(hPV:PB gr tk l k sv wi 0 0 V)(hG:OwnsG (gr+1) V sv rs)(hC:OwnsP (gr+1) V (.slice ad s.cd.length c) s.cd)(hB:Below gr W V)(hk:k<l.length)(hT:Tail (l.drop k) n)
  (h7:w7.ownsRow (gr+1) 86 4 (.slice (some ⟨g7,0,none⟩) (rs.length+1) cap7) (rs.length+1) (rs.flatMap srE++srE ⟨s,ad,c⟩)) (hg7:(V.alloc (.cells (stV s ad c) 86)).drew.grownBy w7 sv.ownBlock) (R:SRd) (hR:R= .good s (l.drop k)):
  StT gr tk l n sv wi rs W R (.returned (.bool true)) (w7.setCell ⟨gr,2,none⟩ (.slice (some ⟨g7,0,none⟩) (rs.length+1) cap7)):=by
 subst hR
 have hlt:=hPV.lt
 have k1:Kp [] V (V.alloc (.cells (stV s ad c) 86)).drew:=(Kp.alloc V _).trans (Kp.drew _) (by simp)
 have k2:Kp sv.ownBlock.toList (V.alloc (.cells (stV s ad c) 86)).drew w7:=Kp.of hg7
 have hsv: ∀x∈sv.ownBlock.toList,gr<x:=fun x hx=>by
  have:=(World.ownsRow.lt hG.row x (by simpa using hx)).1
  omega
 have hP7:=(hPV.kp k1 (by simp)).kp k2 hsv
 have kc: ∀{v:Value} {y:List Pt},OwnsP (gr+1) V v y->OwnsP (gr+1) (w7.setCell ⟨gr,2,none⟩ (.slice (some ⟨g7,0,none⟩) (rs.length+1) cap7)) v y:=fun {v y} ho=>by
  have h1:OwnsP (gr+1) (V.alloc (.cells (stV s ad c) 86)).drew v y:=q02 ho k1 (by simp)
  have h2:OwnsP (gr+1) w7 v y:=q02 h1 k2 (fun g hg hm=>by
   have hs:sv.ownBlock=some g:=by simpa using hm
   obtain ⟨_,⟨rfl,_⟩|⟨g',cp,cur,rfl,_,hb,_⟩⟩:=(hG.row:V.ownsRow _ _ _ _ _ _)
   ·simp[Value.ownBlock]at hs
   ·simp[Value.ownBlock]at hs
    subst hs
    have:=q0d ho (show CBox g' cur 86 V from hb) (by decide)
    exact this hg)
  exact q02 h2 (Kp.set w7 gr 2 _) (fun g hg=>by have:=(World.ownsRow.lt h2 g hg).1;simp;omega)
 refine ⟨rfl,k, .slice (some ⟨g7,0,none⟩) (rs.length+1) cap7,ad,c,hP7.put (Kp.set w7 gr 2 _) (hP7.box.set 2 _),hk,hT,rfl,⟨?_,?_⟩,?_⟩
 ·have:=q02 h7 (Kp.set w7 gr 2 (.slice (some ⟨g7,0,none⟩) (rs.length+1) cap7)) (fun g hg=>by have:=(World.ownsRow.lt h7 g hg).1;simp;omega)
  rw[List.length_append,List.flatMap_append]
  simpa using this
 ·intro r hr
  rcases List.mem_append.1 hr with hr|hr
  ·exact kc (hG.cds r hr)
  ·simp only[List.mem_singleton]at hr
   subst hr
   exact kc hC
 ·exact ((hB.trans (k1.below (by omega) (by simp))).trans (k2.below (by have:=k1.size;omega) (fun x hx=>by have:=hsv x hx;omega))).setCell (p:=⟨gr,2,none⟩) (Nat.le_refl _) _
theorem q0u {gr gs:Nat}{F:List Nat}{W V V':World}(h1:Kp [gr] W V)(h2:Kp F V V')(hF: ∀x∈F,x=gr\/x=gs)(hg:W.heap.size<=gs):Kp [gr] W V':=h1.trans h2 (fun x hx=>by rcases hF x hx with rfl|rfl;exact Or.inl (by simp);exact Or.inr hg)
theorem qd0 {q:Int}{NM:ByteArray}{l:List Tk}{k n:Nat}{R:SRd}(hk:k<l.length)(hL:Tail (l.drop k) n)(hR:R=mnR q NM (l.drop k)): ∃B K,decide (wdT l[k]=[43])=B/\(if wdT l[k]=[43] then k+1 else k)=K/\R=clR q NM B (l.drop K)/\K<l.length/\Tail (l.drop K) n:=by
 have ht:=q06 hk
 unfold mnR at hR
 rw[ht]at hR
 simp only[wdL,List.drop_one,List.tail_cons]at hR
 by_cases h:wdT l[k]=[43]
 ·obtain ⟨h1,h2,_⟩:=hL.step ht (q0Q (by rw[h];simp))
  rw[if_pos h]at hR
  exact ⟨true,k+1,decide_eq_true h,if_pos h,hR,h1,h2⟩
 ·rw[if_neg h, <-ht]at hR
  exact ⟨false,k,decide_eq_false h,if_neg h,hR,hk,hL⟩
theorem q8v {gr:Nat}{tk:Value}{l:List Tk}{k n:Nat}{sv:Value}{wi:Int}{rs:List SR}{W:World}(h:PB gr tk l k sv wi 0 0 W)(hk:k<l.length)(hQ:hwOf (wdT l[k])=none)(R:SRd)(hR:R= .bad (hdPl (l.drop k)) 120):
  Calls Tryz.prog 34 #[.pointer (some ⟨gr,0,none⟩)] W (StT gr tk l n sv wi rs W R):=by
 have hlt:=h.lt
 have ka:=Kp.alloc W (.cells #[.string ⟨#[]⟩, .int .i64 0, .bool false, .slice none 0 0] 86)
 have hs0:SB W.heap.size ⟨#[]⟩ 0 false (.slice none 0 0) (W.alloc (.cells #[.string ⟨#[]⟩, .int .i64 0, .bool false, .slice none 0 0] 86)):=CBox.new W _ _
 have C1:=hZq (q3G (h.kp ka (by simp)) (q06 hk) hs0 hlt)
 rw[hQ]at C1
 simp only[Option.isSome_none]at C1
 rw[if_neg (by simp),if_neg (by simp)]at C1
 have HKA:=hZq ka
 have HRb:=hZq hR
 clear h ka hs0 hR hQ
 go_enter Tryz.func34,Tryz.ntmps34
 go_wp2_with fail
 refine (uQ C1).mono ?_
 rintro e w1 ⟨rfl,hp1,hs1,hk1⟩
 have HF:=hZq (StT.bad (n:=n) (rs:=rs) hp1 hk (q0u (gr:=gr) (gs:=W.heap.size) ((uQ HKA).mono (by simp)) hk1 (by simp) (Nat.le_refl _)) (uQ HRb))
 clear hp1 hs1 hk1 HRb C1 HKA
 go_wp2
 refine bodyPost_ret (results_tmp rfl _ _ _) rfl ?_
 exact uQ HF
theorem q70 {gr:Nat}{tk:Value}{l:List Tk}{k n:Nat}{sv:Value}{wi:Int}{rs:List SR}{W:World}(h:PB gr tk l k sv wi 0 0 W)(hk:k<l.length)(q:Int)(hQ:hwOf (wdT l[k])=some q)(hk1:k+1<l.length)(hS:isSg (wdS l[k+1])=false)(R:SRd)(hR:R= .bad (hdPl (l.drop (k+1))) 120):
  Calls Tryz.prog 34 #[.pointer (some ⟨gr,0,none⟩)] W (StT gr tk l n sv wi rs W R):=by
 have hlt:=h.lt
 have ka:=Kp.alloc W (.cells #[.string ⟨#[]⟩, .int .i64 0, .bool false, .slice none 0 0] 86)
 have hs0:SB W.heap.size ⟨#[]⟩ 0 false (.slice none 0 0) (W.alloc (.cells #[.string ⟨#[]⟩, .int .i64 0, .bool false, .slice none 0 0] 86)):=CBox.new W _ _
 have C1:=hZq (q3G (h.kp ka (by simp)) (q06 hk) hs0 hlt)
 rw[hQ]at C1
 simp only[Option.isSome_some,Option.getD_some]at C1
 rw[if_pos trivial,if_pos trivial]at C1
 have HN:=hZq (fun W1 (hp:PB gr tk l (k+1) sv wi 0 0 W1) (hs:SB W.heap.size ⟨#[]⟩ q false (.slice none 0 0) W1)=>q53 hp (q06 hk1) hs hlt)
 rw[hS]at HN
 simp only[Bool.false_eq_true,if_false]at HN
 have HKA:=hZq ka
 have HRb:=hZq hR
 clear h ka hs0 hR hQ hS
 go_enter Tryz.func34,Tryz.ntmps34
 go_wp2_with fail
 refine (uQ C1).mono ?_
 rintro e w1 ⟨rfl,hp1,hs1,hkp1⟩
 have HK1:=hZq (q0u (gr:=gr) (gs:=W.heap.size) ((uQ HKA).mono (by simp)) hkp1 (by simp) (Nat.le_refl _))
 have N1:=hZq (uQ HN w1 hp1 hs1)
 clear C1 hp1 hs1 hkp1 HN HKA
 go_wp2_with fail
 refine (uQ N1).mono ?_
 rintro e w2 ⟨rfl,hp2,hs2,hkp2⟩
 have HF:=hZq (StT.bad (n:=n) (rs:=rs) hp2 hk1 (q0u (gr:=gr) (gs:=W.heap.size) (uQ HK1) hkp2 (by simp) (Nat.le_refl _)) (uQ HRb))
 clear N1 hp2 hs2 hkp2 HK1 HRb
 go_wp2
 refine bodyPost_ret (results_tmp rfl _ _ _) rfl ?_
 exact uQ HF
open Go.RowKit Go.Shelf
theorem q71 {gr:Nat}{tk:Value}{l:List Tk}{k n:Nat}{sv:Value}{wi:Int}{rs:List SR}{W:World}(h:PB gr tk l k sv wi 0 0 W)(hk:k<l.length)(q:Int)(hQ:hwOf (wdT l[k])=some q)(hk1:k+1<l.length)(hS:isSg (wdS l[k+1])=true)(hk2:k+1+1<l.length)(hL2:Tail (l.drop (k+1+1)) n)(R:SRd)(hR:R=mnR q (wdS l[k+1]) (l.drop (k+1+1)))(hG:OwnsG (gr+1) W sv rs)(hrs:rs.length<=8):
  Calls Tryz.prog 34 #[.pointer (some ⟨gr,0,none⟩)] W (StT gr tk l n sv wi rs W R):=by
 have hlt:=h.lt
 have ka:=Kp.alloc W (.cells #[.string ⟨#[]⟩, .int .i64 0, .bool false, .slice none 0 0] 86)
 have hs0:SB W.heap.size ⟨#[]⟩ 0 false (.slice none 0 0) (W.alloc (.cells #[.string ⟨#[]⟩, .int .i64 0, .bool false, .slice none 0 0] 86)):=CBox.new W _ _
 have C1:=hZq (q3G (h.kp ka (by simp)) (q06 hk) hs0 hlt)
 rw[hQ]at C1
 simp only[Option.isSome_some,Option.getD_some]at C1
 rw[if_pos trivial,if_pos trivial]at C1
 have HN:=hZq (fun W1 (hp:PB gr tk l (k+1) sv wi 0 0 W1) (hs:SB W.heap.size ⟨#[]⟩ q false (.slice none 0 0) W1)=>q53 hp (q06 hk1) hs hlt)
 rw[hS]at HN
 simp only[if_true]at HN
 have HSK:=hZq (fun W1 (hp:PB gr tk l (k+1+1) sv wi 0 0 W1)=>q2c hp (q06 hk2) ⟨#[43]⟩)
 have e43:(⟨#[43]⟩:ByteArray).data.toList=[43]:=rfl
 rw[e43]at HSK
 obtain ⟨B,K,hB,hK,hR3,hk3,hL3⟩:=qd0 hk2 hL2 hR
 rw[hB,hK]at HSK
 have HKA:=hZq ka
 have HG:=hZq hG
 have HR3:=hZq hR3
 have HL3:=hZq hL3
 have hK5:K<=100000:=by have:=h.len;omega
 have hsvs: ∃a c,sv= .slice a rs.length c:=by
  obtain ⟨a,c,e,_⟩:=hG.at
  exact ⟨a,c,e⟩
 obtain ⟨sva,svc,rfl⟩:=hsvs
 have H58:=hZq (fun W1 (hp:PB gr tk l K (.slice sva rs.length svc) wi 0 0 W1)=>q2c hp (q06 hk3) ⟨#[58]⟩)
 have e58:(⟨#[58]⟩:ByteArray).data.toList=[58]:=rfl
 rw[e58]at H58
 generalize wdS l[k+1]=NM at *
 clear h ka hs0 hR hQ hS hG hB hK hR3 e43 e58 hL3 hL2
 by_cases hc:wdT l[K]=[58]
 ·rw[hc]at H58
  simp only[decide_true,if_true]at H58
  have HR4:Hid (R=cdR q NM B (l.drop (K+1))):=hZq (by
   rw[uQ HR3,q06 hk3]
   unfold clR
   simp only[wdL,List.drop_one,List.tail_cons]
   rw[if_pos hc])
  obtain ⟨hk4,hL4,_⟩:=(uQ HL3).step (q06 hk3) (q0Q (by rw[hc];simp))
  have HL4:=hZq hL4
  have HCD:=hZq (fun W1 (hp:PB gr tk l (K+1) (.slice sva rs.length svc) wi 0 0 W1) (hs:SB W.heap.size NM q B (.slice none 0 0) W1)=>q9G hp hk4 hL4 hs hlt)
  clear hL4 HR3 HL3 hc
  go_enter Tryz.func34,Tryz.ntmps34
  go_wp2_with fail
  refine (uQ C1).mono ?_
  rintro e w1 ⟨rfl,hp1,hs1,hkp1⟩
  have HK1:=hZq (q0u (gr:=gr) (gs:=W.heap.size) ((uQ HKA).mono (by simp)) hkp1 (by simp) (Nat.le_refl _))
  have N1:=hZq (uQ HN w1 hp1 hs1)
  clear C1 hp1 hs1 hkp1 HN HKA
  go_wp2_with fail
  refine (uQ N1).mono ?_
  rintro e w2 ⟨rfl,hp2,hs2,hkp2⟩
  have HK2:=hZq (q0u (gr:=gr) (gs:=W.heap.size) (uQ HK1) hkp2 (by simp) (Nat.le_refl _))
  have K1:=hZq (uQ HSK w2 hp2)
  have HS2:=hZq hs2
  clear N1 hp2 hs2 hkp2 HK1 HSK
  go_wp2_with fail
  refine (uQ K1).mono ?_
  rintro e w3 ⟨rfl,hp3,hkp3⟩
  have hs3:SB W.heap.size NM q false (.slice none 0 0) w3:=CBox.kp (uQ HS2) hkp3 (by simp;omega)
  have z2:=hs3.cell (i:=2) (v:= .bool false) rfl
  have zf:=CBox.froz hs3
  have hs4:SB W.heap.size NM q B (.slice none 0 0) (w3.setCell ⟨W.heap.size,2,none⟩ (.bool B)):=CBox.set hs3 2 _
  have hp4:=hp3.kp (Kp.set w3 W.heap.size 2 (.bool B)) (by simpa using hlt)
  have HK4:=hZq (q0u (gr:=gr) (gs:=W.heap.size) (q0u (gr:=gr) (gs:=W.heap.size) (uQ HK2) hkp3 (by simp) (Nat.le_refl _)) (Kp.set w3 W.heap.size 2 (.bool B)) (by simp) (Nat.le_refl _))
  have S1:=hZq (uQ H58 _ hp4)
  have HS4:=hZq hs4
  have hl3:W.heap.size<w3.heap.size:=(Array.getElem?_eq_some_iff.1 hs3).1
  clear K1 hp3 hkp3 hs3 hs4 hp4 HK2 HS2 H58
  go_wp2_with fail
  refine (uQ S1).mono ?_
  rintro e w5 ⟨rfl,hp5,hkp5⟩
  have hs5:SB W.heap.size NM q B (.slice none 0 0) w5:=CBox.kp (uQ HS4) hkp5 (by simp;omega)
  have HK5:=hZq (q0u (gr:=gr) (gs:=W.heap.size) (uQ HK4) hkp5 (by simp) (Nat.le_refl _))
  have D1:=hZq (uQ HCD w5 hp5 hs5)
  have hw5:W.heap.size<=w5.heap.size:=(uQ HK5).size
  clear S1 hp5 hs5 hkp5 HK4 HS4 z2 zf HCD hl3
  go_wp2_with fail
  refine (uQ D1).mono ?_
  rintro e w6 ⟨ad,cp,j,A,C,x,rfl,hp6,hs6,ho6,hps,hkp6⟩
  have HK6:=hZq (q0u (gr:=gr) (gs:=W.heap.size) (uQ HK5) hkp6 (by simp) (Nat.le_refl _))
  have hjb:K+1+j<=100000:=by
   have h1:=hp6.len
   rcases hps with ⟨_,_,hj,_⟩|⟨_,hj,_⟩
   ·rw[List.length_drop]at hj;omega
   ·omega
  rcases hps with ⟨rfl,rfl,hj,hgd,hck⟩|⟨rfl,rfl,rfl,hbd⟩
  ·obtain ⟨hk7,hL7,hdr⟩:=(uQ HL4).far hgd
   have HR5:Hid (R=if wdL (l.drop (K+1+j))=[59] then .good ⟨NM,q,B,x⟩ ((l.drop (K+1+j)).drop 1) else .bad (hdPl (l.drop (K+1+j))) 120):=hZq (by
    rw[uQ HR4]
    unfold cdR
    rw[hgd]
    dsimp only
    rw[if_neg hck,hdr])
   have S2:=q2c hp6 (q06 hk7) ⟨#[59]⟩
   have e59:(⟨#[59]⟩:ByteArray).data.toList=[59]:=rfl
   rw[e59]at S2
   have HS6:=hZq hs6
   have HO6:=hZq ho6
   rw[q06 hk7]at HR5
   simp only[wdL,List.drop_one,List.tail_cons]at HR5
   clear D1 hp6 hs6 ho6 hkp6 HK5 hgd hck hdr HR4 HL4 e59
   by_cases h59:wdT l[K+1+j]=[59]
   ·rw[h59]at S2 HR5
    simp only[decide_true,if_true]at S2 HR5
    obtain ⟨hk8,hL8,_⟩:=hL7.step (q06 hk7) (q0Q (by rw[h59];simp))
    have HS2:=hZq S2
    have HL8:=hZq hL8
    clear S2 hL8 hL7 h59
    go_wp2_with fail
    refine (uQ HS2).mono ?_
    rintro e w7 ⟨rfl,hp7,hkp7⟩
    have hK7:=q0u (gr:=gr) (gs:=W.heap.size) (uQ HK6) hkp7 (by simp) (Nat.le_refl _)
    have hs7:SB W.heap.size NM q B (.slice ad x.length cp) w7:=CBox.kp (uQ HS6) hkp7 (by simp;omega)
    have hG7:=(uQ HG).kp hK7 (by simp)
    have hC7:OwnsP (gr+1) w7 (.slice ad x.length cp) x:=OwnsP.mono (q02 (uQ HO6) hkp7 (fun g hg=>by have:=(World.ownsRow.lt (uQ HO6) g hg).1;simp;omega)) (by omega)
    have hB7:Below gr W w7:=hK7.below (by omega) (by simp)
    obtain ⟨i0,hi,hz0,hz1,hz2⟩:=info_parts qcH
    have hs7d:SB W.heap.size NM q B (.slice ad x.length cp) w7.drew:=CBox.kp hs7 (Kp.drew w7) (by simp)
    have y0:=hs7d.cell (i:=0) (v:= .string NM) rfl
    have y1:=hs7d.cell (i:=1) (v:= .int .i64 q) rfl
    have y2:=hs7d.cell (i:=2) (v:= .bool B) rfl
    have y3:=hs7d.cell (i:=3) (v:= .slice ad x.length cp) rfl
    obtain ⟨_,_,u2,_⟩:=(hp7.kp (Kp.drew w7) (by simp)).cells
    have k8:Kp [] w7 (w7.alloc (.cells #[.string NM, .int .i64 q, .bool B, .slice ad x.length cp] 86)).drew:=(Kp.alloc w7 _).trans (Kp.drew _) (by simp)
    obtain ⟨_,_,v2,_⟩:=(hp7.kp k8 (by simp)).cells
    have own8:=q02 hG7.row k8 (by simp)
    have HST:Hid (∀g8 cap8 w8,w8.ownsRow (gr+1) 86 4 (.slice (some ⟨g8,0,none⟩) (rs.length+1) cap8) (rs.length+1) (rs.flatMap srE++[.string NM, .int .i64 q, .bool B, .slice ad x.length cp])->(w7.alloc (.cells #[.string NM, .int .i64 q, .bool B, .slice ad x.length cp] 86)).drew.grownBy w8 (Value.slice sva rs.length svc).ownBlock->(w8.cell? ⟨gr,2,none⟩=some (.slice sva rs.length svc)/\(∀i,w8.frozen? ⟨gr,i,none⟩=false))/\StT gr tk l n (.slice sva rs.length svc) wi rs W R (.returned (.bool true)) (w8.setCell ⟨gr,2,none⟩ (.slice (some ⟨g8,0,none⟩) (rs.length+1) cap8))):=hZq (fun g8 cap8 w8 h8 hg8=>by
     have hp8:=(hp7.kp k8 (by simp)).kp (Kp.of hg8) (fun z hz=>by have:=(World.ownsRow.lt hG7.row z (by simpa using hz)).1;omega)
     obtain ⟨_,_,a2,_,_,_,az⟩:=hp8.cells
     exact ⟨⟨a2,az⟩,q75 (s:=⟨NM,q,B,x⟩) (ad:=ad) (c:=cp) hp7 hG7 hC7 hB7 hk8 (uQ HL8) h8 hg8 R (uQ HR5)⟩)
    have hlc:(w7.alloc (.cells #[.string NM, .int .i64 q, .bool B, .slice ad x.length cp] 86)).drew.heap.size=w7.heap.size+1:=by show (w7.alloc _).heap.size=_;simp
    have hgw:gr<w7.heap.size:=hp7.lt
    clear HS2 hp7 hkp7 hK7 hs7 hs7d hG7 hC7 hB7 k8 HG HO6 HS6 HL8 HR5 HK6
    generalize x.length=XL at *
    go_wp2_with fail
    go_region_law
     (first
      |(refine q0N rfl (.tmp 33) (.tmp 35) 22 rfl (gr+1) 86 i0 (.agg #[.string ⟨#[]⟩, .int .i64 0, .bool false, .slice none 0 0]) 4 56 Tryz.underlying22 hi hz0 hz1 hz2 rfl (by decide) (.slice sva rs.length svc) rs.length (rs.flatMap srE) rfl own8 ⟨w7.heap.size,0,none⟩ 1 1 [.string NM, .int .i64 q, .bool B, .slice ad XL cp] rfl rfl (qdn w7 _ _ _ _ _) (by intro u hu;simp only[List.mem_cons,List.not_mem_nil,or_false]at hu;rcases hu with rfl|rfl|rfl|rfl <;> rfl) (by omega) (by unfold maxLen;omega) (by omega) (by rw[hlc];omega) ?_;intro g8 cap8 w8 h8 hg8 hat8;obtain ⟨⟨a2,az⟩,hst⟩:=uQ HST g8 cap8 w8 h8 hg8;have HF:=hZq hst;clear h8 hg8 hat8 hst))
    all_goals
     clear HST
     go_wp2
     refine bodyPost_ret (results_tmp rfl _ _ _) rfl ?_
     exact uQ HF
   ·rw[decide_eq_false h59,if_neg h59]at S2
    have HR6:Hid (R= .bad (hdPl (l.drop (K+1+j))) 120):=hZq (by rw[uQ HR5,if_neg h59, <-q06 hk7])
    have HS2:=hZq S2
    clear S2 HR5 h59 hL7
    go_wp2_with fail
    refine (uQ HS2).mono ?_
    rintro e w7 ⟨rfl,hp7,hkp7⟩
    have HF:=hZq (StT.bad (n:=n) (rs:=rs) hp7 hk7 (q0u (gr:=gr) (gs:=W.heap.size) (uQ HK6) hkp7 (by simp) (Nat.le_refl _)) (uQ HR6))
    clear HS2 hp7 hkp7 HK6 HR6
    go_wp2
    refine bodyPost_ret (results_tmp rfl _ _ _) rfl ?_
    exact uQ HF
  ·have hRb:R= .bad A 110:=by
    rw[uQ HR4]
    unfold cdR
    rcases hbd with ⟨q,h1,h2⟩|⟨y,q,h1,h2,h3⟩
    ·rw[h1,h2]
    ·rw[h1,h3]
     dsimp only
     rw[if_pos h2]
   have HF:Hid (StT gr tk l n (.slice sva rs.length svc) wi rs W R (.returned (.bool false)) w6):=hZq (by
    rw[hRb]
    exact ⟨rfl,K+1+0,A,110,hp6,by omega,Or.inl ⟨by omega,rfl,rfl⟩,uQ HK6⟩)
   clear hRb hbd hp6 hs6 ho6 hkp6 HK6 D1 HK5 HR4 HL4 HG
   go_wp2
   refine bodyPost_ret (results_tmp rfl _ _ _) rfl ?_
   exact uQ HF
 ·rw[decide_eq_false hc,if_neg hc]at H58
  have HRb:Hid (R= .bad (hdPl (l.drop K)) 120):=hZq (by
   rw[uQ HR3,q06 hk3]
   unfold clR
   exact if_neg hc)
  clear hc HR3 HL3
  go_enter Tryz.func34,Tryz.ntmps34
  go_wp2_with fail
  refine (uQ C1).mono ?_
  rintro e w1 ⟨rfl,hp1,hs1,hkp1⟩
  have HK1:=hZq (q0u (gr:=gr) (gs:=W.heap.size) ((uQ HKA).mono (by simp)) hkp1 (by simp) (Nat.le_refl _))
  have N1:=hZq (uQ HN w1 hp1 hs1)
  clear C1 hp1 hs1 hkp1 HN HKA
  go_wp2_with fail
  refine (uQ N1).mono ?_
  rintro e w2 ⟨rfl,hp2,hs2,hkp2⟩
  have HK2:=hZq (q0u (gr:=gr) (gs:=W.heap.size) (uQ HK1) hkp2 (by simp) (Nat.le_refl _))
  have K1:=hZq (uQ HSK w2 hp2)
  have HS2:=hZq hs2
  clear N1 hp2 hs2 hkp2 HK1 HSK
  go_wp2_with fail
  refine (uQ K1).mono ?_
  rintro e w3 ⟨rfl,hp3,hkp3⟩
  have hs3:SB W.heap.size NM q false (.slice none 0 0) w3:=CBox.kp (uQ HS2) hkp3 (by simp;omega)
  have z2:=hs3.cell (i:=2) (v:= .bool false) rfl
  have zf:=CBox.froz hs3
  have hp4:=hp3.kp (Kp.set w3 W.heap.size 2 (.bool B)) (by simpa using hlt)
  have HK4:=hZq (q0u (gr:=gr) (gs:=W.heap.size) (q0u (gr:=gr) (gs:=W.heap.size) (uQ HK2) hkp3 (by simp) (Nat.le_refl _)) (Kp.set w3 W.heap.size 2 (.bool B)) (by simp) (Nat.le_refl _))
  have S1:=hZq (uQ H58 _ hp4)
  have hl3:W.heap.size<w3.heap.size:=(Array.getElem?_eq_some_iff.1 hs3).1
  clear K1 hp3 hkp3 hs3 hp4 HK2 HS2 H58
  go_wp2_with fail
  refine (uQ S1).mono ?_
  rintro e w5 ⟨rfl,hp5,hkp5⟩
  have HF:=hZq (StT.bad (n:=n) (rs:=rs) hp5 hk3 (q0u (gr:=gr) (gs:=W.heap.size) (uQ HK4) hkp5 (by simp) (Nat.le_refl _)) (uQ HRb))
  clear S1 hp5 hkp5 HK4 HRb z2 zf HG
  go_wp2
  refine bodyPost_ret (results_tmp rfl _ _ _) rfl ?_
  exact uQ HF
end Go.Proofs.YtcmjnlpofebbmaaGreatDoor
