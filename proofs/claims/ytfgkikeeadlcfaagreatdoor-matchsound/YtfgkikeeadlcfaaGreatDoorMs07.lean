/-
  Walks.
-/
import Derived.Test.YtfgkikeeadlcfaaGreatDoorMs06
import Derived.Deep.RegionLaw
import Derived.Deep.RegionHeld
set_option maxRecDepth 100000
set_option maxHeartbeats 8000000
set_option linter.unusedSimpArgs false
namespace Go.Proofs.YtfgkikeeadlcfaaGreatDoor
open Go.RowKit Go.Shelf
def srE (r:SR):List Value:=[.string r.s.nm, .int .i64 r.s.hw, .bool r.s.mn, .slice r.ad r.s.cd.length r.c]
theorem qdN (r:SR):(srE r).length=4:=rfl
theorem qde:(Tryz.prog.info? 88).map (fun i=>(i.zero,i.size,i.bytes))=some (some (.agg #[.string ⟨#[]⟩, .int .i64 0, .bool false, .slice none 0 0]),4,56):=by kernel_rfl
structure OwnsG (B:Nat)(w:World)(v:Value)(l:List SR):Prop where
 row:w.ownsRow B 88 4 v l.length (l.flatMap srE)
 cds: ∀r∈l,OwnsP B w (.slice r.ad r.s.cd.length r.c) r.s.cd
theorem OwnsG.nil (B:Nat)(w:World):OwnsG B w (.slice none 0 0) []:=⟨World.ownsRow_nil _ _ _ _,by simp⟩
theorem OwnsG.kp {F:List Nat}{B:Nat}{w w':World}{v:Value}{l:List SR}(h:OwnsG B w v l)(hk:Kp F w w')(hF: ∀x∈F,x<B):OwnsG B w' v l:=
 ⟨q03 h.row hk (fun g hg hm=>by have:=(World.ownsRow.lt h.row g hg).1;have:=hF g hm;omega),fun r hr=>q03 (h.cds r hr) hk (fun g hg hm=>by have:=(World.ownsRow.lt (h.cds r hr) g hg).1;have:=hF g hm;omega)⟩
theorem OwnsG.at {B:Nat}{w:World}{v:Value}{l:List SR}(h:OwnsG B w v l): ∃ad cp,v= .slice ad l.length cp/\StsAt w ad l/\l.length<=cp:=by
 obtain ⟨_,⟨rfl,h0⟩|⟨g,cp,cur,rfl,_,_,hcap,_⟩⟩:=id h.row
 ·refine ⟨none,0,by rw[h0],fun hne=>?_,by omega⟩
  exact absurd (List.eq_nil_of_length_eq_zero h0) hne
 ·have hl:=World.ownsRow.lt h.row g rfl
  refine ⟨_,_,rfl,fun _=>⟨g,0,rfl,hl.2,fun i hi=>?_⟩,hcap⟩
  have c:=fun j (hj:j<4)=>q0t qdN h.row i j hi hj
  simp only[Nat.zero_add]
  obtain ⟨a',c',e',hat,_⟩:=(h.cds l[i] (zJ hi)).at
  injection e' with e1 e2 e3
  exact ⟨c 0 (by omega),c 1 (by omega),c 2 (by omega),c 3 (by omega),by rw[e1];exact hat⟩
theorem q06 {l:List Tk}{k:Nat}(h:k<l.length):l.drop k=l[k]::l.drop (k+1):=List.drop_eq_getElem_cons h
theorem Tail.step {l:List Tk}{k n:Nat}(h:Tail (l.drop k) n){t:Tk}{r:List Tk}(ht:l.drop k=t::r)(hk:t.kd≠0):k+1<l.length/\Tail (l.drop (k+1)) n/\r=l.drop (k+1):=by
 obtain ⟨hkl,_,hr⟩:=q0f ht
 have he:=h.endd
 rw[ht]at he
 have hne:=(he.tail hk).ne
 have h1:1<(l.drop k).length:=by
  rw[ht]
  have:=List.length_pos_iff.2 hne
  simp
  exact this
 rw[List.length_drop]at h1
 refine ⟨by omega,?_,hr.symm⟩
 have:=h.drop 1 (by rw[List.length_drop];omega)
 rwa [List.drop_drop]at this
theorem Tail.far {l:List Tk}{k n:Nat}(h:Tail (l.drop k) n){x:List Pt}{j:Nat}(hp:psR (l.drop k)= .good x ((l.drop k).drop j)):k+j<l.length/\Tail (l.drop (k+j)) n/\(l.drop k).drop j=l.drop (k+j):=by
 have:=(q2z (mRd 0 (l.drop k)) 0 0 [] (l.drop k) h.endd).1
 unfold psR at hp
 rw[hp]at this
 have hne:=this.1.ne
 rw[List.drop_drop]at hne
 have hj:k+j<l.length:=by
  rcases Nat.lt_or_ge (k+j) l.length with h1|h1
  ·exact h1
  ·exact absurd (List.drop_eq_nil_of_le h1) hne
 refine ⟨hj,?_,by rw[List.drop_drop]⟩
 have:=h.drop j (by rw[List.length_drop];omega)
 rwa [List.drop_drop]at this
theorem qfn {t:Tk}(h:isSg (wdS t)=true):t.kd≠0:=by
 intro e
 have:=(q3c h).1
 unfold wdS at this
 rw[if_neg (by omega)]at this
 exact absurd this (by decide)
theorem qf7 {t:Tk}(h:(hwOf (wdT t)).isSome=true):t.kd≠0:=by
 refine q0R fun e=>?_
 rw[e]at h
 exact absurd h (by decide)
def StT (gr:Nat)(tk:Value)(l:List Tk)(n:Nat)(sv:Value)(wi:Int)(rs:List SR)(W:World)(R:SRd)(e:Ending)(w':World):Prop:=match R with
 | .bad a c=>e= .returned (.bool false)/\ ∃k' A C,PB gr tk l k' sv wi A C w'/\k'<l.length/\((C≠0/\a=A/\c=C)\/(C=0/\a=hdPl (l.drop k')/\c=120))/\Kp [gr] W w'
 | .good s r=>e= .returned (.bool true)/\ ∃k' sv' ad cp,PB gr tk l k' sv' wi 0 0 w'/\k'<l.length/\Tail (l.drop k') n/\l.drop k'=r/\OwnsG (gr+1) w' sv' (rs++[⟨s,ad,cp⟩])/\Below gr W w'
theorem StT.bad {gr:Nat}{tk:Value}{l:List Tk}{n:Nat}{sv:Value}{wi:Int}{rs:List SR}{W w':World}{R:SRd}{k':Nat}(h:PB gr tk l k' sv wi 0 0 w')(hk:k'<l.length)(hK:Kp [gr] W w')(hR:R= .bad (hdPl (l.drop k')) 120):StT gr tk l n sv wi rs W R (.returned (.bool false)) w':=by
 subst hR
 exact ⟨rfl,k',0,0,h,hk,Or.inr ⟨rfl,rfl,rfl⟩,hK⟩
theorem q7c {gr:Nat}{tk:Value}{l:List Tk}{k:Nat}{sv:Value}{wi rA rC:Int}{W:World}(h:PB gr tk l k sv wi rA rC W){t:Tk}{r:List Tk}(ht:l.drop k=t::r):
  Calls Tryz.prog 53 #[.pointer (some ⟨gr,0,none⟩)] W fun e w'=>e= .returned (.bool (decide (t.kd=2)))/\PB gr tk l (if t.kd=2 then k+1 else k) sv (if t.kd=2 then (if 257<t.n then 257 else t.n) else wi) rA rC w'/\Kp [gr] W w':=by
 obtain ⟨hk,ha,_⟩:=q0f ht
 obtain ⟨b,off,cap,htk,hlt,hc⟩:=h.tks
 obtain ⟨c0,c1,c2,c3⟩:=hc k hk
 rw[ha]at c0 c1 c2 c3
 have hlen:=h.len
 have hgl:=h.lt
 obtain ⟨e1,e2,_⟩:=h.cells
 rw[htk]at e1
 have HR:=hZq h
 clear h hc ha htk ht
 have al: ∀{q:Addr} {v:Value},W.cell? q=some v->q.block<W.heap.size->(W.alloc (.cells #[.int .i64 0, .string { data:=#[] }, .int .i64 0, .int .i64 0] 98)).cell? q=some v:=fun h _=>(Kp.alloc W _).cell h (by simp)
 have d0:=al c0 (by show b<_;omega)
 have d1:=al c1 (by show b<_;omega)
 have d2:=al c2 (by show b<_;omega)
 have d3:=al c3 (by show b<_;omega)
 have g1:=al e1 hgl
 have g2:=al e2 hgl
 clear al
 obtain ⟨kd,s,n,pl⟩:=t
 dsimp only at *
 by_cases h2:kd=2
 ·rw[if_pos h2,if_pos h2,decide_eq_true h2]
  subst h2
  obtain ⟨M,hM⟩: ∃M,(if 257<n then (257:Int) else n)=M:=⟨_,rfl⟩
  have hmn:min n 257=M:=by rw[<-hM];split <;> omega
  rw[hM]
  clear hM
  go_enter Tryz.func53,Tryz.ntmps53
  go_wp2
  go_region
  clear c0 c1 c2 c3 d0 d1 d2 d3 e1 e2 g1 g2
  have hkV:Kp [] W (W.alloc (.cells #[.int .i64 2, .string s, .int .i64 n, .int .i64 pl] 98)).drew:=(Kp.alloc W _).trans (Kp.drew _) (by simp)
  have hPV:=(uQ HR).kp hkV (by simp)
  obtain ⟨_,c1,_,c3,_,_,fz⟩:=hPV.cells
  have t2:(W.alloc (.cells #[.int .i64 2, .string s, .int .i64 n, .int .i64 pl] 98)).drew.cell? ⟨W.heap.size,2,none⟩=some (.int .i64 n):=(CBox.new W _ _).cell rfl
  have t0:(W.alloc (.cells #[.int .i64 2, .string s, .int .i64 n, .int .i64 pl] 98)).drew.cell? ⟨W.heap.size,0,none⟩=some (.int .i64 2):=(CBox.new W _ _).cell rfl
  have HKV:=hZq hkV
  have HPV:=hZq hPV
  have hlV:W.heap.size<(W.alloc (.cells #[.int .i64 2, .string s, .int .i64 n, .int .i64 pl] 98)).drew.heap.size:=by show W.heap.size<(W.alloc _).heap.size;simp
  clear hkV hPV HR
  generalize (W.alloc (.cells #[.int .i64 2, .string s, .int .i64 n, .int .i64 pl] 98)).drew=V at *
  generalize W.heap.size=G at *
  have HP2:Hid (∀m:Int,PB gr tk l k sv m rA rC (V.setCell ⟨gr,3,none⟩ (.int .i64 m))):=hZq (fun m=>(uQ HPV).put (Kp.set V gr 3 _) ((uQ HPV).box.set 3 _))
  obtain ⟨_,x1,_,_,_,_,xz⟩:=(uQ HP2 M).cells
  go_wp2
  exact bodyPost_ret (results_tmp rfl _ _ _) rfl ⟨rfl,(uQ HP2 M).next,(qad (uQ HKV) 3 _).trans (Kp.set _ gr 1 _) (by simp)⟩
 ·rw[if_neg h2,if_neg h2,zK h2]
  have gk:(kd==2)=false:=beq_eq_false_iff_ne.2 h2
  have HKV:Hid (Kp [gr] W (W.alloc (.cells #[.int .i64 kd, .string s, .int .i64 n, .int .i64 pl] 98)).drew):=hZq (((Kp.alloc W _).trans (Kp.drew _) (by simp):Kp [] _ _).mono (by simp))
  have HPV:=hZq ((uQ HR).kp ((Kp.alloc W (.cells #[.int .i64 kd, .string s, .int .i64 n, .int .i64 pl] 98)).trans (Kp.drew _) (by simp)) (by simp))
  go_enter Tryz.func53,Tryz.ntmps53
  go_wp2
  go_region
  clear c0 c1 c2 c3 d0 d1 d2 d3 e1 e2 g1 g2
  go_wp2
  exact bodyPost_ret (results_tmp rfl _ _ _) rfl ⟨rfl,uQ HPV,uQ HKV⟩
theorem qe0 (w:World)(a b c d:Value)(t:TypeId): ∀(j:Nat) (u:Value),[a,b,c,d][j]?=some u->(w.alloc (.cells #[a,b,c,d] t)).drew.cell? ((⟨w.heap.size,0,none⟩:Addr).add j)=some u:=fun j u hj=>by
 have hb:=CBox.new w #[a,b,c,d] t
 rw[Go.WideShapes.add_plain,Nat.zero_add]
 match j,hj with
 |0,hj=>cases hj;exact hb.cell rfl
 |1,hj=>cases hj;exact hb.cell rfl
 |2,hj=>cases hj;exact hb.cell rfl
 |3,hj=>cases hj;exact hb.cell rfl
theorem q7i {gr:Nat}{tk:Value}{l:List Tk}{k n:Nat}{sv:Value}{wi:Int}{rs:List SR}{W V w7:World}{s:Stg}{ad:Option Addr}{c g7 cap7:Nat}(hPV:PB gr tk l k sv wi 0 0 V)(hG:OwnsG (gr+1) V sv rs)(hC:OwnsP (gr+1) V (.slice ad s.cd.length c) s.cd)(hB:Below gr W V)(hk:k<l.length)(hT:Tail (l.drop k) n)
  (h7:w7.ownsRow (gr+1) 88 4 (.slice (some ⟨g7,0,none⟩) (rs.length+1) cap7) (rs.length+1) (rs.flatMap srE++srE ⟨s,ad,c⟩)) (hg7:(V.alloc (.cells (stV s ad c) 88)).drew.grownBy w7 sv.ownBlock) (R:SRd) (hR:R= .good s (l.drop k)):
  StT gr tk l n sv wi rs W R (.returned (.bool true)) (w7.setCell ⟨gr,2,none⟩ (.slice (some ⟨g7,0,none⟩) (rs.length+1) cap7)):=by
 subst hR
 have hlt:=hPV.lt
 have k1:Kp [] V (V.alloc (.cells (stV s ad c) 88)).drew:=(Kp.alloc V _).trans (Kp.drew _) (by simp)
 have k2:Kp sv.ownBlock.toList (V.alloc (.cells (stV s ad c) 88)).drew w7:=Kp.of hg7
 have hsv: ∀x∈sv.ownBlock.toList,gr<x:=fun x hx=>by
  have:=(World.ownsRow.lt hG.row x (by simpa using hx)).1
  omega
 have hP7:=(hPV.kp k1 (by simp)).kp k2 hsv
 have kc: ∀{v:Value} {y:List Pt},OwnsP (gr+1) V v y->OwnsP (gr+1) (w7.setCell ⟨gr,2,none⟩ (.slice (some ⟨g7,0,none⟩) (rs.length+1) cap7)) v y:=fun {v y} ho=>by
  have h1:OwnsP (gr+1) (V.alloc (.cells (stV s ad c) 88)).drew v y:=q03 ho k1 (by simp)
  have h2:OwnsP (gr+1) w7 v y:=q03 h1 k2 (fun g hg hm=>by
   have hs:sv.ownBlock=some g:=by simpa using hm
   obtain ⟨_,⟨rfl,_⟩|⟨g',cp,cur,rfl,_,hb,_⟩⟩:=(hG.row:V.ownsRow _ _ _ _ _ _)
   ·simp[Value.ownBlock]at hs
   ·simp[Value.ownBlock]at hs
    subst hs
    have:=q0d ho (show CBox g' cur 88 V from hb) (by decide)
    exact this hg)
  exact q03 h2 (Kp.set w7 gr 2 _) (fun g hg=>by have:=(World.ownsRow.lt h2 g hg).1;simp;omega)
 refine ⟨rfl,k, .slice (some ⟨g7,0,none⟩) (rs.length+1) cap7,ad,c,hP7.put (Kp.set w7 gr 2 _) (hP7.box.set 2 _),hk,hT,rfl,⟨?_,?_⟩,?_⟩
 ·have:=q03 h7 (Kp.set w7 gr 2 (.slice (some ⟨g7,0,none⟩) (rs.length+1) cap7)) (fun g hg=>by have:=(World.ownsRow.lt h7 g hg).1;simp;omega)
  rw[zF,List.flatMap_append]
  simpa using this
 ·intro r hr
  rcases zG.1 hr with hr|hr
  ·exact kc (hG.cds r hr)
  ·simp only[zD]at hr
   subst hr
   exact kc hC
 ·exact ((hB.trans (k1.below (by omega) (by simp))).trans (k2.below (by have:=k1.size;omega) (fun x hx=>by have:=hsv x hx;omega))).setCell (p:=⟨gr,2,none⟩) (zM _) _
theorem q0v {gr gs:Nat}{F:List Nat}{W V V':World}(h1:Kp [gr] W V)(h2:Kp F V V')(hF: ∀x∈F,x=gr\/x=gs)(hg:W.heap.size<=gs):Kp [gr] W V':=h1.trans h2 (fun x hx=>by rcases hF x hx with rfl|rfl;exact Or.inl (by simp);exact Or.inr hg)
theorem qdB {q:Int}{NM:ByteArray}{l:List Tk}{k n:Nat}{R:SRd}(hk:k<l.length)(hL:Tail (l.drop k) n)(hR:R=mnR q NM (l.drop k)): ∃B K,decide (wdT l[k]=[43])=B/\(if wdT l[k]=[43] then k+1 else k)=K/\R=clR q NM B (l.drop K)/\K<l.length/\Tail (l.drop K) n:=by
 have ht:=q06 hk
 unfold mnR at hR
 rw[ht]at hR
 simp only[wdL,List.drop_one,List.tail_cons]at hR
 by_cases h:wdT l[k]=[43]
 ·obtain ⟨h1,h2,_⟩:=hL.step ht (q0R (by rw[h];simp))
  rw[if_pos h]at hR
  exact ⟨true,k+1,decide_eq_true h,if_pos h,hR,h1,h2⟩
 ·rw[if_neg h, <-ht]at hR
  exact ⟨false,k,zK h,if_neg h,hR,hk,hL⟩
theorem q8N {gr:Nat}{tk:Value}{l:List Tk}{k n:Nat}{sv:Value}{wi:Int}{rs:List SR}{W:World}(h:PB gr tk l k sv wi 0 0 W)(hk:k<l.length)(hQ:hwOf (wdT l[k])=none)(R:SRd)(hR:R= .bad (hdPl (l.drop k)) 120):
  Calls Tryz.prog 52 #[.pointer (some ⟨gr,0,none⟩)] W (StT gr tk l n sv wi rs W R):=by
 have hlt:=h.lt
 have ka:=Kp.alloc W (.cells #[.string ⟨#[]⟩, .int .i64 0, .bool false, .slice none 0 0] 88)
 have hs0:SB W.heap.size ⟨#[]⟩ 0 false (.slice none 0 0) (W.alloc (.cells #[.string ⟨#[]⟩, .int .i64 0, .bool false, .slice none 0 0] 88)):=CBox.new W _ _
 have C1:=hZq (q3O (h.kp ka (by simp)) (q06 hk) hs0 hlt)
 rw[hQ]at C1
 simp only[Option.isSome_none]at C1
 rw[if_neg (by simp),if_neg (by simp)]at C1
 have HKA:=hZq ka
 have HRb:=hZq hR
 clear h ka hs0 hR hQ
 go_enter Tryz.func52,Tryz.ntmps52
 go_wp2_with fail
 refine (uQ C1).mono ?_
 rintro e w1 ⟨rfl,hp1,hs1,hk1⟩
 have HF:=hZq (StT.bad (n:=n) (rs:=rs) hp1 hk (q0v (gr:=gr) (gs:=W.heap.size) ((uQ HKA).mono (by simp)) hk1 (by simp) (zM _)) (uQ HRb))
 clear hp1 hs1 hk1 HRb C1 HKA
 go_wp2
 refine bodyPost_ret (results_tmp rfl _ _ _) rfl ?_
 exact uQ HF
theorem q7d {gr:Nat}{tk:Value}{l:List Tk}{k n:Nat}{sv:Value}{wi:Int}{rs:List SR}{W:World}(h:PB gr tk l k sv wi 0 0 W)(hk:k<l.length)(q:Int)(hQ:hwOf (wdT l[k])=some q)(hk1:k+1<l.length)(hS:isSg (wdS l[k+1])=false)(R:SRd)(hR:R= .bad (hdPl (l.drop (k+1))) 120):
  Calls Tryz.prog 52 #[.pointer (some ⟨gr,0,none⟩)] W (StT gr tk l n sv wi rs W R):=by
 have hlt:=h.lt
 have ka:=Kp.alloc W (.cells #[.string ⟨#[]⟩, .int .i64 0, .bool false, .slice none 0 0] 88)
 have hs0:SB W.heap.size ⟨#[]⟩ 0 false (.slice none 0 0) (W.alloc (.cells #[.string ⟨#[]⟩, .int .i64 0, .bool false, .slice none 0 0] 88)):=CBox.new W _ _
 have C1:=hZq (q3O (h.kp ka (by simp)) (q06 hk) hs0 hlt)
 rw[hQ]at C1
 simp only[Option.isSome_some,Option.getD_some]at C1
 rw[if_pos trivial,if_pos trivial]at C1
 have HN:=hZq (fun W1 (hp:PB gr tk l (k+1) sv wi 0 0 W1) (hs:SB W.heap.size ⟨#[]⟩ q false (.slice none 0 0) W1)=>q56 hp (q06 hk1) hs hlt)
 rw[hS]at HN
 simp only[Bool.false_eq_true,if_false]at HN
 have HKA:=hZq ka
 have HRb:=hZq hR
 clear h ka hs0 hR hQ hS
 go_enter Tryz.func52,Tryz.ntmps52
 go_wp2_with fail
 refine (uQ C1).mono ?_
 rintro e w1 ⟨rfl,hp1,hs1,hkp1⟩
 have HK1:=hZq (q0v (gr:=gr) (gs:=W.heap.size) ((uQ HKA).mono (by simp)) hkp1 (by simp) (zM _))
 have N1:=hZq (uQ HN w1 hp1 hs1)
 clear C1 hp1 hs1 hkp1 HN HKA
 go_wp2_with fail
 refine (uQ N1).mono ?_
 rintro e w2 ⟨rfl,hp2,hs2,hkp2⟩
 have HF:=hZq (StT.bad (n:=n) (rs:=rs) hp2 hk1 (q0v (gr:=gr) (gs:=W.heap.size) (uQ HK1) hkp2 (by simp) (zM _)) (uQ HRb))
 clear N1 hp2 hs2 hkp2 HK1 HRb
 go_wp2
 refine bodyPost_ret (results_tmp rfl _ _ _) rfl ?_
 exact uQ HF
theorem q7e {gr:Nat}{tk:Value}{l:List Tk}{k n:Nat}{sv:Value}{wi:Int}{rs:List SR}{W:World}(h:PB gr tk l k sv wi 0 0 W)(hk:k<l.length)(q:Int)(hQ:hwOf (wdT l[k])=some q)(hk1:k+1<l.length)(hS:isSg (wdS l[k+1])=true)(hk2:k+1+1<l.length)(hL2:Tail (l.drop (k+1+1)) n)(R:SRd)(hR:R=mnR q (wdS l[k+1]) (l.drop (k+1+1)))(hG:OwnsG (gr+1) W sv rs)(hrs:rs.length<=8):
  Calls Tryz.prog 52 #[.pointer (some ⟨gr,0,none⟩)] W (StT gr tk l n sv wi rs W R):=by
 have hlt:=h.lt
 have ka:=Kp.alloc W (.cells #[.string ⟨#[]⟩, .int .i64 0, .bool false, .slice none 0 0] 88)
 have hs0:SB W.heap.size ⟨#[]⟩ 0 false (.slice none 0 0) (W.alloc (.cells #[.string ⟨#[]⟩, .int .i64 0, .bool false, .slice none 0 0] 88)):=CBox.new W _ _
 have C1:=hZq (q3O (h.kp ka (by simp)) (q06 hk) hs0 hlt)
 rw[hQ]at C1
 simp only[Option.isSome_some,Option.getD_some]at C1
 rw[if_pos trivial,if_pos trivial]at C1
 have HN:=hZq (fun W1 (hp:PB gr tk l (k+1) sv wi 0 0 W1) (hs:SB W.heap.size ⟨#[]⟩ q false (.slice none 0 0) W1)=>q56 hp (q06 hk1) hs hlt)
 rw[hS]at HN
 simp only[if_true]at HN
 have HSK:=hZq (fun W1 (hp:PB gr tk l (k+1+1) sv wi 0 0 W1)=>q2f hp (q06 hk2) ⟨#[43]⟩)
 have e43:(⟨#[43]⟩:ByteArray).data.toList=[43]:=rfl
 rw[e43]at HSK
 obtain ⟨B,K,hB,hK,hR3,hk3,hL3⟩:=qdB hk2 hL2 hR
 rw[hB,hK]at HSK
 have HKA:=hZq ka
 have HG:=hZq hG
 have HR3:=hZq hR3
 have HL3:=hZq hL3
 have hK5:K<=100000:=by have:=h.len;omega
 have hsvs: ∃a c,sv= .slice a rs.length c:=by
  obtain ⟨a,c,e,_⟩:=hG.at
  exact ⟨a,c,e⟩
 obtain ⟨sva,svc,rfl⟩:=hsvs
 have H58:=hZq (fun W1 (hp:PB gr tk l K (.slice sva rs.length svc) wi 0 0 W1)=>q2f hp (q06 hk3) ⟨#[58]⟩)
 have e58:(⟨#[58]⟩:ByteArray).data.toList=[58]:=rfl
 rw[e58]at H58
 generalize wdS l[k+1]=NM at *
 clear h ka hs0 hR hQ hS hG hB hK hR3 e43 e58 hL3 hL2
 by_cases hc:wdT l[K]=[58]
 ·rw[hc]at H58
  simp only[decide_true,if_true]at H58
  have HR4:Hid (R=cdR q NM B (l.drop (K+1))):=hZq (by
   rw[uQ HR3,q06 hk3]
   unfold clR
   simp only[wdL,List.drop_one,List.tail_cons]
   rw[if_pos hc])
  obtain ⟨hk4,hL4,_⟩:=(uQ HL3).step (q06 hk3) (q0R (by rw[hc];simp))
  have HL4:=hZq hL4
  have HCD:=hZq (fun W1 (hp:PB gr tk l (K+1) (.slice sva rs.length svc) wi 0 0 W1) (hs:SB W.heap.size NM q B (.slice none 0 0) W1)=>qa3 hp hk4 hL4 hs hlt)
  clear hL4 HR3 HL3 hc
  go_enter Tryz.func52,Tryz.ntmps52
  go_wp2_with fail
  refine (uQ C1).mono ?_
  rintro e w1 ⟨rfl,hp1,hs1,hkp1⟩
  have HK1:=hZq (q0v (gr:=gr) (gs:=W.heap.size) ((uQ HKA).mono (by simp)) hkp1 (by simp) (zM _))
  have N1:=hZq (uQ HN w1 hp1 hs1)
  clear C1 hp1 hs1 hkp1 HN HKA
  go_wp2_with fail
  refine (uQ N1).mono ?_
  rintro e w2 ⟨rfl,hp2,hs2,hkp2⟩
  have HK2:=hZq (q0v (gr:=gr) (gs:=W.heap.size) (uQ HK1) hkp2 (by simp) (zM _))
  have K1:=hZq (uQ HSK w2 hp2)
  have HS2:=hZq hs2
  clear N1 hp2 hs2 hkp2 HK1 HSK
  go_wp2_with fail
  refine (uQ K1).mono ?_
  rintro e w3 ⟨rfl,hp3,hkp3⟩
  have hs3:SB W.heap.size NM q false (.slice none 0 0) w3:=CBox.kp (uQ HS2) hkp3 (by simp;omega)
  have z2:=hs3.cell (i:=2) (v:= .bool false) rfl
  have zf:=CBox.froz hs3
  have hs4:SB W.heap.size NM q B (.slice none 0 0) (w3.setCell ⟨W.heap.size,2,none⟩ (.bool B)):=CBox.set hs3 2 _
  have hp4:=hp3.kp (Kp.set w3 W.heap.size 2 (.bool B)) (by simpa using hlt)
  have HK4:=hZq (q0v (gr:=gr) (gs:=W.heap.size) (q0v (gr:=gr) (gs:=W.heap.size) (uQ HK2) hkp3 (by simp) (zM _)) (Kp.set w3 W.heap.size 2 (.bool B)) (by simp) (zM _))
  have S1:=hZq (uQ H58 _ hp4)
  have HS4:=hZq hs4
  have hl3:W.heap.size<w3.heap.size:=(zB.1 hs3).1
  clear K1 hp3 hkp3 hs3 hs4 hp4 HK2 HS2 H58
  go_wp2_with fail
  refine (uQ S1).mono ?_
  rintro e w5 ⟨rfl,hp5,hkp5⟩
  have hs5:SB W.heap.size NM q B (.slice none 0 0) w5:=CBox.kp (uQ HS4) hkp5 (by simp;omega)
  have HK5:=hZq (q0v (gr:=gr) (gs:=W.heap.size) (uQ HK4) hkp5 (by simp) (zM _))
  have D1:=hZq (uQ HCD w5 hp5 hs5)
  have hw5:W.heap.size<=w5.heap.size:=(uQ HK5).size
  clear S1 hp5 hs5 hkp5 HK4 HS4 z2 zf HCD hl3
  go_wp2_with fail
  refine (uQ D1).mono ?_
  rintro e w6 ⟨ad,cp,j,A,C,x,rfl,hp6,hs6,ho6,hps,hkp6⟩
  have HK6:=hZq (q0v (gr:=gr) (gs:=W.heap.size) (uQ HK5) hkp6 (by simp) (zM _))
  have hjb:K+1+j<=100000:=by
   have h1:=hp6.len
   rcases hps with ⟨_,_,hj,_⟩|⟨_,hj,_⟩
   ·rw[List.length_drop]at hj;omega
   ·omega
  rcases hps with ⟨rfl,rfl,hj,hgd,hck⟩|⟨rfl,rfl,rfl,hbd⟩
  ·obtain ⟨hk7,hL7,hdr⟩:=(uQ HL4).far hgd
   have HR5:Hid (R=if wdL (l.drop (K+1+j))=[59] then .good ⟨NM,q,B,x⟩ ((l.drop (K+1+j)).drop 1) else .bad (hdPl (l.drop (K+1+j))) 120):=hZq (by
    rw[uQ HR4]
    unfold cdR
    rw[hgd]
    dsimp only
    rw[if_neg hck,hdr])
   have S2:=q2f hp6 (q06 hk7) ⟨#[59]⟩
   have e59:(⟨#[59]⟩:ByteArray).data.toList=[59]:=rfl
   rw[e59]at S2
   have HS6:=hZq hs6
   have HO6:=hZq ho6
   rw[q06 hk7]at HR5
   simp only[wdL,List.drop_one,List.tail_cons]at HR5
   clear D1 hp6 hs6 ho6 hkp6 HK5 hgd hck hdr HR4 HL4 e59
   by_cases h59:wdT l[K+1+j]=[59]
   ·rw[h59]at S2 HR5
    simp only[decide_true,if_true]at S2 HR5
    obtain ⟨hk8,hL8,_⟩:=hL7.step (q06 hk7) (q0R (by rw[h59];simp))
    have HS2:=hZq S2
    have HL8:=hZq hL8
    clear S2 hL8 hL7 h59
    go_wp2_with fail
    refine (uQ HS2).mono ?_
    rintro e w7 ⟨rfl,hp7,hkp7⟩
    have hK7:=q0v (gr:=gr) (gs:=W.heap.size) (uQ HK6) hkp7 (by simp) (zM _)
    have hs7:SB W.heap.size NM q B (.slice ad x.length cp) w7:=CBox.kp (uQ HS6) hkp7 (by simp;omega)
    have hG7:=(uQ HG).kp hK7 (by simp)
    have hC7:OwnsP (gr+1) w7 (.slice ad x.length cp) x:=OwnsP.mono (q03 (uQ HO6) hkp7 (fun g hg=>by have:=(World.ownsRow.lt (uQ HO6) g hg).1;simp;omega)) (by omega)
    have hB7:Below gr W w7:=hK7.below (by omega) (by simp)
    obtain ⟨i0,hi,hz0,hz1,hz2⟩:=info_parts qde
    have hs7d:SB W.heap.size NM q B (.slice ad x.length cp) w7.drew:=CBox.kp hs7 (Kp.drew w7) (by simp)
    have y0:=hs7d.cell (i:=0) (v:= .string NM) rfl
    have y1:=hs7d.cell (i:=1) (v:= .int .i64 q) rfl
    have y2:=hs7d.cell (i:=2) (v:= .bool B) rfl
    have y3:=hs7d.cell (i:=3) (v:= .slice ad x.length cp) rfl
    obtain ⟨_,_,u2,_⟩:=(hp7.kp (Kp.drew w7) (by simp)).cells
    have k8:Kp [] w7 (w7.alloc (.cells #[.string NM, .int .i64 q, .bool B, .slice ad x.length cp] 88)).drew:=(Kp.alloc w7 _).trans (Kp.drew _) (by simp)
    obtain ⟨_,_,v2,_⟩:=(hp7.kp k8 (by simp)).cells
    have own8:=q03 hG7.row k8 (by simp)
    have HST:Hid (∀g8 cap8 w8,w8.ownsRow (gr+1) 88 4 (.slice (some ⟨g8,0,none⟩) (rs.length+1) cap8) (rs.length+1) (rs.flatMap srE++[.string NM, .int .i64 q, .bool B, .slice ad x.length cp])->(w7.alloc (.cells #[.string NM, .int .i64 q, .bool B, .slice ad x.length cp] 88)).drew.grownBy w8 (Value.slice sva rs.length svc).ownBlock->(w8.cell? ⟨gr,2,none⟩=some (.slice sva rs.length svc)/\(∀i,w8.frozen? ⟨gr,i,none⟩=false))/\StT gr tk l n (.slice sva rs.length svc) wi rs W R (.returned (.bool true)) (w8.setCell ⟨gr,2,none⟩ (.slice (some ⟨g8,0,none⟩) (rs.length+1) cap8))):=hZq (fun g8 cap8 w8 h8 hg8=>by
     have hp8:=(hp7.kp k8 (by simp)).kp (Kp.of hg8) (fun z hz=>by have:=(World.ownsRow.lt hG7.row z (by simpa using hz)).1;omega)
     obtain ⟨_,_,a2,_,_,_,az⟩:=hp8.cells
     exact ⟨⟨a2,az⟩,q7i (s:=⟨NM,q,B,x⟩) (ad:=ad) (c:=cp) hp7 hG7 hC7 hB7 hk8 (uQ HL8) h8 hg8 R (uQ HR5)⟩)
    have hlc:(w7.alloc (.cells #[.string NM, .int .i64 q, .bool B, .slice ad x.length cp] 88)).drew.heap.size=w7.heap.size+1:=by show (w7.alloc _).heap.size=_;simp
    have hgw:gr<w7.heap.size:=hp7.lt
    clear HS2 hp7 hkp7 hK7 hs7 hs7d hG7 hC7 hB7 k8 HG HO6 HS6 HL8 HR5 HK6
    generalize x.length=XL at *
    go_wp2_with fail
    go_region_law
     (first
      |(refine q0O rfl (.tmp 33) (.tmp 35) 22 rfl (gr+1) 88 i0 (.agg #[.string ⟨#[]⟩, .int .i64 0, .bool false, .slice none 0 0]) 4 56 Tryz.underlying22 hi hz0 hz1 hz2 rfl (by decide) (.slice sva rs.length svc) rs.length (rs.flatMap srE) rfl own8 ⟨w7.heap.size,0,none⟩ 1 1 [.string NM, .int .i64 q, .bool B, .slice ad XL cp] rfl rfl (qe0 w7 _ _ _ _ _) (by intro u hu;simp only[zH,List.not_mem_nil,or_false]at hu;rcases hu with rfl|rfl|rfl|rfl <;> rfl) (by omega) (by unfold maxLen;omega) (by omega) (by rw[hlc];omega) ?_;intro g8 cap8 w8 h8 hg8 hat8;obtain ⟨⟨a2,az⟩,hst⟩:=uQ HST g8 cap8 w8 h8 hg8;have HF:=hZq hst;clear h8 hg8 hat8 hst))
    all_goals
     clear HST
     go_wp2
     refine bodyPost_ret (results_tmp rfl _ _ _) rfl ?_
     exact uQ HF
   ·rw[zK h59,if_neg h59]at S2
    have HR6:Hid (R= .bad (hdPl (l.drop (K+1+j))) 120):=hZq (by rw[uQ HR5,if_neg h59, <-q06 hk7])
    have HS2:=hZq S2
    clear S2 HR5 h59 hL7
    go_wp2_with fail
    refine (uQ HS2).mono ?_
    rintro e w7 ⟨rfl,hp7,hkp7⟩
    have HF:=hZq (StT.bad (n:=n) (rs:=rs) hp7 hk7 (q0v (gr:=gr) (gs:=W.heap.size) (uQ HK6) hkp7 (by simp) (zM _)) (uQ HR6))
    clear HS2 hp7 hkp7 HK6 HR6
    go_wp2
    refine bodyPost_ret (results_tmp rfl _ _ _) rfl ?_
    exact uQ HF
  ·have hRb:R= .bad A 110:=by
    rw[uQ HR4]
    unfold cdR
    rcases hbd with ⟨q,h1,h2⟩|⟨y,q,h1,h2,h3⟩
    ·rw[h1,h2]
    ·rw[h1,h3]
     dsimp only
     rw[if_pos h2]
   have HF:Hid (StT gr tk l n (.slice sva rs.length svc) wi rs W R (.returned (.bool false)) w6):=hZq (by
    rw[hRb]
    exact ⟨rfl,K+1+0,A,110,hp6,by omega,Or.inl ⟨by omega,rfl,rfl⟩,uQ HK6⟩)
   clear hRb hbd hp6 hs6 ho6 hkp6 HK6 D1 HK5 HR4 HL4 HG
   go_wp2
   refine bodyPost_ret (results_tmp rfl _ _ _) rfl ?_
   exact uQ HF
 ·rw[zK hc,if_neg hc]at H58
  have HRb:Hid (R= .bad (hdPl (l.drop K)) 120):=hZq (by
   rw[uQ HR3,q06 hk3]
   unfold clR
   exact if_neg hc)
  clear hc HR3 HL3
  go_enter Tryz.func52,Tryz.ntmps52
  go_wp2_with fail
  refine (uQ C1).mono ?_
  rintro e w1 ⟨rfl,hp1,hs1,hkp1⟩
  have HK1:=hZq (q0v (gr:=gr) (gs:=W.heap.size) ((uQ HKA).mono (by simp)) hkp1 (by simp) (zM _))
  have N1:=hZq (uQ HN w1 hp1 hs1)
  clear C1 hp1 hs1 hkp1 HN HKA
  go_wp2_with fail
  refine (uQ N1).mono ?_
  rintro e w2 ⟨rfl,hp2,hs2,hkp2⟩
  have HK2:=hZq (q0v (gr:=gr) (gs:=W.heap.size) (uQ HK1) hkp2 (by simp) (zM _))
  have K1:=hZq (uQ HSK w2 hp2)
  have HS2:=hZq hs2
  clear N1 hp2 hs2 hkp2 HK1 HSK
  go_wp2_with fail
  refine (uQ K1).mono ?_
  rintro e w3 ⟨rfl,hp3,hkp3⟩
  have hs3:SB W.heap.size NM q false (.slice none 0 0) w3:=CBox.kp (uQ HS2) hkp3 (by simp;omega)
  have z2:=hs3.cell (i:=2) (v:= .bool false) rfl
  have zf:=CBox.froz hs3
  have hp4:=hp3.kp (Kp.set w3 W.heap.size 2 (.bool B)) (by simpa using hlt)
  have HK4:=hZq (q0v (gr:=gr) (gs:=W.heap.size) (q0v (gr:=gr) (gs:=W.heap.size) (uQ HK2) hkp3 (by simp) (zM _)) (Kp.set w3 W.heap.size 2 (.bool B)) (by simp) (zM _))
  have S1:=hZq (uQ H58 _ hp4)
  have hl3:W.heap.size<w3.heap.size:=(zB.1 hs3).1
  clear K1 hp3 hkp3 hs3 hp4 HK2 HS2 H58
  go_wp2_with fail
  refine (uQ S1).mono ?_
  rintro e w5 ⟨rfl,hp5,hkp5⟩
  have HF:=hZq (StT.bad (n:=n) (rs:=rs) hp5 hk3 (q0v (gr:=gr) (gs:=W.heap.size) (uQ HK4) hkp5 (by simp) (zM _)) (uQ HRb))
  clear S1 hp5 hkp5 HK4 HRb z2 zf HG
  go_wp2
  refine bodyPost_ret (results_tmp rfl _ _ _) rfl ?_
  exact uQ HF
theorem q8M {gr:Nat}{tk:Value}{l:List Tk}{k n:Nat}{sv:Value}{wi:Int}{rs:List SR}{W:World}(h:PB gr tk l k sv wi 0 0 W)(hk:k<l.length)(hL:Tail (l.drop k) n)(hG:OwnsG (gr+1) W sv rs)(hrs:rs.length<=8):
  Calls Tryz.prog 52 #[.pointer (some ⟨gr,0,none⟩)] W (StT gr tk l n sv wi rs W (stgR (l.drop k))):=by
 have ht0:=q06 hk
 cases hQ:hwOf (wdT l[k])with
 |none=>
  refine q8N h hk hQ _ ?_
  unfold stgR
  rw[ht0]
  simp only[wdL]
  rw[hQ]
 |some q=>
  obtain ⟨hk1,hL1,_⟩:=hL.step ht0 (qf7 (by rw[hQ];rfl))
  have ht1:=q06 hk1
  have hR:stgR (l.drop k)=nmR q (l.drop (k+1)):=by
   unfold stgR
   rw[ht0]
   simp only[wdL,List.drop_one,List.tail_cons]
   rw[hQ]
  rw[hR]
  by_cases hS:isSg (wdS l[k+1])=true
  ·obtain ⟨hk2,hL2,_⟩:=hL1.step ht1 (qfn hS)
   refine q7e h hk q hQ hk1 hS hk2 hL2 _ ?_ hG hrs
   unfold nmR
   rw[ht1]
   simp only[wdM,List.drop_one,List.tail_cons]
   rw[if_pos hS]
  ·refine q7d h hk q hQ hk1 (by simpa using hS) _ ?_
   unfold nmR
   rw[ht1]
   simp only[wdM]
   exact if_neg hS
def PtT (gr:Nat)(tk:Value)(l:List Tk)(W:World)(P:PRd)(e:Ending)(w':World):Prop:=Below gr W w'/\match P with
 | .bad a c=>e= .returned (.bool false)/\ ∃k' sv wi A C,PB gr tk l k' sv wi A C w'/\k'<l.length/\((C≠0/\a=A/\c=C)\/(C=0/\a=hdPl (l.drop k')/\c=120))
 | .good p=>e= .returned (.bool true)/\ ∃k' sv rs,PB gr tk l k' sv p.wi 0 0 w'/\OwnsG (gr+1) w' sv rs/\stgs rs=p.ss
theorem PtT.bad {gr:Nat}{tk:Value}{l:List Tk}{sv:Value}{wi:Int}{W w':World}{P:PRd}{k':Nat}(h:PB gr tk l k' sv wi 0 0 w')(hk:k'<l.length)(hB:Below gr W w')(hP:P= .bad (hdPl (l.drop k')) 120):PtT gr tk l W P (.returned (.bool false)) w':=by
 subst hP
 exact ⟨hB,rfl,k',sv,wi,0,0,h,hk,Or.inr ⟨rfl,rfl,rfl⟩⟩
theorem PtT.st {gr:Nat}{tk:Value}{l:List Tk}{n:Nat}{sv:Value}{wi:Int}{rs:List SR}{W V w':World}{P:PRd}{a c:Int}{e:Ending}(h:StT gr tk l n sv wi rs V (.bad a c) e w')(hB:Below gr W V)(hV:gr<V.heap.size)(hP:P= .bad a c):PtT gr tk l W P e w'/\e= .returned (.bool false):=by
 obtain ⟨he,k',A,C,h1,h2,h3,h4⟩:=h
 subst hP
 exact ⟨⟨hB.trans (h4.below (by omega) (by simp)),he,k',sv,wi,A,C,h1,h2,h3⟩,he⟩
def lenAt (g:Nat)(W:World):Nat:=match W.cell? ⟨g,2,none⟩with
 |some (.slice _ n _)=>n
 |_=>0
theorem PB.lenAt {gr:Nat}{tk:Value}{l:List Tk}{k:Nat}{sva:Option Addr}{n svc:Nat}{wi rA rC:Int}{W:World}(h:PB gr tk l k (.slice sva n svc) wi rA rC W):Go.Proofs.YtfgkikeeadlcfaaGreatDoor.lenAt gr W=n:=by
 unfold Go.Proofs.YtfgkikeeadlcfaaGreatDoor.lenAt
 rw[h.cells.2.2.1]
theorem qc2 (rs:List SR)(r:SR):stgs (rs++[r])=stgs rs++[r.s]:=by unfold stgs;rw[List.map_append];rfl
theorem qbJ {f:Nat}{acc:List Stg}{l:List Tk}(h1:wdL l≠witW)(h2:acc.length≠8):ptR (f+1) acc l=match stgR l with| .bad a c=> .bad a c| .good s r=>ptR f (acc++[s]) r:=by
 rw[ptR,if_neg h1,if_neg h2]
 cases stgR l <;> rfl
theorem qfa {l:List Tk}{k:Nat}(h:k<l.length):hdKd (l.drop k)=l[k].kd:=by rw[q06 h];rfl
theorem qfh {l:List Tk}{k:Nat}(h:k<l.length):hdPl (l.drop k)=l[k].pl:=by rw[q06 h];rfl
theorem q6n {gr:Nat}{tk:Value}{l:List Tk}{n:Nat}{W:World}(h:PB gr tk l 0 (.slice none 0 0) 0 0 0 W)(hL:Tail l n):
  Calls Tryz.prog 30 #[.pointer (some ⟨gr,0,none⟩)] W (PtT gr tk l W (ptR 9 [] l)):=by
 have hl0:0<l.length:=by
  have:=hL.endd.ne
  exact List.length_pos_iff.2 this
 obtain ⟨P,hP⟩: ∃P,ptR 9 [] l=P:=⟨_,rfl⟩
 rw[hP]
 have HP:=hZq hP
 have H0:=hZq h
 have HL0:=hZq hL
 have hGr:=h.lt
 have ewit:(⟨#[119,105,116,104,105,110]⟩:ByteArray).data.toList=witW:=rfl
 have HSK:Hid (∀k (hk:k<l.length) sv W1,PB gr tk l k sv 0 0 0 W1->Calls Tryz.prog 51 #[.pointer (some ⟨gr,0,none⟩), .string ⟨#[119,105,116,104,105,110]⟩] W1 fun e w'=>e= .returned (.bool (decide (wdT l[k]=witW)))/\PB gr tk l (if wdT l[k]=witW then k+1 else k) sv 0 0 0 w'/\Kp [gr] W1 w'):=hZq (fun k hk sv W1 hp=>q2f hp (q06 hk) ⟨#[119,105,116,104,105,110]⟩)
 clear h hP ewit hL
 go_enter Tryz.func30,Tryz.ntmps30
 go_wp2_with fail
 go_loopw [] (fun wr=> ∃(k:Nat) (rs:List SR) (sva:Option Addr) (svc NR:Nat),NR=rs.length/\NR<=8/\k<l.length/\Hid (PB gr tk l k (.slice sva NR svc) 0 0 0 wr/\OwnsG (gr+1) wr (.slice sva NR svc) rs/\Tail (l.drop k) n/\Below gr W wr/\ptR (9-NR) (stgs rs) (l.drop k)=P)) (fun wr=>9-lenAt gr wr)
 case atStart=>exact ⟨0,[],none,0,0,rfl,by omega,hl0,hZq ⟨uQ H0,OwnsG.nil _ _,by simpa using uQ HL0,Below.refl _ _,uQ HP⟩⟩
 case round=>
  obtain ⟨k,rs,sva,svc,NR,hNR,hN8,hk,HI⟩:=hrel
  obtain ⟨hp,hG,hT,hB,hPt⟩:=uQ HI
  have S1:=hZq (uQ HSK k hk _ _ hp)
  have HG:=hZq hG
  have HT:=hZq hT
  have HB:=hZq hB
  have HPT:=hZq hPt
  have HNR:=hZq hNR
  have hlen:=hp.len
  have hGw:=hp.lt
  have hlA:=hp.lenAt
  have HLA:=hZq hlA
  clear HI hp hG hT hB hPt hNR H0 HL0 HP hlA HSK
  by_cases hw:wdT l[k]=witW
  ·rw[hw]at S1
   simp only[decide_true,if_true]at S1
   obtain ⟨hk1,hT1,_⟩:=(uQ HT).step (q06 hk) (q0R (by rw[hw];decide))
   have HP2:Hid (P=nbR (stgs rs) (l.drop (k+1))):=hZq (by
    obtain ⟨f,hf⟩: ∃f,9-NR=f+1:=⟨8-NR,by omega⟩
    rw[<-uQ HPT,hf,ptR,q06 hk]
    simp only[wdL,List.drop_one,List.tail_cons]
    exact if_pos hw)
   have HNB:=hZq (fun W1 (hp:PB gr tk l (k+1) (.slice sva NR svc) 0 0 0 W1)=>q7c hp (q06 hk1))
   clear hw HPT HLA
   go_wp2_with fail
   refine (uQ S1).mono ?_
   rintro e w1 ⟨rfl,hp1,hkp1⟩
   have hB1:=(uQ HB).trans (hkp1.below (by omega) (by simp))
   have hG1:=(uQ HG).kp hkp1 (by simp)
   have HG1:=hZq hG1
   have HB1:=hZq hB1
   have N1:=hZq (uQ HNB w1.drew (hp1.kp (Kp.drew w1) (by simp)))
   have HP1:=hZq hp1
   have hGw1:=hp1.lt
   clear S1 hp1 hkp1 hB1 hG1 HNB HG HB
   by_cases h2:l[k+1].kd=2
   ·rw[h2]at N1
    simp only[decide_true,if_true]at N1
    obtain ⟨hk2,hT2,_⟩:=hT1.step (q06 hk1) (by rw[h2];decide)
    have HP3:Hid (P=if l[k+1+1].kd=0 then .good ⟨stgs rs,if 257<l[k+1].n then 257 else l[k+1].n⟩ else .bad (hdPl (l.drop (k+1+1))) 120):=hZq (by
     rw[uQ HP2,q06 hk1,nbR,if_pos h2,qfa hk2])
    generalize (if 257<l[k+1].n then (257:Int) else l[k+1].n)=WI at *
    have HCE:Hid (∀w2,PB gr tk l (k+1+1) (.slice sva NR svc) WI 0 0 w2->Kp [gr] w1.drew w2-> ∃b off c,tk= .slice (some ⟨b,off,none⟩) l.length c/\w2.cell? ⟨gr,0,none⟩=some tk/\w2.cell? ⟨gr,1,none⟩=some (.int .i64 ((k:Int)+1+1))/\w2.cell? ⟨b,off+(k+1+1) * 4,none⟩=some (.int .i64 l[k+1+1].kd)/\Hid (PtT gr tk l W P (.returned (.bool (decide (l[k+1+1].kd=0)))) w2)):=hZq (fun w2 hp2 hkp2=>by
     obtain ⟨b,off,c,e,hlt2,hc2⟩:=hp2.tks
     obtain ⟨x0,x1,_⟩:=hp2.cells
     refine ⟨b,off,c,e,x0,by rw[x1];simp,(hc2 (k+1+1) hk2).1,hZq ?_⟩
     have hB2:=((uQ HB1).trans ((Kp.drew w1).below (by omega) (by simp))).trans (hkp2.below (by show gr<=w1.heap.size;omega) (by simp))
     have hG2:=((uQ HG1).kp (Kp.drew w1) (by simp)).kp hkp2 (by simp)
     by_cases h0:l[k+1+1].kd=0
     ·rw[uQ HP3,if_pos h0,decide_eq_true h0]
      exact ⟨hB2,rfl,k+1+1,_,rs,hp2,hG2,rfl⟩
     ·rw[uQ HP3,if_neg h0,zK h0]
      exact PtT.bad hp2 hk2 hB2 rfl)
    have hk2i:((k:Int)+1+1)<(l.length:Int):=by omega
    clear HP2 h2 hT1 HP3 HG1 HB1 HP1 hT2
    generalize l[k+1+1].kd=KD at *
    go_wp2_with fail
    go_region_with (go_at_call 53;refine (uQ N1).mono ?_;rintro e w2 ⟨rfl,hp2,hkp2⟩;obtain ⟨b,off,c,rfl,x0,x1,x2,HF⟩:=uQ HCE w2 hp2 hkp2;clear hp2 hkp2)
    all_goals
     go_wp2
     refine bodyPost_ret (results_tmp rfl _ _ _) rfl ?_
     exact uQ HF
   ·have hN2:P= .bad (hdPl (l.drop (k+1))) 120:=by
     rw[uQ HP2,q06 hk1,nbR,if_neg h2]
    rw[zK h2,if_neg h2,if_neg h2]at N1
    have HCE:Hid (∀w2,PB gr tk l (k+1) (.slice sva NR svc) 0 0 0 w2->Kp [gr] w1.drew w2->PtT gr tk l W P (.returned (.bool false)) w2):=hZq (fun w2 hp2 hkp2=>PtT.bad hp2 hk1 (((uQ HB1).trans ((Kp.drew w1).below (by omega) (by simp))).trans (hkp2.below (by show gr<=w1.heap.size;omega) (by simp))) hN2)
    clear HP2 h2 hT1 hN2 HG1 HB1 HP1
    go_wp2_with fail
    refine wp_region_held_drew (S:=fun _=>True) (by kernel_rfl) trivial (fun hHeld=>?_)
    show wpAnyH _ _ _ _ _ 17 (Array.replicate 17 false) _ _
    refine wpAnyH_take (i:=0) (oi:=⟨some 18,Op.move (.tmp 0),101,"read.go:30",#[],none⟩) (v:=?_) rfl (by kernel_rfl) (by kernel_rfl) (by kernel_rfl) (fun _ _ _ h=>h) (Or.inl ⟨by rfl,?_⟩) trivial ?_
    rotate_left
    ·intro w0 s9
     go_simp
     (try with_reducible rfl)
    try simp only[Act.put,zz1,zz2,zz3]
    refine wpAnyH_ready (rs:=[1]) (by kernel_rfl) (by simp) ?_
    refine AllReadyH.cons (o:=⟨some 19,Op.call { callee:= .value (.func 53),args:=#[.tmp 18],argTypes:=#[101] },4,"read.go:30",#[⟨0, .data⟩],none⟩) rfl (fun K hK=>?_) AllReadyH.nil
    go_simp
    go_at_call 53
    refine (uQ N1).mono ?_
    rintro e w2 ⟨rfl,hp2,hkp2⟩
    have HF:=hZq (uQ HCE w2 hp2 hkp2)
    clear hp2 hkp2
    refine hK.out _ _ trivial (fun hHeld=>?_)
    clear hK K
    try simp only[Act.put,zz1,zz2,zz3]
    refine wpAnyH_take (i:=2) (oi:=⟨some 20,Op.move (.tmp 19),4,"read.go:30",#[⟨1, .data⟩,⟨1, .chain⟩],none⟩) (v:=?_) rfl (by kernel_rfl) (by kernel_rfl) (by kernel_rfl) (fun _ _ _ h=>h) (Or.inl ⟨by rfl,?_⟩) trivial ?_
    rotate_left
    ·intro w0 s9
     go_simp
     (try with_reducible rfl)
    try simp only[Act.put,zz1,zz2,zz3]
    refine wpAnyH_take (i:=3) (oi:=⟨some 21,Op.move (.tmp 0),101,"read.go:30",#[⟨2, .guard⟩],some (2,true)⟩) (v:=undef) rfl (by kernel_rfl) (by kernel_rfl) (by kernel_rfl) (fun _ _ _ h=>h) (Or.inr ⟨by rfl,rfl⟩) trivial ?_
    try simp only[Act.put,zz1,zz2,zz3]
    refine wpAnyH_take (i:=4) (oi:=⟨some 22,Op.nilCheck (.tmp 21),0,"read.go:30",#[⟨3, .data⟩,⟨2, .guard⟩],some (2,true)⟩) (v:=undef) rfl (by kernel_rfl) (by kernel_rfl) (by kernel_rfl) (fun _ _ _ h=>h) (Or.inr ⟨by rfl,rfl⟩) trivial ?_
    try simp only[Act.put,zz1,zz2,zz3]
    refine wpAnyH_take (i:=5) (oi:=⟨some 23,Op.fieldAddr 74 (.tmp 22) 0,0,"read.go:30",#[⟨4, .data⟩,⟨2, .guard⟩],some (2,true)⟩) (v:=undef) rfl (by kernel_rfl) (by kernel_rfl) (by kernel_rfl) (fun _ _ _ h=>h) (Or.inr ⟨by rfl,rfl⟩) trivial ?_
    try simp only[Act.put,zz1,zz2,zz3]
    refine wpAnyH_take (i:=6) (oi:=⟨some 24,Op.load 70 (.tmp 23),70,"read.go:30",#[⟨5, .data⟩,⟨2, .guard⟩],some (2,true)⟩) (v:=undef) rfl (by kernel_rfl) (by kernel_rfl) (by kernel_rfl) (fun _ _ _ h=>h) (Or.inr ⟨by rfl,rfl⟩) trivial ?_
    try simp only[Act.put,zz1,zz2,zz3]
    refine wpAnyH_take (i:=7) (oi:=⟨some 25,Op.move (.tmp 0),101,"read.go:30",#[⟨2, .guard⟩],some (2,true)⟩) (v:=undef) rfl (by kernel_rfl) (by kernel_rfl) (by kernel_rfl) (fun _ _ _ h=>h) (Or.inr ⟨by rfl,rfl⟩) trivial ?_
    try simp only[Act.put,zz1,zz2,zz3]
    refine wpAnyH_take (i:=8) (oi:=⟨some 26,Op.nilCheck (.tmp 25),0,"read.go:30",#[⟨7, .data⟩,⟨2, .guard⟩],some (2,true)⟩) (v:=undef) rfl (by kernel_rfl) (by kernel_rfl) (by kernel_rfl) (fun _ _ _ h=>h) (Or.inr ⟨by rfl,rfl⟩) trivial ?_
    try simp only[Act.put,zz1,zz2,zz3]
    refine wpAnyH_take (i:=9) (oi:=⟨some 27,Op.fieldAddr 74 (.tmp 26) 1,0,"read.go:30",#[⟨8, .data⟩,⟨2, .guard⟩],some (2,true)⟩) (v:=undef) rfl (by kernel_rfl) (by kernel_rfl) (by kernel_rfl) (fun _ _ _ h=>h) (Or.inr ⟨by rfl,rfl⟩) trivial ?_
    try simp only[Act.put,zz1,zz2,zz3]
    refine wpAnyH_take (i:=10) (oi:=⟨some 28,Op.load 3 (.tmp 27),3,"read.go:30",#[⟨9, .data⟩,⟨2, .guard⟩],some (2,true)⟩) (v:=undef) rfl (by kernel_rfl) (by kernel_rfl) (by kernel_rfl) (fun _ _ _ h=>h) (Or.inr ⟨by rfl,rfl⟩) trivial ?_
    try simp only[Act.put,zz1,zz2,zz3]
    refine wpAnyH_take (i:=11) (oi:=⟨some 29,Op.indexAddr 70 (.tmp 24) (.tmp 28),0,"read.go:30",#[⟨6, .data⟩,⟨10, .data⟩,⟨2, .guard⟩],some (2,true)⟩) (v:=undef) rfl (by kernel_rfl) (by kernel_rfl) (by kernel_rfl) (fun _ _ _ h=>h) (Or.inr ⟨by rfl,rfl⟩) trivial ?_
    try simp only[Act.put,zz1,zz2,zz3]
    refine wpAnyH_take (i:=12) (oi:=⟨some 30,Op.fieldAddr 98 (.tmp 29) 0,0,"read.go:30",#[⟨11, .data⟩,⟨2, .guard⟩],some (2,true)⟩) (v:=undef) rfl (by kernel_rfl) (by kernel_rfl) (by kernel_rfl) (fun _ _ _ h=>h) (Or.inr ⟨by rfl,rfl⟩) trivial ?_
    try simp only[Act.put,zz1,zz2,zz3]
    refine wpAnyH_take (i:=13) (oi:=⟨some 31,Op.load 3 (.tmp 30),3,"read.go:30",#[⟨12, .data⟩,⟨2, .guard⟩],some (2,true)⟩) (v:=undef) rfl (by kernel_rfl) (by kernel_rfl) (by kernel_rfl) (fun _ _ _ h=>h) (Or.inr ⟨by rfl,rfl⟩) trivial ?_
    try simp only[Act.put,zz1,zz2,zz3]
    refine wpAnyH_take (i:=14) (oi:=⟨some 32,Op.binOp BinOp.eql 3 (.tmp 31) (.const (Value.int IntKind.i64 0)) 3,4,"read.go:30",#[⟨13, .data⟩,⟨2, .guard⟩],some (2,true)⟩) (v:=undef) rfl (by kernel_rfl) (by kernel_rfl) (by kernel_rfl) (fun _ _ _ h=>h) (Or.inr ⟨by rfl,rfl⟩) trivial ?_
    try simp only[Act.put,zz1,zz2,zz3]
    refine wpAnyH_take (i:=15) (oi:=⟨some 33,Op.pick (.tmp 20) (.tmp 32) (.const (Value.bool false)),4,"read.go:30",#[⟨2, .data⟩,⟨14, .data⟩],none⟩) (v:=?_) rfl (by kernel_rfl) (by kernel_rfl) (by kernel_rfl) (fun _ _ _ h=>h) (Or.inl ⟨by rfl,?_⟩) trivial ?_
    rotate_left
    ·intro w0 s9
     go_simp
     (try with_reducible rfl)
    try simp only[Act.put,zz1,zz2,zz3]
    refine wpAnyH_take (i:=16) (oi:=⟨some 2,Op.assign (.tmp 33),4,"read.go:30",#[⟨15, .data⟩,⟨2, .chain⟩,⟨0, .phase⟩,⟨1, .phase⟩,⟨2, .phase⟩,⟨3, .phase⟩,⟨4, .phase⟩,⟨5, .phase⟩,⟨6, .phase⟩,⟨7, .phase⟩,⟨8, .phase⟩,⟨9, .phase⟩,⟨10, .phase⟩,⟨11, .phase⟩,⟨12, .phase⟩,⟨13, .phase⟩,⟨14, .phase⟩,⟨15, .phase⟩],none⟩) (v:=?_) rfl (by kernel_rfl) (by kernel_rfl) (by kernel_rfl) (fun _ _ _ h=>h) (Or.inl ⟨by rfl,?_⟩) trivial ?_
    rotate_left
    ·intro w0 s9
     go_simp
     (try with_reducible rfl)
    try simp only[Act.put,zz1,zz2,zz3]
    refine wpAnyH_done (by kernel_rfl) ?_ _
    go_wp2
    refine bodyPost_ret (results_tmp rfl _ _ _) rfl ?_
    exact uQ HF
  ·rw[zK hw,if_neg hw]at S1
   have hwl:wdL (l.drop k)≠witW:=by rw[q06 hk];exact hw
   by_cases h8:NR=8
   ·have HPb:Hid (P= .bad (hdPl (l.drop k)) 120):=hZq (by
     rw[<-uQ HPT,h8,ptR,if_neg hwl,if_pos (by rw[q02, <-uQ HNR];exact h8)])
    clear HPT
    subst h8
    go_wp2_with fail
    refine (uQ S1).mono ?_
    rintro e w1 ⟨rfl,hp1,hkp1⟩
    obtain ⟨_,_,c2,_⟩:=hp1.cells
    have hB1:=(uQ HB).trans (hkp1.below (by omega) (by simp))
    have HF:=hZq (PtT.bad hp1 hk hB1 (uQ HPb))
    have hGw1:=hp1.lt
    clear S1 hp1 hkp1 hB1 HB HG HT HPb
    go_wp2
    refine bodyPost_ret (results_tmp rfl _ _ _) rfl ?_
    exact uQ HF
   ·have g8:((NR:Int)==8)=false:=beq_eq_false_iff_ne.2 (by omega)
    have HST:Hid (∀W1,PB gr tk l k (.slice sva NR svc) 0 0 0 W1->OwnsG (gr+1) W1 (.slice sva NR svc) rs->Calls Tryz.prog 52 #[.pointer (some ⟨gr,0,none⟩)] W1 (StT gr tk l n (.slice sva NR svc) 0 rs W1 (stgR (l.drop k)))):=hZq (fun W1 hp hg=>q8M hp hk (uQ HT) hg (by rw[<-uQ HNR];omega))
    have HPn:Hid (P=match stgR (l.drop k)with| .bad a c=> .bad a c| .good s r=>ptR (8-NR) (stgs rs++[s]) r):=hZq (by
     obtain ⟨f,hf⟩: ∃f,9-NR=f+1:=⟨8-NR,by omega⟩
     rw[<-uQ HPT,hf,qbJ hwl (by rw[q02, <-uQ HNR];exact h8),show f=8-NR by omega])
    clear HPT hw hwl
    go_wp2_with fail
    refine (uQ S1).mono ?_
    rintro e w1 ⟨rfl,hp1,hkp1⟩
    obtain ⟨_,_,c2,_⟩:=hp1.cells
    have HB1:=hZq ((uQ HB).trans (hkp1.below (by omega) (by simp)))
    have hGw1:=hp1.lt
    have T1:=hZq (uQ HST w1 hp1 ((uQ HG).kp hkp1 (by simp)))
    clear S1 hp1 hkp1 HB HG HT HST
    go_wp2_with fail
    refine (uQ T1).mono ?_
    rintro e w2 hst
    cases hsr:stgR (l.drop k)with
    |bad a c=>
     rw[hsr]at hst HPn
     obtain ⟨hF,rfl⟩:=PtT.st hst (uQ HB1) hGw1 (uQ HPn)
     have HF:=hZq hF
     clear hF hst T1 HPn HB1 c2
     go_wp2
     refine bodyPost_ret (results_tmp rfl _ _ _) rfl ?_
     exact uQ HF
    |good s r=>
     rw[hsr]at hst HPn
     dsimp only at HPn
     obtain ⟨rfl,k',sv',ad,cp,hp2,hk2,hT2,hd2,hG2,hB2⟩:=hst
     obtain ⟨a2,c2',rfl,_⟩:=hG2.at
     have HI2:Hid (PB gr tk l k' (.slice a2 (NR+1) c2') 0 0 0 w2/\OwnsG (gr+1) w2 (.slice a2 (NR+1) c2') (rs++[⟨s,ad,cp⟩])/\Tail (l.drop k') n/\Below gr W w2/\ptR (9-(NR+1)) (stgs (rs++[⟨s,ad,cp⟩])) (l.drop k')=P):=hZq (by
      rw[zF,List.length_singleton, <-uQ HNR]at hp2 hG2
      exact ⟨hp2,hG2,hT2,(uQ HB1).trans hB2,by rw[qc2,hd2,uQ HPn,show 9-(NR+1)=8-NR by omega]⟩)
     have HLB:Hid ((rs++[(⟨s,ad,cp⟩:SR)]).length=NR+1):=hZq (by rw[zF,List.length_singleton, <-uQ HNR])
     clear hp2 hG2 hT2 hB2 hd2 T1 HPn HB1 c2
     go_wp2
     go_roundw
     case rel=>exact ⟨k',rs++[⟨s,ad,cp⟩],a2,c2',NR+1,(uQ HLB).symm,by omega,hk2,HI2⟩
     case measure=>
      rw[uQ HLA,(uQ HI2).1.lenAt]
      omega
theorem q8L {gr:Nat}{tk:Value}{l:List Tk}{k:Nat}{sv:Value}{wi A C a c:Int}{W:World}(h:PB gr tk l k sv wi A C W)(hk:k<l.length)(hf:(C≠0/\a=A/\c=C)\/(C=0/\a=hdPl (l.drop k)/\c=120)):
  Calls Tryz.prog 31 #[.pointer (some ⟨gr,0,none⟩)] W fun e w'=>e= .returned (.agg #[.int .i64 a, .int .i64 c])/\Below W.heap.size W w':=by
 have hlen:=h.len
 have hgl:=h.lt
 have kf:=Kp.alloc W (.cells #[.int .i64 0, .int .i64 0] 47)
 have h1:=h.kp kf (by simp)
 have fb:FBox W.heap.size (W.alloc (.cells #[.int .i64 0, .int .i64 0] 47)):=CBox.new W _ _
 have HB:=hZq ((Below.refl W.heap.size W).alloc (zM _) (.cells #[.int .i64 0, .int .i64 0] 47))
 obtain ⟨c0,c1,_,_,c4,c5,_⟩:=h1.cells
 rcases hf with ⟨hC,rfl,rfl⟩|⟨rfl,rfl,rfl⟩
 ·have gC:(c==0)=false:=beq_eq_false_iff_ne.2 hC
  obtain ⟨f0,f1,z0,z1⟩:=FBox.cells fb
  have HFB:=hZq fb
  clear h h1 kf fb hC c0 c1
  go_enter Tryz.func31,Tryz.ntmps31
  go_wp2
  obtain ⟨y0,y1⟩:=q1o (CBox.new W #[.int .i64 a, .int .i64 c] 47)
  exact bodyPost_ret (v:= .agg #[.int .i64 a, .int .i64 c]) (by simp[results,Tryz.results31,go_sem,y0,y1]) rfl ⟨rfl,(Below.refl W.heap.size W).alloc (zM _) _⟩
 ·obtain ⟨b,off,cap,htk,hlt,hc⟩:=h1.tks
  obtain ⟨_,_,_,x3⟩:=hc k hk
  rw[htk]at c0
  rw[qfh hk]
  have hki:(k:Int)<(l.length:Int):=by omega
  have HFB:=hZq fb
  obtain ⟨f0,f1,z0,z1⟩:=FBox.cells fb
  clear h h1 kf fb hc htk
  generalize l[k].pl=PL at *
  go_enter Tryz.func31,Tryz.ntmps31
  go_wp2
  go_region
  go_wp2
  have q2:CBox W.heap.size #[.int .i64 PL, .int .i64 120] 47 (W.alloc (.cells #[.int .i64 PL, .int .i64 120] 47)).drew:=CBox.new W _ _
  obtain ⟨y0,y1⟩:=q1o q2
  exact bodyPost_ret (v:= .agg #[.int .i64 PL, .int .i64 120]) (by simp[results,Tryz.results31,go_sem,y0,y1]) rfl ⟨rfl,((Below.refl W.heap.size W).alloc (zM _) _).drew⟩
def SRd.fits:SRd->Prop
 | .bad _ _=>True
 | .good s _=>s.ok
theorem qaM (h:Int)(hh:0<=h/\h<=3)(nm:ByteArray)(hn:nm.size<=9223372036854775807)(m:Bool)(l:List Tk)(hl: ∀t∈l,t.ok):(cdR h nm m l).fits:=by
 unfold cdR
 have hf:=q6m (mRd 0 l) 0 0 [] l hl (by simp)
 unfold psR
 cases hp:pRd (mRd 0 l) 0 0 [] l with
 |bad q=>exact trivial
 |good x q=>
  rw[hp]at hf
  dsimp only
  split
  ·exact trivial
  ·split
   ·exact ⟨hn,⟨by dsimp only;omega,by dsimp only;omega⟩,hf⟩
   ·exact trivial
theorem q1h {l:List Tk}(hl: ∀t∈l,t.ok)(k:Nat): ∀t∈l.drop k,t.ok:=fun t ht=>hl t (List.mem_of_mem_drop ht)
theorem q5z (h:Int)(hh:0<=h/\h<=3)(nm:ByteArray)(hn:nm.size<=9223372036854775807)(m:Bool)(l:List Tk)(hl: ∀t∈l,t.ok):(clR h nm m l).fits:=by
 unfold clR
 split
 ·exact qaM h hh nm hn m _ (q1h hl 1)
 ·exact trivial
theorem qbo {s:List UInt8}{h:Int}(e:hwOf s=some h):0<=h/\h<=3:=by
 unfold hwOf at e
 repeat' split at e
 all_goals first|(cases e;omega)|cases e
theorem qch {l:List Tk}(hl: ∀t∈l,t.ok):(wdM l).size<=9223372036854775807:=by
 cases l with
 |nil=>show (0:Nat)<=_;omega
 |cons t r=>
  show (wdS t).size<=_
  unfold wdS
  split
  ·exact (hl t (by simp)).2.1
  ·show (0:Nat)<=_;omega
theorem qam (l:List Tk)(hl: ∀t∈l,t.ok):(stgR l).fits:=by
 unfold stgR
 cases hq:hwOf (wdL l)with
 |none=>exact trivial
 |some h=>
  have hh:=qbo hq
  dsimp only
  unfold nmR
  split
  ·unfold mnR
   have hn:=qch (q1h hl 1)
   split
   ·exact q5z h hh _ hn _ _ (q1h (q1h (q1h hl 1) 1) 1)
   ·exact q5z h hh _ hn _ _ (q1h (q1h hl 1) 1)
  ·exact trivial
theorem qcA {h:Int}{nm:ByteArray}{m:Bool}{l:List Tk}{s:Stg}{r:List Tk}(hr:cdR h nm m l= .good s r):r<:+l:=by
 unfold cdR at hr
 have hs:=q7V (mRd 0 l) 0 0 [] l
 unfold psR at hr
 cases hp:pRd (mRd 0 l) 0 0 [] l with
 |bad q=>rw[hp]at hr;cases hr
 |good x q=>
  rw[hp]at hr hs
  dsimp only at hr
  split at hr
  ·cases hr
  ·split at hr
   ·cases hr
    exact (List.drop_suffix 1 q).trans hs
   ·cases hr
theorem q7w {h:Int}{nm:ByteArray}{m:Bool}{l:List Tk}{s:Stg}{r:List Tk}(hr:clR h nm m l= .good s r):r<:+l:=by
 unfold clR at hr
 split at hr
 ·exact (qcA hr).trans (List.drop_suffix 1 l)
 ·cases hr
theorem qc1 {l:List Tk}{s:Stg}{r:List Tk}(hr:stgR l= .good s r):r<:+l:=by
 unfold stgR at hr
 cases hq:hwOf (wdL l)with
 |none=>rw[hq]at hr;cases hr
 |some h=>
  rw[hq]at hr
  dsimp only at hr
  unfold nmR at hr
  split at hr
  ·unfold mnR at hr
   split at hr
   ·exact ((q7w hr).trans (List.drop_suffix 1 _)).trans ((List.drop_suffix 1 _).trans (List.drop_suffix 1 l))
   ·exact (q7w hr).trans ((List.drop_suffix 1 _).trans (List.drop_suffix 1 l))
  ·cases hr
theorem qbI (f:Nat): ∀(acc:List Stg) (l:List Tk) (p:Ptn),(∀s∈acc,s.ok)->(∀t∈l,t.ok)->ptR f acc l= .good p->(∀s∈p.ss,s.ok)/\ -9223372036854775808<=p.wi/\p.wi<=257/\p.ss.length<=acc.length+f:=by
 induction f with
 |zero=>intro acc l p _ _ h;rw[ptR]at h;cases h
 |succ f ih=>
  intro acc l p ha hl h
  rw[ptR]at h
  split at h
  ·unfold nbR at h
   cases hd:l.drop 1 with
   |nil=>rw[hd]at h;cases h
   |cons t r=>
    rw[hd]at h
    dsimp only at h
    split at h
    ·split at h
     ·cases h
      have ht:=q1h hl 1 t (by rw[hd];simp)
      refine ⟨ha,?_,?_,by dsimp only;omega⟩
      ·dsimp only;have:=ht.2.2.1.1;split <;> omega
      ·dsimp only;split <;> omega
     ·cases h
    ·cases h
  ·split at h
   ·cases h
   ·cases hs:stgR l with
    |bad a c=>rw[hs]at h;cases h
    |good s r=>
     rw[hs]at h
     dsimp only at h
     have h1:=qam l hl
     rw[hs]at h1
     have h2:=ih (acc++[s]) r p (fun x hx=>by rcases zG.1 hx with hx|hx;exact ha x hx;simp only[zD]at hx;subst hx;exact h1) (q88 (qc1 hs) hl) h
     rw[zF,List.length_singleton]at h2
     exact ⟨h2.1,h2.2.1,h2.2.2.1,by omega⟩
theorem q6x {B B':Nat}{w:World}{e:TypeId}{sz:Nat}{v:Value}{n:Nat}{xs:List Value}(h:w.ownsRow B e sz v n xs)(hB:B'<=B):w.ownsRow B' e sz v n xs:=by
 obtain ⟨h1,h2|⟨g,cp,cur,h2,h3,h4⟩⟩:=h
 ·exact ⟨h1,Or.inl h2⟩
 ·exact ⟨h1,Or.inr ⟨g,cp,cur,h2,by omega,h4⟩⟩
theorem OwnsG.mono {B B':Nat}{w:World}{v:Value}{l:List SR}(h:OwnsG B w v l)(hB:B'<=B):OwnsG B' w v l:=⟨q6x h.row hB,fun r hr=>q6x (h.cds r hr) hB⟩
theorem qdA (p:Ptn):(pcR p).2=0\/(pcR p).2=120:=by
 unfold pcR
 split
 ·exact Or.inr rfl
 ·split
  ·exact Or.inr rfl
  ·split
   ·exact Or.inl rfl
   ·exact Or.inr rfl
def poR:PRd->PO
 | .bad a c=>⟨noP,a,c⟩
 | .good p=>if (pcR p).2=0 then ⟨p,0,0⟩ else ⟨noP,0,120⟩
theorem qdF (n:Nat)(ts:List Tk):rdPG n ts=poR (ptR 9 [] (ts++[endZ n])):=by
 unfold rdPG poR
 cases ptR 9 [] (ts++[endZ n]) <;> rfl
def RdPT (B:Nat)(o:PO)(e:Ending)(w':World):Prop:= ∃ad cp rs,e= .returned (.tuple #[.agg #[.slice ad (rs:List SR).length cp, .int .i64 o.p.wi], .agg #[.int .i64 o.at_, .int .i64 o.c]])/\OwnsG B w' (.slice ad rs.length cp) rs/\stgs rs=o.p.ss
theorem RdPT.none {B:Nat}{o:PO}{a c:Int}{w':World}(h:o=⟨noP,a,c⟩):RdPT B o (.returned (.tuple #[.agg #[.slice Option.none 0 0, .int .i64 0], .agg #[.int .i64 a, .int .i64 c]])) w':=by
 subst h
 exact ⟨Option.none,0,[],rfl,OwnsG.nil _ _,rfl⟩
theorem q4f (w:World)(cs:Array Value)(t:TypeId)(B:Obj):CBox w.heap.size cs t ((w.alloc (.cells cs t)).alloc B):=CBox.kp (CBox.new w _ _) (Kp.alloc _ _) (by simp)
theorem q4g (w:World)(cs:Array Value)(t:TypeId)(A:Obj):CBox (w.heap.size+1) cs t ((w.alloc A).alloc (.cells cs t)):=by
 have:=CBox.new (w.alloc A) cs t
 rwa [show (w.alloc A).heap.size=w.heap.size+1 by simp]at this
theorem q0j {g:Nat}{a b:Value}{t:TypeId}{w:World}(h:CBox g #[a,b] t w):w.cell? ⟨g,0,none⟩=some a/\w.cell? ⟨g,1,none⟩=some b/\w.frozen? ⟨g,0,none⟩=false/\w.frozen? ⟨g,1,none⟩=false:=⟨h.cell rfl,h.cell rfl,h.froz 0,h.froz 1⟩
theorem q4h {w V:World}{a b c d:Value}(hP:CBox w.heap.size #[a,b] 24 V)(hF:CBox (w.heap.size+1) #[c,d] 47 V)(x y u v:Value):
  CBox w.heap.size #[x,y] 24 ((((V.setCell ⟨w.heap.size,0,none⟩ x).setCell ⟨w.heap.size,1,none⟩ y).setCell ⟨w.heap.size+1,0,none⟩ u).setCell ⟨w.heap.size+1,1,none⟩ v)/\CBox (w.heap.size+1) #[u,v] 47 ((((V.setCell ⟨w.heap.size,0,none⟩ x).setCell ⟨w.heap.size,1,none⟩ y).setCell ⟨w.heap.size+1,0,none⟩ u).setCell ⟨w.heap.size+1,1,none⟩ v)/\Kp [w.heap.size,w.heap.size+1] V ((((V.setCell ⟨w.heap.size,0,none⟩ x).setCell ⟨w.heap.size,1,none⟩ y).setCell ⟨w.heap.size+1,0,none⟩ u).setCell ⟨w.heap.size+1,1,none⟩ v):=by
 have k1:Kp [w.heap.size] V ((V.setCell ⟨w.heap.size,0,none⟩ x).setCell ⟨w.heap.size,1,none⟩ y):=(Kp.set _ _ _ _).trans (Kp.set _ _ _ _) (by simp)
 have k2:Kp [w.heap.size+1] ((V.setCell ⟨w.heap.size,0,none⟩ x).setCell ⟨w.heap.size,1,none⟩ y) ((((V.setCell ⟨w.heap.size,0,none⟩ x).setCell ⟨w.heap.size,1,none⟩ y).setCell ⟨w.heap.size+1,0,none⟩ u).setCell ⟨w.heap.size+1,1,none⟩ v):=(Kp.set _ _ _ _).trans (Kp.set _ _ _ _) (by simp)
 have p1:CBox w.heap.size #[x,y] 24 ((V.setCell ⟨w.heap.size,0,none⟩ x).setCell ⟨w.heap.size,1,none⟩ y):=(hP.set 0 x).set 1 y
 have f1:CBox (w.heap.size+1) #[u,v] 47 ((((V.setCell ⟨w.heap.size,0,none⟩ x).setCell ⟨w.heap.size,1,none⟩ y).setCell ⟨w.heap.size+1,0,none⟩ u).setCell ⟨w.heap.size+1,1,none⟩ v):=CBox.set (CBox.set (hF.kp k1 (by simp)) 0 u) 1 v
 exact ⟨p1.kp k2 (by simp),f1,(k1.mono (by simp)).trans k2 (by simp)⟩
theorem qa4 (s:ByteArray)(w:World)(hT:TbE w)(hs:s.size<=9223372036854775807):
  Calls Tryz.prog 10 #[.string s] w fun e w'=>RdPT w.heap.size (rdP s) e w'/\Below w.heap.size w w':=by
 have k0:Kp [] w ((w.alloc (.cells #[.slice none 0 0, .int .i64 0] 24)).alloc (.cells #[.int .i64 0, .int .i64 0] 47)):=(Kp.alloc _ _).trans (Kp.alloc _ _) (by simp)
 have hp0:CBox w.heap.size #[.slice none 0 0, .int .i64 0] 24 ((w.alloc (.cells #[.slice none 0 0, .int .i64 0] 24)).alloc (.cells #[.int .i64 0, .int .i64 0] 47)):=q4f w _ _ _
 have hf0:CBox (w.heap.size+1) #[.int .i64 0, .int .i64 0] 47 ((w.alloc (.cells #[.slice none 0 0, .int .i64 0] 24)).alloc (.cells #[.int .i64 0, .int .i64 0] 47)):=q4g w _ _ _
 have TK:=hZq (q4o s _ (hT.kp k0 (by simp)).tok hs)
 have HK0:=hZq k0
 have HP0:=hZq hp0
 have HF0:=hZq hf0
 have HTB:=hZq hT
 have HRD:Hid (∃o,rdP s=o):=hZq ⟨_,rfl⟩
 clear hT k0 hp0 hf0
 rcases qcc s with ⟨ts,h1,h2,h3⟩|⟨h1,h2⟩
 ·have hL:Tail (ts++[endZ s.size]) s.size:=⟨⟨s.data.toList,[],ts,rfl,by simpa using h2,rfl⟩,h3⟩
  have hrd:rdP s=rdPG s.size ts:=by unfold rdP;rw[h1]
  rw[hrd]
  rw[h1]at TK
  have e1:tsL s.size (.good ts)=ts++[endZ s.size]:=rfl
  rw[e1]at TK
  have e2:tsA (.good ts)=0:=rfl
  have e3:tsC (.good ts)=0:=rfl
  rw[e2,e3]at TK
  rw[qdF]
  generalize ts++[endZ s.size]=l at *
  generalize s.size=n at *
  clear e1 e2 e3 hrd h1 h2
  obtain ⟨P,hP⟩: ∃P,ptR 9 [] l=P:=⟨_,rfl⟩
  rw[hP]
  obtain ⟨O,hO⟩: ∃O:PO,poR P=O:=⟨_,rfl⟩
  rw[hO]
  have HO:=hZq hO
  have HP:=hZq hP
  have hlen:=hL.len
  have HL:=hZq hL
  clear hO hP hL HRD
  go_enter Tryz.func10,Tryz.ntmps10
  go_wp2_with fail
  refine (uQ TK).mono ?_
  rintro e w1 ⟨v,rfl,ho,hb1⟩
  obtain ⟨av,cv,rfl,hav,hcv⟩:=ho.at
  have k1:Kp [] ((w.alloc (.cells #[.slice none 0 0, .int .i64 0] 24)).alloc (.cells #[.int .i64 0, .int .i64 0] 47)) w1:=Kp.ofBelow hb1
  have hlow:=ho.low (uQ HL).endd.ne
  obtain ⟨tb,tf,tc,etk,htb,htc⟩:=id hlow
  have hcv2:cv<=9223372036854775807:=by
   obtain ⟨_,⟨e,_⟩|⟨g,cp,cur,e,_,_,_,hm,_⟩⟩:=(id ho:w1.ownsRow _ _ _ _ _ _)
   ·injection e with _ _ e3;omega
   ·injection e with _ _ e3;unfold maxLen at hm;omega
  injection etk with ea eb ec
  subst ea ec
  have hsz:w.heap.size+1<w1.heap.size:=by have:=k1.size;simp at this;omega
  have kf:Kp [] w1 ((w1.alloc (.cells #[.int .i64 0, .int .i64 0] 47)).alloc (.cells (prC (.slice (some ⟨tb,tf,none⟩) l.length cv) 0 (.slice none 0 0) 0 0 0) 74)):=(Kp.alloc _ _).trans (Kp.alloc _ _) (by simp)
  have hb:CBox (w1.heap.size+1) (prC (.slice (some ⟨tb,tf,none⟩) l.length cv) 0 (.slice none 0 0) 0 0 0) 74 ((w1.alloc (.cells #[.int .i64 0, .int .i64 0] 47)).alloc (.cells (prC (.slice (some ⟨tb,tf,none⟩) l.length cv) 0 (.slice none 0 0) 0 0 0) 74)):=q4g w1 _ _ _
  have hTw:=((uQ HTB).kp (uQ HK0) (by simp)).kp k1 (by simp)
  have hPB:PB (w1.heap.size+1) (.slice (some ⟨tb,tf,none⟩) l.length cv) l 0 (.slice none 0 0) 0 0 0 ((w1.alloc (.cells #[.int .i64 0, .int .i64 0] 47)).alloc (.cells (prC (.slice (some ⟨tb,tf,none⟩) l.length cv) 0 (.slice none 0 0) 0 0 0) 74)):=
   ⟨(hlow.below (kf.below (zM _) (by simp))).mono (by omega),hTw.kp kf (by simp),by have:=hTw.low;omega,hb,by omega,(uQ HL).ok,⟨tb,tf,cv,rfl,hcv,hcv2⟩⟩
  have PT:=q6n hPB (uQ HL)
  rw[uQ HP]at PT
  have hW1:=(uQ HK0).trans k1 (by simp)
  have HB1:=hZq ((hW1.trans kf (by simp)).below (zM _) (by simp))
  have HPB1:=hZq ((uQ HP0).kp (k1.trans kf (by simp)) (by simp))
  have HFB1:=hZq ((uQ HF0).kp (k1.trans kf (by simp)) (by simp))
  obtain ⟨x0,x1,_,_⟩:=q0j (CBox.new w1 #[.int .i64 0, .int .i64 0] 47)
  have HPT:=hZq PT
  unfold prC at HPT HB1 HPB1 HFB1
  obtain ⟨LN,hLN⟩: ∃q,l.length=q:=⟨_,rfl⟩
  have HLN:=hZq hLN
  rw[hLN]at HPT HB1 HPB1 HFB1 hlen ⊢
  clear TK ho hb1 hav hlow htb htc kf hb hTw hPB PT hW1 k1 eb HK0 HP0 HF0 HTB hcv hcv2 hLN
  go_wp2_with fail
  refine (uQ HPT).mono ?_
  rintro e w3 ⟨hB3,hm⟩
  have hP3:CBox w.heap.size #[.slice none 0 0, .int .i64 0] 24 w3:=(hB3.block w.heap.size (by omega)).trans (uQ HPB1)
  have hF3:CBox (w.heap.size+1) #[.int .i64 0, .int .i64 0] 47 w3:=(hB3.block (w.heap.size+1) (by omega)).trans (uQ HFB1)
  have HB3:=hZq ((uQ HB1).trans (hB3.mono (by omega)))
  clear HPT HPB1 HFB1 HB1 hB3 x0 x1
  cases P with
  |bad a c=>
   obtain ⟨rfl,k',sv,wi,A,C,hp3,hk3,hf3⟩:=hm
   have FA:=hZq (q8L hp3 hk3 hf3)
   have HO2:Hid (O=⟨noP,a,c⟩):=hZq (uQ HO).symm
   have HP3:=hZq hP3
   have HF3:=hZq hF3
   clear hp3 hk3 hf3 HO hP3 hF3
   go_wp2_with fail
   refine (uQ FA).mono ?_
   rintro e w4 ⟨rfl,hb4⟩
   have hP4:=(uQ HP3).kp (Kp.ofBelow hb4) (by simp)
   have hF4:=(uQ HF3).kp (Kp.ofBelow hb4) (by simp)
   obtain ⟨p0,p1,pz0,pz1⟩:=q0j hP4
   obtain ⟨f0,f1,fz0,fz1⟩:=q0j hF4
   have HB4:=hZq ((uQ HB3).trans (hb4.mono (uQ HB3).size))
   have HPW:=hZq (q4h hP4 hF4 (.slice none 0 0) (.int .i64 0) (.int .i64 a) (.int .i64 c))
   clear FA hb4 hP4 hF4 HP3 HF3 HB3
   dsimp only
   go_wp2
   obtain ⟨q1,q2,q3⟩:=uQ HPW
   obtain ⟨y0,y1,_,_⟩:=q0j q1
   obtain ⟨z0,z1,_,_⟩:=q0j q2
   exact bodyPost_ret (v:= .tuple #[.agg #[.slice none 0 0, .int .i64 0], .agg #[.int .i64 a, .int .i64 c]]) (by simp[results,Tryz.results10,go_sem,y0,y1,z0,z1]) rfl ⟨RdPT.none (uQ HO2),(uQ HB4).trans (q3.below (uQ HB4).size (by simp))⟩
  |good p=>
   obtain ⟨rfl,k',sv,rs,hp3,hG3,hst3⟩:=hm
   obtain ⟨ra,rc,rfl,hsts,hrc⟩:=hG3.at
   obtain ⟨g1,g2,g3,g4⟩:=qbI 9 [] l p (by simp) (uQ HL).ok (uQ HP)
   have hrl:rs.length<=9:=by rw[<-q02,hst3];simpa using g4
   have CK:=q1O ra rc rs p.wi w3 hsts hp3.tab (fun r hr=>g1 r.s (by rw[<-hst3];unfold stgs;exact List.mem_map_of_mem hr)) (by omega)
   have hpe:(⟨stgs rs,p.wi⟩:Ptn)=p:=by rw[hst3]
   rw[hpe]at CK
   obtain ⟨_,_,c2,c3,_⟩:=hp3.cells
   have HCK:=hZq CK
   have HP3:=hZq hP3
   have HF3:=hZq hF3
   have HPB3:=hZq hp3
   have HG3:=hZq hG3
   have HST:=hZq hst3
   have HO2:Hid (O=if (pcR p).2=0 then ⟨p,0,0⟩ else ⟨noP,0,120⟩):=hZq (uQ HO).symm
   have hgr:=hp3.lt
   clear CK hp3 hG3 hsts hpe hst3 g1 g4 hP3 hF3 HO HL HP
   have hcd:=qdA p
   generalize (pcR p).1=PA at *
   generalize (pcR p).2=PC at *
   obtain ⟨NR,hNR⟩: ∃q,rs.length=q:=⟨_,rfl⟩
   have HNR:=hZq hNR
   rw[hNR]at HCK HPB3 HG3 c2 hrl
   clear hNR
   have HW:=hZq (fun w4 (hb4:Below w3.heap.size w3 w4)=>And.intro ((uQ HP3).kp (Kp.ofBelow hb4) (by simp)) (And.intro ((uQ HF3).kp (Kp.ofBelow hb4) (by simp)) (And.intro ((uQ HPB3).kp (Kp.ofBelow hb4) (by simp)) ((uQ HG3).kp (Kp.ofBelow hb4) (by simp)))))
   rcases hcd with rfl|rfl
   ·have HO3:Hid (O=⟨p,0,0⟩):=hZq (by rw[uQ HO2];exact if_pos rfl)
    clear HO2
    go_wp2_with fail
    refine (uQ HCK).mono ?_
    rintro e w4 ⟨rfl,hb4⟩
    obtain ⟨hP4,hF4,hpb4,hG4⟩:=uQ HW w4 hb4
    obtain ⟨_,_,d2,d3,_⟩:=hpb4.cells
    obtain ⟨p0,p1,pz0,pz1⟩:=q0j hP4
    obtain ⟨f0,f1,fz0,fz1⟩:=q0j hF4
    have HB4:=hZq ((uQ HB3).trans (hb4.mono (uQ HB3).size))
    have HPW:=hZq (q4h hP4 hF4 (.slice ra NR rc) (.int .i64 p.wi) (.int .i64 0) (.int .i64 0))
    have HG4:=hZq hG4
    clear HCK hb4 hP4 hF4 HP3 HF3 HB3 HW hpb4 hG4 HPB3 HG3 c2 c3
    dsimp only
    go_wp2
    obtain ⟨q1,q2,q3⟩:=uQ HPW
    obtain ⟨y0,y1,_,_⟩:=q0j q1
    obtain ⟨z0,z1,_,_⟩:=q0j q2
    refine bodyPost_ret (v:= .tuple #[.agg #[.slice ra NR rc, .int .i64 p.wi], .agg #[.int .i64 0, .int .i64 0]]) (by simp[results,Tryz.results10,go_sem,y0,y1,z0,z1]) rfl ⟨?_,(uQ HB4).trans (q3.below (uQ HB4).size (by simp))⟩
    rw[uQ HO3]
    refine ⟨ra,rc,rs,by rw[uQ HNR],?_,uQ HST⟩
    rw[uQ HNR]
    exact ((uQ HG4).kp q3 (by simp;omega)).mono (by omega)
   ·have HO3:Hid (O=⟨noP,0,120⟩):=hZq (by rw[uQ HO2];exact if_neg (by decide))
    clear HO2
    go_wp2_with fail
    refine (uQ HCK).mono ?_
    rintro e w4 ⟨rfl,hb4⟩
    obtain ⟨hP4,hF4,hpb4,hG4⟩:=uQ HW w4 hb4
    obtain ⟨p0,p1,pz0,pz1⟩:=q0j hP4
    obtain ⟨f0,f1,fz0,fz1⟩:=q0j hF4
    have HB4:=hZq ((uQ HB3).trans (hb4.mono (uQ HB3).size))
    have HPW:=hZq (q4h hP4 hF4 (.slice none 0 0) (.int .i64 0) (.int .i64 0) (.int .i64 120))
    clear HCK hb4 hP4 hF4 HP3 HF3 HB3 HW hpb4 hG4 HPB3 HG3 c2 c3
    dsimp only
    go_wp2
    obtain ⟨q1,q2,q3⟩:=uQ HPW
    obtain ⟨y0,y1,_,_⟩:=q0j q1
    obtain ⟨z0,z1,_,_⟩:=q0j q2
    exact bodyPost_ret (v:= .tuple #[.agg #[.slice none 0 0, .int .i64 0], .agg #[.int .i64 0, .int .i64 120]]) (by simp[results,Tryz.results10,go_sem,y0,y1,z0,z1]) rfl ⟨RdPT.none (uQ HO3),(uQ HB4).trans (q3.below (uQ HB4).size (by simp))⟩
 ·have hrd:rdP s=⟨noP,tsA (tsR s),tsC (tsR s)⟩:=by
   unfold rdP
   cases hr:tsR s with
   |bad p q=>rfl
   |good ts=>rw[hr]at h2;exact absurd rfl h2
  rw[h1]at TK
  rw[hrd]
  generalize tsA (tsR s)=A at *
  generalize tsC (tsR s)=C at *
  have gC:(C==0)=false:=beq_eq_false_iff_ne.2 h2
  clear h1 hrd h2
  go_enter Tryz.func10,Tryz.ntmps10
  go_wp2_with fail
  refine (uQ TK).mono ?_
  rintro e w1 ⟨v,rfl,ho,hb1⟩
  obtain ⟨av,cv,rfl,_,_⟩:=ho.at
  have k1:Kp [] _ w1:=Kp.ofBelow hb1
  have kf:=Kp.alloc w1 (.cells #[.int .i64 A, .int .i64 C] 47)
  have k2:=k1.trans kf (by simp)
  have hp1:=(uQ HP0).kp k2 (by simp)
  have hf1:=(uQ HF0).kp k2 (by simp)
  obtain ⟨p0,p1,pz0,pz1⟩:=q0j hp1
  obtain ⟨f0,f1,fz0,fz1⟩:=q0j hf1
  obtain ⟨x0,x1,_,_⟩:=q0j (CBox.new w1 #[.int .i64 A, .int .i64 C] 47)
  have hsz:w.heap.size+1<w1.heap.size:=by have:=k1.size;simp at this;omega
  have HBW:=hZq (((uQ HK0).trans k2 (by simp)).below (zM _) (by simp))
  have HPW:=hZq (q4h hp1 hf1 (.slice none 0 0) (.int .i64 0) (.int .i64 A) (.int .i64 C))
  clear TK ho hb1 hp1 hf1 k1 k2 kf HK0 HP0 HF0 HTB HRD
  go_wp2_with fail
  generalize w1.alloc (.cells #[.int .i64 A, .int .i64 C] 47)=V at *
  generalize w1.heap.size=GF at *
  go_region
  go_wp2_with fail
  obtain ⟨q1,q2,q3⟩:=uQ HPW
  have q1d:CBox w.heap.size #[.slice none 0 0, .int .i64 0] 24 ((((V.setCell ⟨w.heap.size,0,none⟩ (.slice none 0 0)).setCell ⟨w.heap.size,1,none⟩ (.int .i64 0)).setCell ⟨w.heap.size+1,0,none⟩ (.int .i64 A)).setCell ⟨w.heap.size+1,1,none⟩ (.int .i64 C)).drew:=q1
  have q2d:CBox (w.heap.size+1) #[.int .i64 A, .int .i64 C] 47 ((((V.setCell ⟨w.heap.size,0,none⟩ (.slice none 0 0)).setCell ⟨w.heap.size,1,none⟩ (.int .i64 0)).setCell ⟨w.heap.size+1,0,none⟩ (.int .i64 A)).setCell ⟨w.heap.size+1,1,none⟩ (.int .i64 C)).drew:=q2
  obtain ⟨y0,y1,_,_⟩:=q0j q1d
  obtain ⟨z0,z1,_,_⟩:=q0j q2d
  exact bodyPost_ret (v:= .tuple #[.agg #[.slice none 0 0, .int .i64 0], .agg #[.int .i64 A, .int .i64 C]]) (by simp[results,Tryz.results10,go_sem,y0,y1,z0,z1]) rfl ⟨RdPT.none rfl,((uQ HBW).trans (q3.below (uQ HBW).size (by simp))).drew⟩
theorem q3g (sa:Option Addr)(sc n:Nat)(wi:Int)(l:List Stg)(hn:l.length=n)(s:Int)(w:World):
  Calls Tryz.prog 108 #[.agg #[.slice sa n sc, .int .i64 wi], .int .i64 s] w fun e w'=>e= .returned (.bool (isS l s))/\Kp [] w w':=by
 have hb:=CBox.new w #[.slice sa n sc, .int .i64 wi] 24
 have p0:=hb.cell (i:=0) (v:= .slice sa n sc) rfl
 have hk:=hZq (Kp.alloc w (.cells #[.slice sa n sc, .int .i64 wi] 24))
 have hR:isS l s=(decide (1<=s) && decide (s<=(n:Int))):=by unfold isS;rw[hn]
 rw[hR]
 clear hb hn hR
 by_cases h1:1<=s
 ·have g1:(1<=s)=True:=by simp[h1]
  have e:(decide (1<=s) && decide (s<=(n:Int)))=decide (s<=(n:Int)):=by simp[h1]
  rw[e]
  clear h1 e
  go_enter Tryz.func108,Tryz.ntmps108
  go_wp2
  go_ret
  exact ⟨rfl,uQ hk⟩
 ·have g1:(1<=s)=False:=by simp[h1]
  have e:(decide (1<=s) && decide (s<=(n:Int)))=false:=by simp[h1]
  rw[e]
  clear h1 e
  go_enter Tryz.func108,Tryz.ntmps108
  go_wp2
  go_ret
  exact ⟨rfl,uQ hk⟩
theorem q5o (h:Int)(b:Bool)(w:World):Calls Tryz.prog 180 #[.int .i64 h, .bool b] w fun e w'=>e= .returned (.bool (stay h b))/\Kp [] w w':=by
 by_cases h3:h=3
 ·subst h3
  have e:stay 3 b=true:=rfl
  rw[e]
  go_enter Tryz.func180,Tryz.ntmps180
  go_wp2
  go_ret
  exact ⟨rfl,Kp.refl _ _⟩
 ·by_cases h2:h=2
  ·subst h2
   have e:stay 2 b= !b:=rfl
   rw[e]
   clear h3
   go_enter Tryz.func180,Tryz.ntmps180
   go_wp2
   go_ret
   exact ⟨rfl,Kp.refl _ _⟩
  ·have e:stay h b=false:=by unfold stay;simp[h2,h3]
   rw[e]
   have g3:(h==3)=false:=by simp[h3]
   have g2:(h==2)=false:=by simp[h2]
   clear h2 h3 e
   go_enter Tryz.func180,Tryz.ntmps180
   go_wp2
   go_ret
   exact ⟨rfl,Kp.refl _ _⟩
theorem qcE (n:Nd):ndE n ⟨n.st,false,false⟩= !n.live:=by
 obtain ⟨s,a,b⟩:=n
 unfold ndE Nd.live
 cases a <;> cases b <;> simp
theorem q8A (n:Nd)(w:World):Calls Tryz.prog 160 #[.agg n.c] w fun e w'=>e= .returned (.bool (!n.live))/\Kp [] w w':=by
 have q:=fun W=>eqN 9998 n ⟨n.st,false,false⟩ W
 rw[qcE]at q
 have hb:=CBox.new w n.c 143
 have hk:=hZq (Kp.alloc w (.cells n.c 143))
 generalize (!n.live)=L at *
 obtain ⟨s,a,b⟩:=n
 unfold Nd.c at *
 dsimp only at *
 have c0:=hb.cell (i:=0) (v:= .int .i64 s) rfl
 have c1:=hb.cell (i:=1) (v:= .bool a) rfl
 have c2:=hb.cell (i:=2) (v:= .bool b) rfl
 clear hb
 go_enter Tryz.func160,Tryz.ntmps160
 go_wp2
 go_ret
 exact ⟨rfl,uQ hk⟩
theorem q9P (sa:Option Addr)(sc:Nat)(l:List SR)(wi:Int)(n:Nd)(w:World)(h:StsAt w sa l)(hl:l.length<=9223372036854775807):
  Calls Tryz.prog 158 #[.agg #[.slice sa l.length sc, .int .i64 wi], .agg n.c] w fun e w'=>e= .returned (.bool (mayN (stgs l) n))/\Kp [] w w':=by
 have k0:Kp [] w ((w.alloc (.cells #[.slice sa l.length sc, .int .i64 wi] 24)).alloc (.cells n.c 143)):=(Kp.alloc _ _).trans (Kp.alloc _ _) (by simp)
 have hP:=q4f w #[.slice sa l.length sc, .int .i64 wi] 24 (.cells n.c 143)
 have hN:=q4g w n.c 143 (.cells #[.slice sa l.length sc, .int .i64 wi] 24)
 have hsz:((w.alloc (.cells #[.slice sa l.length sc, .int .i64 wi] 24)).alloc (.cells n.c 143)).heap.size=w.heap.size+2:=by simp
 have IS:=hZq (fun W=>q3g sa sc l.length wi (stgs l) (q02 l) n.st W)
 have TK:Hid (isS (stgs l) n.st=true-> ∀W,Kp [] w W->Calls Tryz.prog 109 #[.agg #[.slice sa l.length sc, .int .i64 wi], .int .i64 n.st] W fun e w'=>e= .returned (.agg (bgN (stgs l) n.st.toNat).c)/\Kp [] W w'):=hZq (fun hs W hk=>by
  obtain ⟨g1,g2⟩:=isS_iff.1 hs
  rw[q02]at g2
  have:=q2i sa sc l wi n.st.toNat W (h.kp hk) hl (by omega) (by omega)
  rwa [show ((n.st.toNat:Nat):Int)=n.st by omega]at this)
 have HM:Hid (mayN (stgs l) n=(isS (stgs l) n.st && (((bgN (stgs l) n.st.toNat).lp|| !n.lp) && ((bgN (stgs l) n.st.toNat).tk|| !n.tk)))):=hZq rfl
 have HV:Hid (∀W,Kp [] ((w.alloc (.cells #[.slice sa l.length sc, .int .i64 wi] 24)).alloc (.cells n.c 143)) W->(W.cell? ⟨w.heap.size,0,none⟩=some (.slice sa l.length sc)/\W.cell? ⟨w.heap.size,1,none⟩=some (.int .i64 wi)/\W.cell? ⟨w.heap.size+1,0,none⟩=some (.int .i64 n.st)/\W.cell? ⟨w.heap.size+1,1,none⟩=some (.bool n.lp)/\W.cell? ⟨w.heap.size+1,2,none⟩=some (.bool n.tk))/\Hid (Kp [] w W)/\w.heap.size+1<W.heap.size):=hZq (fun W hk=>⟨⟨(hP.kp hk (by simp)).cell rfl,(hP.kp hk (by simp)).cell rfl,(hN.kp hk (by simp)).cell rfl,(hN.kp hk (by simp)).cell rfl,(hN.kp hk (by simp)).cell rfl⟩,hZq (k0.trans hk (by simp)),by have:=hk.size;omega⟩)
 clear k0 hP hN hsz h hl
 generalize bgN (stgs l) n.st.toNat=M at *
 generalize mayN (stgs l) n=R at *
 generalize isS (stgs l) n.st=I at *
 generalize l.length=nn at *
 obtain ⟨s,a,b⟩:=n
 obtain ⟨ms,ma,mb⟩:=M
 unfold Nd.c at *
 dsimp only at *
 obtain ⟨⟨c0,c1,c2,c3,c4⟩,_,hlt⟩:=uQ HV _ (Kp.refl _ _)
 go_enter Tryz.func158,Tryz.ntmps158
 go_wp2_with fail
 refine (uQ IS _).mono ?_
 rintro e w1 ⟨rfl,hk1⟩
 have HK1:=hZq hk1
 obtain ⟨⟨d0,d1,d2,d3,d4⟩,HW1,hlt1⟩:=uQ HV _ hk1
 clear c0 c1 c2 c3 c4 hlt hk1 IS
 cases I with
 |false=>
  have hR:=uQ HM
  rw[Bool.false_and]at hR
  subst hR
  clear TK HM
  go_wp2
  go_ret
  exact ⟨rfl,uQ HW1⟩
 |true=>
  have T1:=hZq (uQ TK rfl w1 (uQ HW1))
  clear TK
  go_wp2_with fail
  refine (uQ T1).mono ?_
  rintro e w2 ⟨rfl,hk2⟩
  have HR:=uQ HM
  rw[Bool.true_and]at HR
  obtain ⟨⟨e0,e1,e2,e3,e4⟩,HW2,hlt2⟩:=uQ HV _ ((uQ HK1).trans hk2 (by simp))
  have hbx:=CBox.new w2 #[.int .i64 ms, .bool ma, .bool mb] 143
  have q1:=hbx.cell (i:=1) (v:= .bool ma) rfl
  have q2:=hbx.cell (i:=2) (v:= .bool mb) rfl
  have HF:=hZq ((uQ HW2).trans (Kp.alloc w2 (.cells #[.int .i64 ms, .bool ma, .bool mb] 143)) (by simp))
  subst HR
  clear T1 hk2 HM d0 d1 d2 d3 d4 hbx HV HK1 HW1 HW2
  cases ma <;> cases a <;> cases mb <;> cases b <;> (go_wp2;go_ret;exact ⟨rfl,uQ HF⟩)
structure PsB (w W:World)(pc:Array Value)(n r:Nd):Prop where
 p:CBox w.heap.size pc 24 W
 n:CBox (w.heap.size+1) n.c 143 W
 r:CBox (w.heap.size+1+1) r.c 143 W
 k:Kp [] w W
theorem PsB.new (w:World)(pc:Array Value)(n:Nd):PsB w (((w.alloc (.cells pc 24)).alloc (.cells n.c 143)).alloc (.cells zN.c 143)) pc n zN:=by
 refine ⟨?_,?_,?_,((Kp.alloc _ _).trans (Kp.alloc _ _) (by simp)).trans (Kp.alloc _ _) (by simp)⟩
 ·exact ((CBox.new w _ _).kp (Kp.alloc _ _) (by simp)).kp (Kp.alloc _ _) (by simp)
 ·have:=(CBox.new (w.alloc (.cells pc 24)) n.c 143).kp (Kp.alloc _ (.cells zN.c 143)) (by simp)
  rwa [show (w.alloc (.cells pc 24)).heap.size=w.heap.size+1 by simp]at this
 ·have:=CBox.new ((w.alloc (.cells pc 24)).alloc (.cells n.c 143)) zN.c 143
  rwa [show ((w.alloc (.cells pc 24)).alloc (.cells n.c 143)).heap.size=w.heap.size+1+1 by simp]at this
theorem PsB.kp {w W W':World}{pc:Array Value}{n r:Nd}(h:PsB w W pc n r)(hk:Kp [] W W'):PsB w W' pc n r:=
 ⟨h.p.kp hk (by simp),h.n.kp hk (by simp),h.r.kp hk (by simp),h.k.trans hk (by simp)⟩
theorem PsB.cells {w W:World}{pc:Array Value}{n r:Nd}(h:PsB w W pc n r):W.cell? ⟨w.heap.size+1,0,none⟩=some (.int .i64 n.st)/\W.cell? ⟨w.heap.size+1,1,none⟩=some (.bool n.lp)/\W.cell? ⟨w.heap.size+1,2,none⟩=some (.bool n.tk)/\W.cell? ⟨w.heap.size+1+1,0,none⟩=some (.int .i64 r.st)/\W.cell? ⟨w.heap.size+1+1,1,none⟩=some (.bool r.lp)/\W.cell? ⟨w.heap.size+1+1,2,none⟩=some (.bool r.tk):=
 ⟨h.n.cell rfl,h.n.cell rfl,h.n.cell rfl,h.r.cell rfl,h.r.cell rfl,h.r.cell rfl⟩
theorem PsB.froz {w W:World}{pc:Array Value}{n r:Nd}(h:PsB w W pc n r):W.frozen? ⟨w.heap.size+1,1,none⟩=false/\W.frozen? ⟨w.heap.size+1,2,none⟩=false/\W.frozen? ⟨w.heap.size+1+1,0,none⟩=false/\W.frozen? ⟨w.heap.size+1+1,1,none⟩=false/\W.frozen? ⟨w.heap.size+1+1,2,none⟩=false:=
 ⟨h.n.froz _,h.n.froz _,h.r.froz _,h.r.froz _,h.r.froz _⟩
theorem PsB.loop {w W:World}{pc:Array Value}{n r:Nd}(h:PsB w W pc n r)(x:Bool):PsB w (W.setCell ⟨w.heap.size+1,1,none⟩ (.bool x)) pc ⟨n.st,x,n.tk⟩ r:=
 ⟨h.p.kp (Kp.set _ _ _ _) (by simp),h.n.set 1 (.bool x),h.r.kp (Kp.set _ _ _ _) (by simp),h.k.trans (Kp.set _ _ _ _) (by simp)⟩
theorem PsB.take {w W:World}{pc:Array Value}{n r:Nd}(h:PsB w W pc n r)(x:Bool):PsB w (W.setCell ⟨w.heap.size+1,2,none⟩ (.bool x)) pc ⟨n.st,n.lp,x⟩ r:=
 ⟨h.p.kp (Kp.set _ _ _ _) (by simp),h.n.set 2 (.bool x),h.r.kp (Kp.set _ _ _ _) (by simp),h.k.trans (Kp.set _ _ _ _) (by simp)⟩
theorem PsB.out {w W:World}{pc:Array Value}{n r:Nd}(h:PsB w W pc n r):CBox (w.heap.size+1+1) n.c 143 (((W.setCell ⟨w.heap.size+1+1,0,none⟩ (.int .i64 n.st)).setCell ⟨w.heap.size+1+1,1,none⟩ (.bool n.lp)).setCell ⟨w.heap.size+1+1,2,none⟩ (.bool n.tk))/\Kp [] w (((W.setCell ⟨w.heap.size+1+1,0,none⟩ (.int .i64 n.st)).setCell ⟨w.heap.size+1+1,1,none⟩ (.bool n.lp)).setCell ⟨w.heap.size+1+1,2,none⟩ (.bool n.tk)):=
 q3e h.k (by omega) h.r _ _ _
theorem q8K (sa:Option Addr)(sc:Nat)(l:List SR)(wi:Int)(n:Nd)(lo ta:Bool)(w:World)(h:StsAt w sa l)(hl:l.length<=9223372036854775807)(hm:mayN (stgs l) n=true):
  Calls Tryz.prog 159 #[.agg #[.slice sa l.length sc, .int .i64 wi], .agg n.c, .bool lo, .bool ta] w fun e w'=>e= .returned (.agg (psN (stgs l) n lo ta).c)/\Kp [] w w':=by
 obtain ⟨m1,m2,m3⟩:=q51 hm
 obtain ⟨g1,g2⟩:=isS_iff.1 m1
 rw[q02]at g2 m3
 obtain ⟨k,hk⟩: ∃k:Nat,n.st=(k:Int)+1:=⟨n.st.toNat-1,by omega⟩
 have hkl:k<l.length:=by omega
 obtain ⟨b,off,rfl,hbl, -,x1, -, -, -⟩:=h.at k hkl
 have hw1:hwAt (stgs l) (n.st.toNat-1)=l[k].s.hw:=by rw[q5S (by rw[q02];omega)];have:=q0L hkl;simp only[show n.st.toNat-1=k by omega,this]
 have X2:Hid (n.tk=true-> ∃hk1:k+1<l.length,(∀W,Kp [] w W->W.cell? ⟨b,off+(k+1) * 4+1,none⟩=some (.int .i64 (l[k+1]'hk1).s.hw))/\hwAt (stgs l) n.st.toNat=(l[k+1]'hk1).s.hw):=hZq (fun e=>by
  have hk1:k+1<l.length:=by have:=m3 e;omega
  obtain ⟨b',off',e', -, -,y1, -, -, -⟩:=h.at (k+1) hk1
  injection e' with e'
  injection e' with e1 e2
  subst e1 e2
  refine ⟨hk1,fun W hW=>hW.cell y1 (by simp),?_⟩
  rw[q5S (by rw[q02];omega)]
  have:=q0L hk1
  simp only[show n.st.toNat=k+1 by omega,this])
 have B0:=PsB.new w #[.slice (some ⟨b,off,none⟩) l.length sc, .int .i64 wi] n
 have HP:Hid (∀W,Kp [] w W->W.cell? ⟨b,off+k * 4+1,none⟩=some (.int .i64 l[k].s.hw)):=hZq (fun W hW=>hW.cell x1 (by simp))
 have SO:=hZq (fun x y W=>q5o x y W)
 have hsub:IntKind.i64.wrap ((k:Int)+1-1)=(k:Int):=by simp only[IntKind.wrap_i64];omega
 have hli:(k:Int)<(l.length:Int):=by omega
 have HTK:Hid (n.tk=true->k+1<l.length):=hZq (fun e=>by have:=m3 e;omega)
 unfold psN
 rw[hw1]
 obtain ⟨st,a,bb⟩:=n
 dsimp only at hk
 subst hk
 dsimp only at X2 HTK hw1 ⊢
 generalize l[k].s.hw=H1 at *
 generalize hwAt (stgs l) ((k:Int)+1).toNat=H2 at *
 clear h hm m1 m2 m3 g1 x1 hw1
 have p0:=B0.p.cell (i:=0) (v:= .slice (some ⟨b,off,none⟩) l.length sc) rfl
 obtain ⟨c0,c1,c2,c3,c4,c5⟩:=B0.cells
 have HB0:=hZq B0
 dsimp only at c0 c1 c2
 clear B0
 unfold Nd.c zN at HB0 c0 c1 c2 c3 c4 c5
 unfold Nd.c zN at p0
 unfold Nd.c
 dsimp only at HB0 c0 c1 c2 c3 c4 c5 p0 ⊢
 go_enter Tryz.func159,Tryz.ntmps159
 go_upto_if 10 with fail
 go_cut [] (fun wc=>Hid (PsB w wc #[.slice (some ⟨b,off,none⟩) l.length sc, .int .i64 wi] ⟨(k:Int)+1,a && stay H1 lo,bb⟩ zN))
 case first=>
  cases a with
  |true=>
   have q:=uQ HP _ (uQ HB0).k
   have hbl2:=Nat.lt_of_lt_of_le hbl (uQ HB0).k.size
   have SO1:=hZq (uQ SO H1 lo)
   clear SO HTK X2 HP c3 c4 c5
   go_wp2_with fail
   refine (uQ SO1 _).mono ?_
   rintro e w1 ⟨rfl,hk1⟩
   have B1:=(uQ HB0).kp hk1
   obtain ⟨d0,d1,d2,d3,d4,d5⟩:=B1.cells
   obtain ⟨f1,f2,f3,f4,f5⟩:=B1.froz
   have B2:=hZq (B1.loop (stay H1 lo))
   clear B1 hk1 HB0 SO1 c0 c1 c2 p0 q
   dsimp only at d0 d1 d2
   go_wp2
   go_meet
   exact B2
  |false=>
   clear SO HTK X2 HP c3 c4 c5
   go_wp2
   go_meet
   exact HB0
 case rest=>
  have HB1:=hcut
  have p1:=(uQ HB1).p.cell (i:=0) (v:= .slice (some ⟨b,off,none⟩) l.length sc) rfl
  obtain ⟨d0,d1,d2,d3,d4,d5⟩:=(uQ HB1).cells
  dsimp only at d0 d1 d2
  obtain ⟨A,hA⟩: ∃A,(a && stay H1 lo)=A:=⟨_,rfl⟩
  rw[hA]at HB1 d1
  have HA:=hZq hA
  clear hA
  clear HB0 c0 c1 c2 c3 c4 c5 p0 hcut HP hsub hli
  go_upto_if 23 with fail
  go_cut [] (fun wc=>Hid (PsB w wc #[.slice (some ⟨b,off,none⟩) l.length sc, .int .i64 wi] ⟨(k:Int)+1,A,bb && stay H2 ta⟩ zN))
  case first=>
   cases bb with
   |true=>
    obtain ⟨hk1,q0,qe⟩:=uQ X2 rfl
    have q:=q0 _ (uQ HB1).k
    rw[<-qe]at q
    have hli:((k:Int)+1)<(l.length:Int):=by omega
    have hbl2:=Nat.lt_of_lt_of_le hbl (uQ HB1).k.size
    have SO1:=hZq (uQ SO H2 ta)
    clear SO HTK X2 d3 d4 d5 q0 qe
    go_wp2_with fail
    refine (uQ SO1 _).mono ?_
    rintro e w1 ⟨rfl,hk1⟩
    have B1:=(uQ HB1).kp hk1
    obtain ⟨e0,e1,e2,e3,e4,e5⟩:=B1.cells
    obtain ⟨f1,f2,f3,f4,f5⟩:=B1.froz
    have B2:=hZq (B1.take (stay H2 ta))
    clear B1 hk1 HB1 SO1 d0 d1 d2 p1 q
    dsimp only at e0 e1 e2
    go_wp2
    go_meet
    exact B2
   |false=>
    clear SO HTK X2 d3 d4 d5
    go_wp2
    go_meet
    exact HB1
  case rest=>
   have HB2:=hcut
   obtain ⟨e0,e1,e2,e3,e4,e5⟩:=(uQ HB2).cells
   obtain ⟨f1,f2,f3,f4,f5⟩:=(uQ HB2).froz
   dsimp only at e0 e1 e2
   have HO:=hZq (uQ HB2).out
   dsimp only at HO
   obtain ⟨BB,hBB⟩: ∃BB,(bb && stay H2 ta)=BB:=⟨_,rfl⟩
   rw[hBB]at e2 HO HB2
   have HBB:=hZq hBB
   clear hBB
   clear HB1 d0 d1 d2 d3 d4 d5 p1 hcut SO HTK X2
   go_wp2
   obtain ⟨hx,hy⟩:=uQ HO
   exact bodyPost_ret (results_cell_row Tryz.results159 _ _ (w.heap.size+1+1) 143 _ (0,0) _ rfl hx Tryz.underlying143 rfl q1J) rfl ⟨by rw[uQ HA,uQ HBB];rfl,hy⟩
structure StB (w W:World)(pc:Array Value)(n:Nd)(s:Sps):Prop where
 p:CBox w.heap.size pc 24 W
 n:CBox (w.heap.size+1) n.c 143 W
 r:CBox (w.heap.size+1+1) zS.c 187 W
 s:CBox (w.heap.size+1+1+1) s.c 187 W
 k:Kp [] w W
theorem StB.new (w:World)(pc:Array Value)(n:Nd):StB w ((((w.alloc (.cells pc 24)).alloc (.cells n.c 143)).alloc (.cells zS.c 187)).alloc (.cells zS.c 187)) pc n zS:=by
 have e1:(w.alloc (.cells pc 24)).heap.size=w.heap.size+1:=by simp
 have e2:((w.alloc (.cells pc 24)).alloc (.cells n.c 143)).heap.size=w.heap.size+1+1:=by simp
 have e3:(((w.alloc (.cells pc 24)).alloc (.cells n.c 143)).alloc (.cells zS.c 187)).heap.size=w.heap.size+1+1+1:=by simp
 refine ⟨?_,?_,?_,?_,(((Kp.alloc _ _).trans (Kp.alloc _ _) (by simp)).trans (Kp.alloc _ _) (by simp)).trans (Kp.alloc _ _) (by simp)⟩
 ·exact (((CBox.new w _ _).kp (Kp.alloc _ _) (by simp)).kp (Kp.alloc _ _) (by simp)).kp (Kp.alloc _ _) (by simp)
 ·have:=((CBox.new (w.alloc (.cells pc 24)) n.c 143).kp (Kp.alloc _ (.cells zS.c 187)) (by simp)).kp (Kp.alloc _ (.cells zS.c 187)) (by simp)
  rwa [e1]at this
 ·have:=(CBox.new ((w.alloc (.cells pc 24)).alloc (.cells n.c 143)) zS.c 187).kp (Kp.alloc _ (.cells zS.c 187)) (by simp)
  rwa [e2]at this
 ·have:=CBox.new (((w.alloc (.cells pc 24)).alloc (.cells n.c 143)).alloc (.cells zS.c 187)) zS.c 187
  rwa [e3]at this
theorem StB.kp {w W W':World}{pc:Array Value}{n:Nd}{s:Sps}(h:StB w W pc n s)(hk:Kp [] W W'):StB w W' pc n s:=
 ⟨h.p.kp hk (by simp),h.n.kp hk (by simp),h.r.kp hk (by simp),h.s.kp hk (by simp),h.k.trans hk (by simp)⟩
theorem StB.cells {w W:World}{v u:Value}{n:Nd}{s:Sps}(h:StB w W #[v,u] n s):(W.cell? ⟨w.heap.size,0,none⟩=some v/\W.cell? ⟨w.heap.size,1,none⟩=some u)/\W.cell? ⟨w.heap.size+1,0,none⟩=some (.int .i64 n.st)/\W.cell? ⟨w.heap.size+1,1,none⟩=some (.bool n.lp)/\W.cell? ⟨w.heap.size+1,2,none⟩=some (.bool n.tk):=
 ⟨⟨h.p.cell rfl,h.p.cell rfl⟩,h.n.cell rfl,h.n.cell rfl,h.n.cell rfl⟩
theorem StB.s0 {w W:World}{pc:Array Value}{n:Nd}{s:Sps}(h:StB w W pc n s):(W.cell? ⟨w.heap.size+1+1+1,0,none⟩=some (.int .i64 s.lp.st)/\W.cell? ⟨w.heap.size+1+1+1,1,none⟩=some (.bool s.lp.lp)/\W.cell? ⟨w.heap.size+1+1+1,2,none⟩=some (.bool s.lp.tk)/\W.cell? ⟨w.heap.size+1+1+1,9,none⟩=some (.bool s.cl))/\(∀i,W.frozen? ⟨w.heap.size+1+1+1,i,none⟩=false):=
 ⟨⟨h.s.cell rfl,h.s.cell rfl,h.s.cell rfl,h.s.cell rfl⟩,h.s.froz⟩
theorem StB.s1 {w W:World}{pc:Array Value}{n:Nd}{s:Sps}(h:StB w W pc n s):(W.cell? ⟨w.heap.size+1+1+1,3,none⟩=some (.int .i64 s.tk.st)/\W.cell? ⟨w.heap.size+1+1+1,4,none⟩=some (.bool s.tk.lp)/\W.cell? ⟨w.heap.size+1+1+1,5,none⟩=some (.bool s.tk.tk)/\W.cell? ⟨w.heap.size+1+1+1,10,none⟩=some (.bool s.ct))/\(∀i,W.frozen? ⟨w.heap.size+1+1+1,i,none⟩=false):=
 ⟨⟨h.s.cell rfl,h.s.cell rfl,h.s.cell rfl,h.s.cell rfl⟩,h.s.froz⟩
theorem StB.s2 {w W:World}{pc:Array Value}{n:Nd}{s:Sps}(h:StB w W pc n s):(W.cell? ⟨w.heap.size+1+1+1,6,none⟩=some (.int .i64 s.wt.st)/\W.cell? ⟨w.heap.size+1+1+1,7,none⟩=some (.bool s.wt.lp)/\W.cell? ⟨w.heap.size+1+1+1,8,none⟩=some (.bool s.wt.tk)/\W.cell? ⟨w.heap.size+1+1+1,11,none⟩=some (.bool s.cw))/\(∀i,W.frozen? ⟨w.heap.size+1+1+1,i,none⟩=false):=
 ⟨⟨h.s.cell rfl,h.s.cell rfl,h.s.cell rfl,h.s.cell rfl⟩,h.s.froz⟩
def put4 (W:World)(g f i:Nat)(x:Nd):World:=(((W.setCell ⟨g,f,none⟩ (.bool true)).setCell ⟨g,i,none⟩ (.int .i64 x.st)).setCell ⟨g,i+1,none⟩ (.bool x.lp)).setCell ⟨g,i+2,none⟩ (.bool x.tk)
theorem Kp.put4 (W:World)(g f i:Nat)(x:Nd):Kp [g] W (put4 W g f i x):=(((Kp.set _ _ _ _).trans (Kp.set _ _ _ _) (by simp)).trans (Kp.set _ _ _ _) (by simp)).trans (Kp.set _ _ _ _) (by simp)
theorem StB.put {w W W':World}{pc:Array Value}{n:Nd}{s s':Sps}(h:StB w W pc n s)(hk:Kp [w.heap.size+1+1+1] W W')(hs:CBox (w.heap.size+1+1+1) s'.c 187 W'):StB w W' pc n s':=
 ⟨h.p.kp hk (by simp;omega),h.n.kp hk (by simp),h.r.kp hk (by simp),hs,h.k.trans hk (fun x hx=>Or.inr (by simp only[zD]at hx;omega))⟩
theorem StB.loop {w W:World}{pc:Array Value}{n:Nd}{s:Sps}(h:StB w W pc n s)(x:Nd):StB w (put4 W (w.heap.size+1+1+1) 9 0 x) pc n ⟨x,s.tk,s.wt,true,s.ct,s.cw⟩:=
 h.put (Kp.put4 _ _ _ _ _) ((((h.s.set 9 (.bool true)).set 0 (.int .i64 x.st)).set 1 (.bool x.lp)).set 2 (.bool x.tk))
theorem StB.take {w W:World}{pc:Array Value}{n:Nd}{s:Sps}(h:StB w W pc n s)(x:Nd):StB w (put4 W (w.heap.size+1+1+1) 10 3 x) pc n ⟨s.lp,x,s.wt,s.cl,true,s.cw⟩:=
 h.put (Kp.put4 _ _ _ _ _) ((((h.s.set 10 (.bool true)).set 3 (.int .i64 x.st)).set 4 (.bool x.lp)).set 5 (.bool x.tk))
theorem StB.wait {w W:World}{pc:Array Value}{n:Nd}{s:Sps}(h:StB w W pc n s)(x:Nd):StB w (put4 W (w.heap.size+1+1+1) 11 6 x) pc n ⟨s.lp,s.tk,x,s.cl,s.ct,true⟩:=
 h.put (Kp.put4 _ _ _ _ _) ((((h.s.set 11 (.bool true)).set 6 (.int .i64 x.st)).set 7 (.bool x.lp)).set 8 (.bool x.tk))
theorem q8O {g:Nat}{t:TypeId}{W:World}{x0 x1 x2 x3 x4 x5 x6 x7 x8 x9 x10 x11:Value}(h:CBox g #[x0,x1,x2,x3,x4,x5,x6,x7,x8,x9,x10,x11] t W)(a0 a1 a2 a3 a4 a5 a6 a7 a8 a9 a10 a11:Value):
  CBox g #[a0,a1,a2,a3,a4,a5,a6,a7,a8,a9,a10,a11] t ((((((((((((W.setCell ⟨g,0,none⟩ a0).setCell ⟨g,1,none⟩ a1).setCell ⟨g,2,none⟩ a2).setCell ⟨g,3,none⟩ a3).setCell ⟨g,4,none⟩ a4).setCell ⟨g,5,none⟩ a5).setCell ⟨g,6,none⟩ a6).setCell ⟨g,7,none⟩ a7).setCell ⟨g,8,none⟩ a8).setCell ⟨g,9,none⟩ a9).setCell ⟨g,10,none⟩ a10).setCell ⟨g,11,none⟩ a11)/\Kp [g] W ((((((((((((W.setCell ⟨g,0,none⟩ a0).setCell ⟨g,1,none⟩ a1).setCell ⟨g,2,none⟩ a2).setCell ⟨g,3,none⟩ a3).setCell ⟨g,4,none⟩ a4).setCell ⟨g,5,none⟩ a5).setCell ⟨g,6,none⟩ a6).setCell ⟨g,7,none⟩ a7).setCell ⟨g,8,none⟩ a8).setCell ⟨g,9,none⟩ a9).setCell ⟨g,10,none⟩ a10).setCell ⟨g,11,none⟩ a11):=by
 have h0:CBox g #[a0,x1,x2,x3,x4,x5,x6,x7,x8,x9,x10,x11] t (W.setCell ⟨g,0,none⟩ a0):=h.set 0 a0
 have h1:CBox g #[a0,a1,x2,x3,x4,x5,x6,x7,x8,x9,x10,x11] t ((W.setCell ⟨g,0,none⟩ a0).setCell ⟨g,1,none⟩ a1):=h0.set 1 a1
 have h2:CBox g #[a0,a1,a2,x3,x4,x5,x6,x7,x8,x9,x10,x11] t (((W.setCell ⟨g,0,none⟩ a0).setCell ⟨g,1,none⟩ a1).setCell ⟨g,2,none⟩ a2):=h1.set 2 a2
 have h3:CBox g #[a0,a1,a2,a3,x4,x5,x6,x7,x8,x9,x10,x11] t ((((W.setCell ⟨g,0,none⟩ a0).setCell ⟨g,1,none⟩ a1).setCell ⟨g,2,none⟩ a2).setCell ⟨g,3,none⟩ a3):=h2.set 3 a3
 have h4:CBox g #[a0,a1,a2,a3,a4,x5,x6,x7,x8,x9,x10,x11] t (((((W.setCell ⟨g,0,none⟩ a0).setCell ⟨g,1,none⟩ a1).setCell ⟨g,2,none⟩ a2).setCell ⟨g,3,none⟩ a3).setCell ⟨g,4,none⟩ a4):=h3.set 4 a4
 have h5:CBox g #[a0,a1,a2,a3,a4,a5,x6,x7,x8,x9,x10,x11] t ((((((W.setCell ⟨g,0,none⟩ a0).setCell ⟨g,1,none⟩ a1).setCell ⟨g,2,none⟩ a2).setCell ⟨g,3,none⟩ a3).setCell ⟨g,4,none⟩ a4).setCell ⟨g,5,none⟩ a5):=h4.set 5 a5
 have h6:CBox g #[a0,a1,a2,a3,a4,a5,a6,x7,x8,x9,x10,x11] t (((((((W.setCell ⟨g,0,none⟩ a0).setCell ⟨g,1,none⟩ a1).setCell ⟨g,2,none⟩ a2).setCell ⟨g,3,none⟩ a3).setCell ⟨g,4,none⟩ a4).setCell ⟨g,5,none⟩ a5).setCell ⟨g,6,none⟩ a6):=h5.set 6 a6
 have h7:CBox g #[a0,a1,a2,a3,a4,a5,a6,a7,x8,x9,x10,x11] t ((((((((W.setCell ⟨g,0,none⟩ a0).setCell ⟨g,1,none⟩ a1).setCell ⟨g,2,none⟩ a2).setCell ⟨g,3,none⟩ a3).setCell ⟨g,4,none⟩ a4).setCell ⟨g,5,none⟩ a5).setCell ⟨g,6,none⟩ a6).setCell ⟨g,7,none⟩ a7):=h6.set 7 a7
 have h8:CBox g #[a0,a1,a2,a3,a4,a5,a6,a7,a8,x9,x10,x11] t (((((((((W.setCell ⟨g,0,none⟩ a0).setCell ⟨g,1,none⟩ a1).setCell ⟨g,2,none⟩ a2).setCell ⟨g,3,none⟩ a3).setCell ⟨g,4,none⟩ a4).setCell ⟨g,5,none⟩ a5).setCell ⟨g,6,none⟩ a6).setCell ⟨g,7,none⟩ a7).setCell ⟨g,8,none⟩ a8):=h7.set 8 a8
 have h9:CBox g #[a0,a1,a2,a3,a4,a5,a6,a7,a8,a9,x10,x11] t ((((((((((W.setCell ⟨g,0,none⟩ a0).setCell ⟨g,1,none⟩ a1).setCell ⟨g,2,none⟩ a2).setCell ⟨g,3,none⟩ a3).setCell ⟨g,4,none⟩ a4).setCell ⟨g,5,none⟩ a5).setCell ⟨g,6,none⟩ a6).setCell ⟨g,7,none⟩ a7).setCell ⟨g,8,none⟩ a8).setCell ⟨g,9,none⟩ a9):=h8.set 9 a9
 have h10:CBox g #[a0,a1,a2,a3,a4,a5,a6,a7,a8,a9,a10,x11] t (((((((((((W.setCell ⟨g,0,none⟩ a0).setCell ⟨g,1,none⟩ a1).setCell ⟨g,2,none⟩ a2).setCell ⟨g,3,none⟩ a3).setCell ⟨g,4,none⟩ a4).setCell ⟨g,5,none⟩ a5).setCell ⟨g,6,none⟩ a6).setCell ⟨g,7,none⟩ a7).setCell ⟨g,8,none⟩ a8).setCell ⟨g,9,none⟩ a9).setCell ⟨g,10,none⟩ a10):=h9.set 10 a10
 have h11:CBox g #[a0,a1,a2,a3,a4,a5,a6,a7,a8,a9,a10,a11] t ((((((((((((W.setCell ⟨g,0,none⟩ a0).setCell ⟨g,1,none⟩ a1).setCell ⟨g,2,none⟩ a2).setCell ⟨g,3,none⟩ a3).setCell ⟨g,4,none⟩ a4).setCell ⟨g,5,none⟩ a5).setCell ⟨g,6,none⟩ a6).setCell ⟨g,7,none⟩ a7).setCell ⟨g,8,none⟩ a8).setCell ⟨g,9,none⟩ a9).setCell ⟨g,10,none⟩ a10).setCell ⟨g,11,none⟩ a11):=h10.set 11 a11
 refine ⟨h11,?_⟩
 have one:=fun (w:World) (i:Nat) (v:Value) (k:Kp [g] W w)=>k.trans (Kp.set w g i v) (by simp)
 exact one _ _ _ (one _ _ _ (one _ _ _ (one _ _ _ (one _ _ _ (one _ _ _ (one _ _ _ (one _ _ _ (one _ _ _ (one _ _ _ (one _ _ _ (Kp.set W g 0 a0)))))))))))
theorem qbZ (sa:Option Addr)(sc:Nat)(l:List SR)(wi:Int)(n:Nd)(lo ta:Bool)(w:World)(h:StsAt w sa l)(hl:l.length<=9223372036854775807)(hm:mayN (stgs l) n=true):
  Calls Tryz.prog 129 #[.agg #[.slice sa l.length sc, .int .i64 wi], .agg n.c, .bool lo, .bool ta] w fun e w'=>e= .returned (.agg (stpN (stgs l) n lo ta).c)/\Kp [] w w':=by
 obtain ⟨m1,m2,m3⟩:=q51 hm
 obtain ⟨g1,g2⟩:=isS_iff.1 m1
 rw[q02]at g2 m3
 have TK1:Hid (∀W,Kp [] w W->Calls Tryz.prog 109 #[.agg #[.slice sa l.length sc, .int .i64 wi], .int .i64 n.st] W fun e w'=>e= .returned (.agg (bgN (stgs l) n.st.toNat).c)/\Kp [] W w'):=hZq (fun W hk=>by
  have:=q2i sa sc l wi n.st.toNat W (h.kp hk) hl (by omega) (by omega)
  rwa [show ((n.st.toNat:Nat):Int)=n.st by omega]at this)
 have TK2:Hid (n.tk=true-> ∀W,Kp [] w W->Calls Tryz.prog 109 #[.agg #[.slice sa l.length sc, .int .i64 wi], .int .i64 (n.st+1)] W fun e w'=>e= .returned (.agg (bgN (stgs l) (n.st.toNat+1)).c)/\Kp [] W w'):=hZq (fun hs W hk=>by
  have h3:=m3 hs
  have:=q2i sa sc l wi (n.st.toNat+1) W (h.kp hk) hl (by omega) (by omega)
  rwa [show ((n.st.toNat+1:Nat):Int)=n.st+1 by omega]at this)
 have PS:=hZq (fun W (hk:Kp [] w W)=>q8K sa sc l wi n lo ta W (h.kp hk) hl hm)
 have ID:=hZq (fun W=>q8A (psN (stgs l) n lo ta) W)
 have HWR:Hid (n.tk=true->IntKind.i64.wrap (n.st+1)=n.st+1):=hZq (fun hs=>by have h3:=m3 hs;simp only[IntKind.wrap_i64];omega)
 have HS:Hid (stpN (stgs l) n lo ta=⟨if (n.lp && lo)=true then bgN (stgs l) n.st.toNat else zN,if (n.tk && ta)=true then bgN (stgs l) (n.st.toNat+1) else zN,if (psN (stgs l) n lo ta).live=true then psN (stgs l) n lo ta else zN,n.lp && lo,n.tk && ta,(psN (stgs l) n lo ta).live⟩):=hZq rfl
 have B0:=StB.new w #[.slice sa l.length sc, .int .i64 wi] n
 generalize stpN (stgs l) n lo ta=R at *
 generalize psN (stgs l) n lo ta=PN at *
 generalize bgN (stgs l) n.st.toNat=T1 at *
 generalize bgN (stgs l) (n.st.toNat+1)=T2 at *
 clear h hm m1 m2 m3 g1 g2 hl
 generalize l.length=nn at *
 obtain ⟨⟨p0,p1⟩,c0,c1,c2⟩:=B0.cells
 have HB0:=hZq B0
 obtain ⟨st,a,bb⟩:=n
 clear B0
 unfold Nd.c zS zN Sps.c at HB0 p0 p1 c0 c1 c2
 unfold Nd.c at TK1 TK2 PS ID ⊢
 dsimp only at HB0 p0 p1 c0 c1 c2 TK1 TK2 PS ID HS HWR ⊢
 go_enter Tryz.func129,Tryz.ntmps129
 go_upto_region 2 with fail
 go_cut [15] (fun v wc=>v= .bool (a && lo)/\Hid (StB w wc #[.slice sa nn sc, .int .i64 wi] ⟨st,a,bb⟩ zS))
 case first=>
  clear TK1 TK2 PS ID HS HWR
  cases a <;> (go_wp2;go_meet;exact ⟨rfl,HB0⟩)
 case rest=>
 obtain ⟨rfl,HB1⟩:=hcut
 clear HB0 p0 p1 c0 c1 c2
 go_upto_if 15 with fail
 go_cut [] (fun wc=>Hid (StB w wc #[.slice sa nn sc, .int .i64 wi] ⟨st,a,bb⟩ ⟨if (a && lo)=true then T1 else zN,zN,zN,a && lo,false,false⟩))
 case first=>
  clear TK2 PS ID HS HWR
  generalize (a && lo)=A at *
  cases A with
  |true=>
   obtain ⟨⟨p0,p1⟩,c0,c1,c2⟩:=(uQ HB1).cells
   have T:=hZq (uQ TK1 wc (uQ HB1).k)
   dsimp only at c0 c1 c2
   clear TK1
   go_wp2_with fail
   refine (uQ T).mono ?_
   rintro e w1 ⟨rfl,hk1⟩
   have B1:=(uQ HB1).kp hk1
   obtain ⟨⟨x0,x1,x2,x9⟩,fz⟩:=B1.s0
   have f0:=fz 0
   have f1:=fz 1
   have f2:=fz 2
   have f9:=fz 9
   have B2:=hZq (B1.loop T1)
   unfold put4 at B2
   clear B1 hk1 HB1 T fz p0 p1 c0 c1 c2
   go_wp2
   go_meet
   exact B2
  |false=>
   clear TK1
   go_wp2
   go_meet
   exact HB1
 case rest=>
 have HB2:=hcut
 clear hcut HB1 TK1
 obtain ⟨s1,hs1⟩: ∃s1:Sps,s1=⟨if (a && lo)=true then T1 else zN,zN,zN,a && lo,false,false⟩:=⟨_,rfl⟩
 rw[<-hs1]at HB2
 have HS1:=hZq hs1
 clear hs1
 obtain ⟨-,c0,c1,c2⟩:=(uQ HB2).cells
 dsimp only at c0 c1 c2
 go_upto_region 4 with fail
 go_cut [26] (fun v wc=>v= .bool (bb && ta)/\Hid (StB w wc #[.slice sa nn sc, .int .i64 wi] ⟨st,a,bb⟩ s1))
 case first=>
  clear TK2 PS ID HS HWR
  cases bb <;> (go_wp2;go_meet;exact ⟨rfl,HB2⟩)
 case rest=>
 obtain ⟨rfl,HB3⟩:=hcut
 clear HB2 c0 c1 c2
 go_upto_if 26 with fail
 go_cut [] (fun wc=>Hid (StB w wc #[.slice sa nn sc, .int .i64 wi] ⟨st,a,bb⟩ ⟨s1.lp,if (bb && ta)=true then T2 else s1.tk,s1.wt,s1.cl,if (bb && ta)=true then true else s1.ct,s1.cw⟩))
 case first=>
  clear PS ID HS
  cases bb with
  |true=>
   cases ta with
   |true=>
    obtain ⟨⟨p0,p1⟩,c0,c1,c2⟩:=(uQ HB3).cells
    have T:=hZq (uQ TK2 rfl wc (uQ HB3).k)
    have hwr:=uQ HWR rfl
    dsimp only at c0 c1 c2
    clear TK2 HWR
    go_wp2_with fail
    refine (uQ T).mono ?_
    rintro e w1 ⟨rfl,hk1⟩
    have B1:=(uQ HB3).kp hk1
    obtain ⟨⟨x0,x1,x2,x9⟩,fz⟩:=B1.s1
    have f0:=fz 3
    have f1:=fz 4
    have f2:=fz 5
    have f9:=fz 10
    have B2:=hZq (B1.take T2)
    unfold put4 at B2
    clear B1 hk1 HB3 T fz p0 p1 c0 c1 c2
    go_wp2
    go_meet
    exact B2
   |false=>
    clear TK2 HWR
    go_wp2
    go_meet
    exact HB3
  |false=>
   clear TK2 HWR
   cases ta <;> (go_wp2;go_meet;exact HB3)
 case rest=>
 have HB4:=hcut
 clear hcut HB3 TK2 HWR
 obtain ⟨s2,hs2⟩: ∃s2:Sps,s2=⟨s1.lp,if (bb && ta)=true then T2 else s1.tk,s1.wt,s1.cl,if (bb && ta)=true then true else s1.ct,s1.cw⟩:=⟨_,rfl⟩
 rw[<-hs2]at HB4
 have HS2:=hZq hs2
 clear hs2
 obtain ⟨⟨p0,p1⟩,c0,c1,c2⟩:=(uQ HB4).cells
 dsimp only at c0 c1 c2
 have P:=hZq (uQ PS wc (uQ HB4).k)
 clear PS
 go_wp2_with fail
 refine (uQ P).mono ?_
 rintro e w1 ⟨rfl,hk1⟩
 have HB5:=hZq ((uQ HB4).kp hk1)
 have hbx:=CBox.new w1 #[.int .i64 PN.st, .bool PN.lp, .bool PN.tk] 143
 have HB6:=hZq ((uQ HB5).kp (Kp.alloc w1 (.cells #[.int .i64 PN.st, .bool PN.lp, .bool PN.tk] 143)))
 have q0:=hbx.cell (i:=0) (v:= .int .i64 PN.st) rfl
 have q1:=hbx.cell (i:=1) (v:= .bool PN.lp) rfl
 have q2:=hbx.cell (i:=2) (v:= .bool PN.tk) rfl
 have HBX:=hZq hbx
 have hne:w.heap.size+1+1+1<w1.heap.size:=(zB.1 (uQ HB5).s).1
 clear P hk1 HB4 HB5 p0 p1 c0 c1 c2 hbx
 go_wp2_with fail
 refine (uQ ID _).mono ?_
 rintro e w2 ⟨rfl,hk2⟩
 have hbx:=(uQ HBX).kp hk2 (by simp)
 have HB7:=hZq ((uQ HB6).kp hk2)
 have r0:=hbx.cell (i:=0) (v:= .int .i64 PN.st) rfl
 have r1:=hbx.cell (i:=1) (v:= .bool PN.lp) rfl
 have r2:=hbx.cell (i:=2) (v:= .bool PN.tk) rfl
 have hlt:w1.heap.size<w2.heap.size:=by have:=hk2.size;simp at this;omega
 clear ID HBX hk2 HB6 q0 q1 q2 hbx
 go_upto_if 41 with fail
 go_cut [] (fun wc=>Hid (StB w wc #[.slice sa nn sc, .int .i64 wi] ⟨st,a,bb⟩ ⟨s2.lp,s2.tk,if PN.live=true then PN else s2.wt,s2.cl,s2.ct,if PN.live=true then true else s2.cw⟩))
 case first=>
  clear HS HS1 HS2
  cases hL:PN.live with
  |true=>
   obtain ⟨⟨x0,x1,x2,x9⟩,fz⟩:=(uQ HB7).s2
   have f0:=fz 6
   have f1:=fz 7
   have f2:=fz 8
   have f9:=fz 11
   clear fz
   go_wp2_with fail
   have B2:=hZq (((uQ HB7).wait PN).kp (Kp.drew _))
   unfold put4 at B2
   go_region
   all_goals (go_wp2;go_meet;rw[hL];exact B2)
  |false=>
   go_wp2
   go_meet
   rw[hL]
   exact HB7
 case rest=>
 have HB8:=hcut
 have hR:R=⟨s2.lp,s2.tk,if PN.live=true then PN else s2.wt,s2.cl,s2.ct,if PN.live=true then true else s2.cw⟩:=by
  rw[uQ HS,uQ HS2,uQ HS1]
  dsimp only
  generalize (bb && ta)=X
  generalize PN.live=Y
  cases X <;> cases Y <;> rfl
 rw[<-hR]at HB8
 clear hcut HB7 HS HS1 HS2 hR r0 r1 r2 hlt hne
 have bs:=(uQ HB8).s
 have br:=(uQ HB8).r
 have HK:=hZq (uQ HB8).k
 obtain ⟨⟨l0,l1,l2⟩,⟨t0,t1,t2⟩,⟨v0,v1,v2⟩,cl,ct,cw⟩:=R
 unfold Sps.c at bs br
 unfold zS zN at br
 dsimp only at bs br
 have z0:=br.cell (i:=0) (v:= .int .i64 0) rfl
 have z1:=br.cell (i:=1) (v:= .bool false) rfl
 have z2:=br.cell (i:=2) (v:= .bool false) rfl
 have z3:=br.cell (i:=3) (v:= .int .i64 0) rfl
 have z4:=br.cell (i:=4) (v:= .bool false) rfl
 have z5:=br.cell (i:=5) (v:= .bool false) rfl
 have z6:=br.cell (i:=6) (v:= .int .i64 0) rfl
 have z7:=br.cell (i:=7) (v:= .bool false) rfl
 have z8:=br.cell (i:=8) (v:= .bool false) rfl
 have z9:=br.cell (i:=9) (v:= .bool false) rfl
 have z10:=br.cell (i:=10) (v:= .bool false) rfl
 have z11:=br.cell (i:=11) (v:= .bool false) rfl
 have f0:=br.froz 0
 have f1:=br.froz 1
 have f2:=br.froz 2
 have f3:=br.froz 3
 have f4:=br.froz 4
 have f5:=br.froz 5
 have f6:=br.froz 6
 have f7:=br.froz 7
 have f8:=br.froz 8
 have f9:=br.froz 9
 have f10:=br.froz 10
 have f11:=br.froz 11
 have s0:=bs.cell (i:=0) (v:= .int .i64 l0) rfl
 have s1:=bs.cell (i:=1) (v:= .bool l1) rfl
 have s2:=bs.cell (i:=2) (v:= .bool l2) rfl
 have s3:=bs.cell (i:=3) (v:= .int .i64 t0) rfl
 have s4:=bs.cell (i:=4) (v:= .bool t1) rfl
 have s5:=bs.cell (i:=5) (v:= .bool t2) rfl
 have s6:=bs.cell (i:=6) (v:= .int .i64 v0) rfl
 have s7:=bs.cell (i:=7) (v:= .bool v1) rfl
 have s8:=bs.cell (i:=8) (v:= .bool v2) rfl
 have s9:=bs.cell (i:=9) (v:= .bool cl) rfl
 have s10:=bs.cell (i:=10) (v:= .bool ct) rfl
 have s11:=bs.cell (i:=11) (v:= .bool cw) rfl
 have HE:=hZq (q8O br (.int .i64 l0) (.bool l1) (.bool l2) (.int .i64 t0) (.bool t1) (.bool t2) (.int .i64 v0) (.bool v1) (.bool v2) (.bool cl) (.bool ct) (.bool cw))
 have HG:=hZq (fun W (hk:Kp [w.heap.size+1+1] wc W)=>(uQ HK).trans hk (fun x hx=>Or.inr (by simp only[zD]at hx;omega)))
 clear bs br HB8 HK
 go_wp2
 obtain ⟨hx,hy⟩:=uQ HE
 exact bodyPost_ret (results_cell_row Tryz.results129 _ _ (w.heap.size+1+1) 187 _ (0,0) _ rfl hx Tryz.underlying187 rfl q2I) rfl ⟨rfl,uQ HG _ hy⟩
def nkE (p:Ptn)(n:Nd):Int:=if (pcR p).2=0 then (if mayN p.ss n then 0 else 170) else (pcR p).2
def nbE (p:Ptn)(s:Int):Int:=if (pcR p).2=0 then (if isS p.ss s then 0 else 1) else (pcR p).2
def nbN (p:Ptn)(s:Int):Nd:=if nbE p s=0 then bgN p.ss s.toNat else zN
def nsS (p:Ptn)(n:Nd)(lo ta:Bool):Sps:=if nkE p n=0 then stpN p.ss n lo ta else zS
theorem qfd {p:Ptn}{n:Nd}(h:nkE p n=0):(pcR p).2=0/\mayN p.ss n=true:=by
 unfold nkE at h
 by_cases h0:(pcR p).2=0
 ·rw[if_pos h0]at h
  refine ⟨h0,?_⟩
  cases e:mayN p.ss n with
  |true=>rfl
  |false=>rw[e]at h;simp at h
 ·rw[if_neg h0]at h
  exact absurd h h0
theorem q8H (sa:Option Addr)(sc:Nat)(l:List SR)(wi:Int)(n:Nd)(w:World)(h:StsAt w sa l)(hT:TbE w)(hok: ∀r∈l,r.s.ok)(hl:l.length<=9223372036854775807):
  Calls Tryz.prog 128 #[.agg #[.slice sa l.length sc, .int .i64 wi], .agg n.c] w fun e w'=>e= .returned (.int .i64 (nkE ⟨stgs l,wi⟩ n))/\Kp [] w w':=by
 have k0:Kp [] w ((w.alloc (.cells #[.slice sa l.length sc, .int .i64 wi] 24)).alloc (.cells n.c 143)):=(Kp.alloc _ _).trans (Kp.alloc _ _) (by simp)
 have hP:=q4f w #[.slice sa l.length sc, .int .i64 wi] 24 (.cells n.c 143)
 have hN:=q4g w n.c 143 (.cells #[.slice sa l.length sc, .int .i64 wi] 24)
 have CK:=hZq (q1O sa sc l wi _ (h.kp k0) (hT.kp k0 (by simp)) hok hl)
 have MB:=hZq (fun W (hk:Kp [] w W)=>q9P sa sc l wi n W (h.kp hk) hl)
 have HV:Hid (∀W,Kp [] ((w.alloc (.cells #[.slice sa l.length sc, .int .i64 wi] 24)).alloc (.cells n.c 143)) W->(W.cell? ⟨w.heap.size,0,none⟩=some (.slice sa l.length sc)/\W.cell? ⟨w.heap.size,1,none⟩=some (.int .i64 wi)/\W.cell? ⟨w.heap.size+1,0,none⟩=some (.int .i64 n.st)/\W.cell? ⟨w.heap.size+1,1,none⟩=some (.bool n.lp)/\W.cell? ⟨w.heap.size+1,2,none⟩=some (.bool n.tk))/\Hid (Kp [] w W)):=hZq (fun W hk=>⟨⟨(hP.kp hk (by simp)).cell rfl,(hP.kp hk (by simp)).cell rfl,(hN.kp hk (by simp)).cell rfl,(hN.kp hk (by simp)).cell rfl,(hN.kp hk (by simp)).cell rfl⟩,hZq (k0.trans hk (by simp))⟩)
 have HR:Hid (∀P M,(pcR ⟨stgs l,wi⟩).2=P->mayN (stgs l) n=M->nkE ⟨stgs l,wi⟩ n=if P=0 then (if M then 0 else 170) else P):=hZq (fun P M e1 e2=>by unfold nkE;rw[e1,e2])
 generalize (pcR ⟨stgs l,wi⟩).1=PA at *
 generalize (pcR ⟨stgs l,wi⟩).2=PC at *
 have HR2:=hZq (uQ HR PC _ rfl rfl)
 generalize mayN (stgs l) n=M at *
 generalize nkE ⟨stgs l,wi⟩ n=R at *
 clear h hT hok hl k0 hP hN HR
 generalize l.length=nn at *
 obtain ⟨st,a,b⟩:=n
 unfold Nd.c at *
 dsimp only at *
 obtain ⟨⟨c0,c1,c2,c3,c4⟩,_⟩:=uQ HV _ (Kp.refl _ _)
 go_enter Tryz.func128,Tryz.ntmps128
 go_wp2_with fail
 refine (uQ CK).mono ?_
 rintro e w1 ⟨rfl,hb1⟩
 have HK1:=hZq (Kp.ofBelow hb1)
 obtain ⟨⟨d0,d1,d2,d3,d4⟩,HW1⟩:=uQ HV _ (uQ HK1)
 clear c0 c1 c2 c3 c4 hb1 CK
 by_cases hp:PC=0
 ·subst hp
  have hR:=uQ HR2
  rw[if_pos rfl]at hR
  have MB1:=hZq (uQ MB w1 (uQ HW1))
  clear HR2 MB
  go_wp2_with fail
  refine (uQ MB1).mono ?_
  rintro e w2 ⟨rfl,hk2⟩
  have HW2:=hZq ((uQ HW1).trans hk2 (by simp))
  clear hk2 MB1 d0 d1 d2 d3 d4 HV HK1 HW1
  cases M with
  |true=>
   rw[if_pos rfl]at hR
   subst hR
   go_wp2
   go_ret
   exact ⟨rfl,uQ HW2⟩
  |false=>
   rw[if_neg (by simp)]at hR
   subst hR
   go_wp2
   go_ret
   exact ⟨rfl,uQ HW2⟩
 ·have hR:=uQ HR2
  rw[if_neg hp]at hR
  subst hR
  have g:(R != 0)=true:=by simp[hp]
  clear HR2 MB hp
  go_wp2
  go_ret
  exact ⟨rfl,uQ HW1⟩
theorem q8G (sa:Option Addr)(sc:Nat)(l:List SR)(wi s:Int)(w:World)(h:StsAt w sa l)(hT:TbE w)(hok: ∀r∈l,r.s.ok)(hl:l.length<=9223372036854775807):
  Calls Tryz.prog 85 #[.agg #[.slice sa l.length sc, .int .i64 wi], .int .i64 s] w fun e w'=>e= .returned (.tuple #[.agg (nbN ⟨stgs l,wi⟩ s).c, .int .i64 (nbE ⟨stgs l,wi⟩ s)])/\Kp [] w w':=by
 obtain ⟨k0,hN⟩:=q9R w (.cells #[.slice sa l.length sc, .int .i64 wi] 24) (.int .i64 0) (.bool false) (.bool false) 143
 have hP:=q4f w #[.slice sa l.length sc, .int .i64 wi] 24 (.cells #[.int .i64 0, .bool false, .bool false] 143)
 have CK:=hZq (q1O sa sc l wi _ (h.kp k0) (hT.kp k0 (by simp)) hok hl)
 have IS:=hZq (fun W=>q3g sa sc l.length wi (stgs l) (q02 l) s W)
 have TK:Hid (isS (stgs l) s=true-> ∀W,Kp [] w W->Calls Tryz.prog 109 #[.agg #[.slice sa l.length sc, .int .i64 wi], .int .i64 s] W fun e w'=>e= .returned (.agg (bgN (stgs l) s.toNat).c)/\Kp [] W w'):=hZq (fun hs W hk=>by
  obtain ⟨g1,g2⟩:=isS_iff.1 hs
  rw[q02]at g2
  have:=q2i sa sc l wi s.toNat W (h.kp hk) hl (by omega) (by omega)
  rwa [show ((s.toNat:Nat):Int)=s by omega]at this)
 have HV:Hid (∀W,Kp [] ((w.alloc (.cells #[.slice sa l.length sc, .int .i64 wi] 24)).alloc (.cells #[.int .i64 0, .bool false, .bool false] 143)) W->(W.cell? ⟨w.heap.size,0,none⟩=some (.slice sa l.length sc)/\W.cell? ⟨w.heap.size,1,none⟩=some (.int .i64 wi)/\W.cell? ⟨w.heap.size+1,0,none⟩=some (.int .i64 0)/\W.cell? ⟨w.heap.size+1,1,none⟩=some (.bool false)/\W.cell? ⟨w.heap.size+1,2,none⟩=some (.bool false))/\(W.frozen? ⟨w.heap.size+1,0,none⟩=false/\W.frozen? ⟨w.heap.size+1,1,none⟩=false/\W.frozen? ⟨w.heap.size+1,2,none⟩=false)/\Hid (Kp [] w W)/\Hid (CBox (w.heap.size+1) #[.int .i64 0, .bool false, .bool false] 143 W)):=hZq (fun W hk=>⟨⟨(hP.kp hk (by simp)).cell rfl,(hP.kp hk (by simp)).cell rfl,(hN.kp hk (by simp)).cell rfl,(hN.kp hk (by simp)).cell rfl,(hN.kp hk (by simp)).cell rfl⟩,⟨(hN.kp hk (by simp)).froz _,(hN.kp hk (by simp)).froz _,(hN.kp hk (by simp)).froz _⟩,hZq (k0.trans hk (by simp)),hZq (hN.kp hk (by simp))⟩)
 have HE:Hid (nbE ⟨stgs l,wi⟩ s=if (pcR ⟨stgs l,wi⟩).2=0 then (if isS (stgs l) s then 0 else 1) else (pcR ⟨stgs l,wi⟩).2):=hZq rfl
 have HN:Hid (nbN ⟨stgs l,wi⟩ s=if nbE ⟨stgs l,wi⟩ s=0 then bgN (stgs l) s.toNat else zN):=hZq rfl
 generalize (pcR ⟨stgs l,wi⟩).1=PA at *
 generalize (pcR ⟨stgs l,wi⟩).2=PC at *
 generalize isS (stgs l) s=I at *
 generalize nbE ⟨stgs l,wi⟩ s=R at *
 generalize nbN ⟨stgs l,wi⟩ s=ND at *
 generalize bgN (stgs l) s.toNat=T1 at *
 clear h hT hok hl k0 hP hN
 generalize l.length=nn at *
 obtain ⟨⟨c0,c1,c2,c3,c4⟩,⟨f0,f1,f2⟩,_⟩:=uQ HV _ (Kp.refl _ _)
 go_enter Tryz.func85,Tryz.ntmps85
 go_wp2_with fail
 refine (uQ CK).mono ?_
 rintro e w1 ⟨rfl,hb1⟩
 have HK1:=hZq (Kp.ofBelow hb1)
 obtain ⟨⟨d0,d1,d2,d3,d4⟩,⟨g0,g1,g2⟩,HW1,HB1⟩:=uQ HV _ (uQ HK1)
 clear c0 c1 c2 c3 c4 f0 f1 f2 hb1 CK
 by_cases hp:PC=0
 ·subst hp
  have hE:=uQ HE
  rw[if_pos rfl]at hE
  clear HE
  go_wp2_with fail
  refine (uQ IS _).mono ?_
  rintro e w2 ⟨rfl,hk2⟩
  have HK2:=hZq ((uQ HK1).trans hk2 (by simp))
  obtain ⟨⟨d0',d1',d2',d3',d4'⟩,⟨g0',g1',g2'⟩,HW2,HB2⟩:=uQ HV _ (uQ HK2)
  clear hk2 IS d0 d1 d2 d3 d4 g0 g1 g2 HK1 HW1 HB1
  cases I with
  |true=>
   rw[if_pos rfl]at hE
   subst hE
   have hN:=uQ HN
   rw[if_pos rfl]at hN
   subst hN
   have T:=hZq (uQ TK rfl w2 (uQ HW2))
   clear TK HN
   go_wp2_with fail
   refine (uQ T).mono ?_
   rintro e w3 ⟨rfl,hk3⟩
   obtain ⟨⟨-, -,e2,e3,e4⟩,⟨g0,g1,g2⟩,HW3,HB3⟩:=uQ HV _ ((uQ HK2).trans hk3 (by simp))
   have HO:=hZq (q3e (uQ HW3) (by omega) (uQ HB3) (.int .i64 ND.st) (.bool ND.lp) (.bool ND.tk))
   unfold Nd.c
   clear T hk3 HV HK2 HW2 HB2 HB3 HW3 d0' d1' d2' d3' d4' g0' g1' g2'
   go_wp2
   obtain ⟨hx,hy⟩:=uQ HO
   exact bodyPost_ret (q0G Tryz.results85 _ _ (w.heap.size+1) 143 _ (0,0) _ rfl hx Tryz.underlying143 rfl q1J) rfl ⟨rfl,hy⟩
  |false=>
   rw[if_neg (by simp)]at hE
   subst hE
   have hN:=uQ HN
   rw[if_neg (by omega)]at hN
   subst hN
   have HO:=hZq (q3e (uQ HW2) (by omega) (uQ HB2) (.int .i64 0) (.bool false) (.bool false))
   clear TK HN HV HK2 HW2 HB2
   go_wp2
   obtain ⟨hx,hy⟩:=uQ HO
   exact bodyPost_ret (q0G Tryz.results85 _ _ (w.heap.size+1) 143 _ (0,0) _ rfl hx Tryz.underlying143 rfl q1J) rfl ⟨rfl,hy⟩
 ·have hE:=uQ HE
  rw[if_neg hp]at hE
  subst hE
  have hN:=uQ HN
  rw[if_neg hp]at hN
  subst hN
  have g:(R != 0)=true:=by simp[hp]
  have HO:=hZq (q3e (uQ HW1) (by omega) (uQ HB1) (.int .i64 0) (.bool false) (.bool false))
  clear TK HN HV HK1 HW1 HB1 HE IS hp
  go_wp2
  obtain ⟨hx,hy⟩:=uQ HO
  exact bodyPost_ret (q0G Tryz.results85 _ _ (w.heap.size+1) 143 _ (0,0) _ rfl hx Tryz.underlying143 rfl q1J) rfl ⟨rfl,hy⟩
structure SpB (w W:World)(pc:Array Value)(n:Nd):Prop where
 p:CBox w.heap.size pc 24 W
 n:CBox (w.heap.size+1) n.c 143 W
 r:CBox (w.heap.size+1+1) zS.c 187 W
 k:Kp [] w W
theorem SpB.new (w:World)(pc:Array Value)(n:Nd):SpB w (((w.alloc (.cells pc 24)).alloc (.cells n.c 143)).alloc (.cells zS.c 187)) pc n:=by
 have e1:(w.alloc (.cells pc 24)).heap.size=w.heap.size+1:=by simp
 have e2:((w.alloc (.cells pc 24)).alloc (.cells n.c 143)).heap.size=w.heap.size+1+1:=by simp
 refine ⟨?_,?_,?_,((Kp.alloc _ _).trans (Kp.alloc _ _) (by simp)).trans (Kp.alloc _ _) (by simp)⟩
 ·exact ((CBox.new w _ _).kp (Kp.alloc _ _) (by simp)).kp (Kp.alloc _ _) (by simp)
 ·have:=(CBox.new (w.alloc (.cells pc 24)) n.c 143).kp (Kp.alloc _ (.cells zS.c 187)) (by simp)
  rwa [e1]at this
 ·have:=CBox.new ((w.alloc (.cells pc 24)).alloc (.cells n.c 143)) zS.c 187
  rwa [e2]at this
theorem SpB.kp {w W W':World}{pc:Array Value}{n:Nd}(h:SpB w W pc n)(hk:Kp [] W W'):SpB w W' pc n:=
 ⟨h.p.kp hk (by simp),h.n.kp hk (by simp),h.r.kp hk (by simp),h.k.trans hk (by simp)⟩
theorem SpB.cells {w W:World}{v u:Value}{n:Nd}(h:SpB w W #[v,u] n):(W.cell? ⟨w.heap.size,0,none⟩=some v/\W.cell? ⟨w.heap.size,1,none⟩=some u)/\W.cell? ⟨w.heap.size+1,0,none⟩=some (.int .i64 n.st)/\W.cell? ⟨w.heap.size+1,1,none⟩=some (.bool n.lp)/\W.cell? ⟨w.heap.size+1,2,none⟩=some (.bool n.tk):=
 ⟨⟨h.p.cell rfl,h.p.cell rfl⟩,h.n.cell rfl,h.n.cell rfl,h.n.cell rfl⟩
theorem q6R {g:Nat}{W:World}(h:CBox g zS.c 187 W):(W.cell? ⟨g,0,none⟩=some (.int .i64 0)/\W.cell? ⟨g,1,none⟩=some (.bool false)/\W.cell? ⟨g,2,none⟩=some (.bool false)/\W.cell? ⟨g,3,none⟩=some (.int .i64 0)/\W.cell? ⟨g,4,none⟩=some (.bool false)/\W.cell? ⟨g,5,none⟩=some (.bool false)/\W.cell? ⟨g,6,none⟩=some (.int .i64 0)/\W.cell? ⟨g,7,none⟩=some (.bool false)/\W.cell? ⟨g,8,none⟩=some (.bool false)/\W.cell? ⟨g,9,none⟩=some (.bool false)/\W.cell? ⟨g,10,none⟩=some (.bool false)/\W.cell? ⟨g,11,none⟩=some (.bool false))/\(W.frozen? ⟨g,0,none⟩=false/\W.frozen? ⟨g,1,none⟩=false/\W.frozen? ⟨g,2,none⟩=false/\W.frozen? ⟨g,3,none⟩=false/\W.frozen? ⟨g,4,none⟩=false/\W.frozen? ⟨g,5,none⟩=false/\W.frozen? ⟨g,6,none⟩=false/\W.frozen? ⟨g,7,none⟩=false/\W.frozen? ⟨g,8,none⟩=false/\W.frozen? ⟨g,9,none⟩=false/\W.frozen? ⟨g,10,none⟩=false/\W.frozen? ⟨g,11,none⟩=false):=
 ⟨⟨h.cell rfl,h.cell rfl,h.cell rfl,h.cell rfl,h.cell rfl,h.cell rfl,h.cell rfl,h.cell rfl,h.cell rfl,h.cell rfl,h.cell rfl,h.cell rfl⟩,h.froz _,h.froz _,h.froz _,h.froz _,h.froz _,h.froz _,h.froz _,h.froz _,h.froz _,h.froz _,h.froz _,h.froz _⟩
theorem q53 (sa:Option Addr)(sc:Nat)(l:List SR)(wi:Int)(n:Nd)(lo ta:Bool)(w:World)(h:StsAt w sa l)(hT:TbE w)(hok: ∀r∈l,r.s.ok)(hl:l.length<=9223372036854775807):
  Calls Tryz.prog 110 #[.agg #[.slice sa l.length sc, .int .i64 wi], .agg n.c, .bool lo, .bool ta] w fun e w'=>e= .returned (.tuple #[.agg (nsS ⟨stgs l,wi⟩ n lo ta).c, .int .i64 (nkE ⟨stgs l,wi⟩ n)])/\Kp [] w w':=by
 have B0:=SpB.new w #[.slice sa l.length sc, .int .i64 wi] n
 have CK:=hZq (q8H sa sc l wi n _ (h.kp B0.k) (hT.kp B0.k (by simp)) hok hl)
 have ST:Hid (nkE ⟨stgs l,wi⟩ n=0-> ∀W,Kp [] w W->Calls Tryz.prog 129 #[.agg #[.slice sa l.length sc, .int .i64 wi], .agg n.c, .bool lo, .bool ta] W fun e w'=>e= .returned (.agg (stpN (stgs l) n lo ta).c)/\Kp [] W w'):=hZq (fun h0 W hk=>qbZ sa sc l wi n lo ta W (h.kp hk) hl (qfd h0).2)
 have HS:Hid (nsS ⟨stgs l,wi⟩ n lo ta=if nkE ⟨stgs l,wi⟩ n=0 then stpN (stgs l) n lo ta else zS):=hZq rfl
 generalize nkE ⟨stgs l,wi⟩ n=R at *
 generalize nsS ⟨stgs l,wi⟩ n lo ta=Y at *
 generalize stpN (stgs l) n lo ta=X at *
 clear h hT hok hl
 generalize l.length=nn at *
 obtain ⟨⟨p0,p1⟩,c0,c1,c2⟩:=B0.cells
 have HB0:=hZq B0
 obtain ⟨st,a,b⟩:=n
 clear B0
 unfold Nd.c zS zN Sps.c at CK HB0 p0 p1 c0 c1 c2
 unfold Nd.c at ST ⊢
 dsimp only at CK HB0 p0 p1 c0 c1 c2 ST ⊢
 go_enter Tryz.func110,Tryz.ntmps110
 go_wp2_with fail
 refine (uQ CK).mono ?_
 rintro e w1 ⟨rfl,hk1⟩
 have HB1:=hZq ((uQ HB0).kp hk1)
 clear HB0 hk1 CK p0 p1 c0 c1 c2
 have hS:=uQ HS
 clear HS
 by_cases hp:R=0
 ·subst hp
  rw[if_pos rfl]at hS
  subst hS
  obtain ⟨⟨p0,p1⟩,c0,c1,c2⟩:=(uQ HB1).cells
  have T:=hZq (uQ ST rfl w1 (uQ HB1).k)
  dsimp only at c0 c1 c2
  clear ST
  go_wp2_with fail
  refine (uQ T).mono ?_
  rintro e w2 ⟨rfl,hk2⟩
  have HB2:=hZq ((uQ HB1).kp hk2)
  have br:=(uQ HB2).r
  obtain ⟨⟨z0,z1,z2,z3,z4,z5,z6,z7,z8,z9,z10,z11⟩,f0,f1,f2,f3,f4,f5,f6,f7,f8,f9,f10,f11⟩:=q6R br
  obtain ⟨⟨l0,l1,l2⟩,⟨t0,t1,t2⟩,⟨v0,v1,v2⟩,cl,ct,cw⟩:=Y
  have HE:=hZq (q8O (show CBox (w.heap.size+1+1) #[.int .i64 0, .bool false, .bool false, .int .i64 0, .bool false, .bool false, .int .i64 0, .bool false, .bool false, .bool false, .bool false, .bool false] 187 w2 from br) (.int .i64 l0) (.bool l1) (.bool l2) (.int .i64 t0) (.bool t1) (.bool t2) (.int .i64 v0) (.bool v1) (.bool v2) (.bool cl) (.bool ct) (.bool cw))
  have HG:=hZq (fun W (hk:Kp [w.heap.size+1+1] w2 W)=>(uQ HB2).k.trans hk (fun x hx=>Or.inr (by simp only[zD]at hx;omega)))
  unfold Sps.c
  dsimp only
  clear T hk2 HB1 HB2 br p0 p1 c0 c1 c2
  go_wp2
  obtain ⟨hx,hy⟩:=uQ HE
  exact bodyPost_ret (q0G Tryz.results110 _ _ (w.heap.size+1+1) 187 _ (0,0) _ rfl hx Tryz.underlying187 rfl q2I) rfl ⟨rfl,uQ HG _ hy⟩
 ·rw[if_neg hp]at hS
  subst hS
  have g:(R != 0)=true:=by simp[hp]
  have br:=(uQ HB1).r
  obtain ⟨⟨z0,z1,z2,z3,z4,z5,z6,z7,z8,z9,z10,z11⟩,f0,f1,f2,f3,f4,f5,f6,f7,f8,f9,f10,f11⟩:=q6R br
  have HE:=hZq (q8O (show CBox (w.heap.size+1+1) #[.int .i64 0, .bool false, .bool false, .int .i64 0, .bool false, .bool false, .int .i64 0, .bool false, .bool false, .bool false, .bool false, .bool false] 187 w1 from br) (.int .i64 0) (.bool false) (.bool false) (.int .i64 0) (.bool false) (.bool false) (.int .i64 0) (.bool false) (.bool false) (.bool false) (.bool false) (.bool false))
  have HG:=hZq (fun W (hk:Kp [w.heap.size+1+1] w1 W)=>(uQ HB1).k.trans hk (fun x hx=>Or.inr (by simp only[zD]at hx;omega)))
  clear ST HB1 br hp
  go_wp2
  obtain ⟨hx,hy⟩:=uQ HE
  exact bodyPost_ret (q0G Tryz.results110 _ _ (w.heap.size+1+1) 187 _ (0,0) _ rfl hx Tryz.underlying187 rfl q2I) rfl ⟨rfl,uQ HG _ hy⟩
def rdN (fr td:Nat):Nd:=⟨(fr:Int)+1,decide (fr=td), !decide (fr=td)⟩
theorem qeK {ss:List Stg}{fr td:Nat}(hft:(td=fr/\mnAt ss fr=true/\fr<ss.length)\/(td=fr+1/\td<ss.length)):mayN ss (rdN fr td)=true:=by
 unfold mayN isS rdN
 have h1:((fr:Int)+1).toNat=fr+1:=by omega
 dsimp only
 rw[h1,Nat.add_sub_cancel]
 rcases hft with ⟨rfl,h2,h3⟩|⟨rfl,h3⟩
 ·simp[h2]
  omega
 ·simp
  omega
theorem q6p {p:Ptn}(hp:(pcR p).2=0){fr td:Nat}(hft:(td=fr/\mnAt p.ss fr=true/\fr<p.ss.length)\/(td=fr+1/\td<p.ss.length))(b:Bool):(nsS p (rdN fr td) (b && (rdN fr td).lp) (b && (rdN fr td).tk)).cw=stay (hwAt p.ss td) b:=by
 have hk:nkE p (rdN fr td)=0:=by unfold nkE;rw[if_pos hp,if_pos (qeK hft)]
 unfold nsS
 rw[if_pos hk]
 unfold stpN psN Nd.live rdN
 have h1:((fr:Int)+1).toNat=fr+1:=by omega
 dsimp only
 rw[h1,Nat.add_sub_cancel]
 rcases hft with ⟨rfl,h2,h3⟩|⟨rfl,h3⟩
 ·simp
 ·simp
theorem q8P (sa:Option Addr)(sc:Nat)(l:List SR)(wi:Int)(fr td:Nat)(w:World)(h:StsAt w sa l)(hp:(pcR ⟨stgs l,wi⟩).2=0)(hT:TbE w)(hok: ∀r∈l,r.s.ok)(hsc:l.length<=sc)(hft:(td=fr/\mnAt (stgs l) fr=true/\fr<l.length)\/(td=fr+1/\td<l.length)):
  Calls Tryz.prog 86 #[.agg #[.slice sa l.length sc, .int .i64 wi], .int .i64 (fr:Int), .int .i64 (td:Int)] w fun e w'=> ∃a c bs,e= .returned (.agg #[.int .i64 (fr:Int), .int .i64 (td:Int), .bool (stay (hwAt (stgs l) td) true), .bool (stay (hwAt (stgs l) td) false), .slice a bs.length c])/\AbS w fr (.slice a bs.length c) bs (fun i=> ∃t,td<=t/\t<l.length/\i∈asT (stgs l) t) 2000 w':=by
 have h8:l.length<=8:=by have:=(q16 hp).2.1;rw[show (⟨stgs l,wi⟩:Ptn).ss.length=l.length from q02 l]at this;exact this
 have htl:td<l.length:=by omega
 have hft':(td=fr/\mnAt (⟨stgs l,wi⟩:Ptn).ss fr=true/\fr<(⟨stgs l,wi⟩:Ptn).ss.length)\/(td=fr+1/\td<(⟨stgs l,wi⟩:Ptn).ss.length):=by rw[show (⟨stgs l,wi⟩:Ptn).ss.length=l.length from q02 l];exact hft
 have hH:=q6p hp hft' true
 have hE:=q6p hp hft' false
 rw[Bool.true_and,Bool.true_and]at hH
 rw[Bool.false_and,Bool.false_and]at hE
 have hfit: ∀r∈l, ∀q∈r.s.cd,q.fit:=fun r hr q hq=>((hok r hr).2.2 q hq).2.2.2.1
 have ST1:=hZq (fun W (hk:Kp [] w W)=>q53 sa sc l wi (rdN fr td) (rdN fr td).lp (rdN fr td).tk W (h.kp hk) (hT.kp hk (by simp)) hok (by omega))
 have ST2:=hZq (fun W (hk:Kp [] w W)=>q53 sa sc l wi (rdN fr td) false false W (h.kp hk) (hT.kp hk (by simp)) hok (by omega))
 have AB0:=hZq (fun W (hk:Kp [] w W)=>q40 sa sc l wi fr td W (h.kp hk) hp (hT.kp hk (by simp)) hfit hsc htl)
 generalize hs1:nsS ⟨stgs l,wi⟩ (rdN fr td) (rdN fr td).lp (rdN fr td).tk=S1 at *
 generalize hs2:nsS ⟨stgs l,wi⟩ (rdN fr td) false false=S2 at *
 change S1.cw=stay (hwAt (stgs l) td) true at hH
 change S2.cw=stay (hwAt (stgs l) td) false at hE
 rw[<-hH, <-hE]
 generalize nkE ⟨stgs l,wi⟩ (rdN fr td)=KE at *
 clear hs1 hs2 hH hE h hT hok hfit hft' hp
 unfold rdN Nd.c at ST1 ST2
 dsimp only at ST1 ST2
 generalize hbq:decide (fr=td)=BQ at *
 have g1:((fr:Int)==(td:Int))=BQ:=by
  rw[<-hbq]
  by_cases e:fr=td
  ·subst e;simp
  ·rw[zK e];exact beq_eq_false_iff_ne.2 (by omega)
 have g2:((fr:Int) != (td:Int))= !BQ:=by unfold bne;rw[g1]
 have hfr:fr<=8:=by omega
 clear hbq hft htl
 have k1:=Kp.alloc w (.cells #[.slice sa l.length sc, .int .i64 wi] 24)
 have p1:=CBox.new w #[.slice sa l.length sc, .int .i64 wi] 24
 have k2:=Kp.alloc (w.alloc (.cells #[.slice sa l.length sc, .int .i64 wi] 24)) (.cells #[.int .i64 0, .int .i64 0, .bool false, .bool false, .slice none 0 0] 148)
 have z2:=CBox.new (w.alloc (.cells #[.slice sa l.length sc, .int .i64 wi] 24)) #[.int .i64 0, .int .i64 0, .bool false, .bool false, .slice none 0 0] 148
 rw[show (w.alloc (.cells #[.slice sa l.length sc, .int .i64 wi] 24)).heap.size=w.heap.size+1 by simp]at z2
 obtain ⟨Wa,hWa⟩: ∃Wa,Wa=(w.alloc (.cells #[.slice sa l.length sc, .int .i64 wi] 24)).alloc (.cells #[.int .i64 0, .int .i64 0, .bool false, .bool false, .slice none 0 0] 148):=⟨_,rfl⟩
 have HSA:Hid (Kp [] w Wa/\CBox w.heap.size #[.slice sa l.length sc, .int .i64 wi] 24 Wa/\CBox (w.heap.size+1) #[.int .i64 0, .int .i64 0, .bool false, .bool false, .slice none 0 0] 148 Wa/\Wa.heap.size=w.heap.size+2):=by rw[hWa];exact hZq ⟨k1.trans k2 (by simp),p1.kp k2 (by simp),z2,by simp⟩
 clear k1 p1 k2 z2
 unfold Sps.c at ST1 ST2
 obtain ⟨kA,pA,zA,sA⟩:=uQ HSA
 have kb:=Kp.alloc Wa (.cells #[.int .i64 ((fr:Int)+1), .bool BQ, .bool (!BQ)] 143)
 have nb:=CBox.new Wa #[.int .i64 ((fr:Int)+1), .bool BQ, .bool (!BQ)] 143
 have HB:Hid (∀W,Kp [] (Wa.alloc (.cells #[.int .i64 ((fr:Int)+1), .bool BQ, .bool (!BQ)] 143)) W->(W.cell? ⟨w.heap.size,0,none⟩=some (.slice sa l.length sc)/\W.cell? ⟨w.heap.size,1,none⟩=some (.int .i64 wi))/\(W.cell? ⟨Wa.heap.size,0,none⟩=some (.int .i64 ((fr:Int)+1))/\W.cell? ⟨Wa.heap.size,1,none⟩=some (.bool BQ)/\W.cell? ⟨Wa.heap.size,2,none⟩=some (.bool (!BQ)))/\Kp [] w W/\CBox (w.heap.size+1) #[.int .i64 0, .int .i64 0, .bool false, .bool false, .slice none 0 0] 148 W):=hZq (fun W hk=>by
  have a1:=(pA.kp kb (by simp)).kp hk (by simp)
  have a2:=nb.kp hk (by simp)
  exact ⟨⟨a1.cell rfl,a1.cell rfl⟩,⟨a2.cell rfl,a2.cell rfl,a2.cell rfl⟩,(kA.trans kb (by simp)).trans hk (by simp),(zA.kp kb (by simp)).kp hk (by simp)⟩)
 have hfw:IntKind.i64.wrap ((fr:Int)+1)=(fr:Int)+1:=by simp only[IntKind.wrap_i64];omega
 obtain ⟨⟨b1,b2⟩,⟨b3,b4,b5⟩,kwb, -⟩:=uQ HB _ (Kp.refl _ _)
 have S1C:=hZq (uQ ST1 _ kwb)
 clear HSA kA pA zA kb nb kwb ST1
 generalize l.length=n at *
 have hsz1:w.heap.size+1<Wa.heap.size:=by omega
 clear sA
 go_enter Tryz.func86,Tryz.ntmps86
 go_upto_region 1 with fail
 rw[<-hWa]
 clear hWa
 go_wp2_with fail
 refine (uQ S1C).mono ?_
 rintro e w3 ⟨rfl,hk3⟩
 have HK3:=hZq hk3
 obtain ⟨S1l,S1t,S1w,s1a,s1b,s1c⟩:=S1
 obtain ⟨x1,x2,x3⟩:=S1l
 obtain ⟨x4,x5,x6⟩:=S1t
 obtain ⟨x7,x8,x9⟩:=S1w
 dsimp only
 clear S1C b1 b2 b3 b4 b5 hk3
 have kc:=Kp.alloc w3 (.cells #[.int .i64 x1, .bool x2, .bool x3, .int .i64 x4, .bool x5, .bool x6, .int .i64 x7, .bool x8, .bool x9, .bool s1a, .bool s1b, .bool s1c] 187)
 have cc:=CBox.new w3 #[.int .i64 x1, .bool x2, .bool x3, .int .i64 x4, .bool x5, .bool x6, .int .i64 x7, .bool x8, .bool x9, .bool s1a, .bool s1b, .bool s1c] 187
 obtain ⟨⟨b1,b2⟩,⟨b3,b4,b5⟩,kwc, -⟩:=uQ HB _ ((uQ HK3).trans kc (by simp))
 have S2C:=hZq (uQ ST2 _ kwc)
 have HKC:=hZq ((uQ HK3).trans kc (by simp))
 have HCC:=hZq cc
 have hsz3:Wa.heap.size<w3.heap.size:=by have:=(uQ HK3).size;simp at this;omega
 clear HK3 kc cc kwc ST2
 go_wp2_with fail
 refine (uQ S2C).mono ?_
 rintro e w4 ⟨rfl,hk4⟩
 obtain ⟨S2l,S2t,S2w,s2a,s2b,s2c⟩:=S2
 obtain ⟨y1,y2,y3⟩:=S2l
 obtain ⟨y4,y5,y6⟩:=S2t
 obtain ⟨y7,y8,y9⟩:=S2w
 dsimp only
 have hsz4:w3.heap.size<w4.heap.size:=by have:=hk4.size;simp at this;omega
 obtain ⟨V,hV⟩: ∃V,V=(w4.alloc (.cells #[.int .i64 y1, .bool y2, .bool y3, .int .i64 y4, .bool y5, .bool y6, .int .i64 y7, .bool y8, .bool y9, .bool s2a, .bool s2b, .bool s2c] 187)).drew:=⟨_,rfl⟩
 have kV:Kp [] w4 V:=by rw[hV];exact (Kp.alloc _ _).trans (Kp.drew _) (by simp)
 have cV:CBox w4.heap.size #[.int .i64 y1, .bool y2, .bool y3, .int .i64 y4, .bool y5, .bool y6, .int .i64 y7, .bool y8, .bool y9, .bool s2a, .bool s2b, .bool s2c] 187 V:=by rw[hV];exact (CBox.new w4 _ _).kp (Kp.drew _) (by simp)
 have HS5:Hid (∀W,Kp [] V W->W.cell? ⟨w3.heap.size,11,none⟩=some (.bool s1c)/\W.cell? ⟨w4.heap.size,11,none⟩=some (.bool s2c)/\W.cell? ⟨w.heap.size,0,none⟩=some (.slice sa n sc)/\W.cell? ⟨w.heap.size,1,none⟩=some (.int .i64 wi)):=hZq (fun W hk=>by
  have q1:=((uQ HCC).kp hk4 (by simp)).kp (kV.trans hk (by simp)) (by simp)
  have q2:=cV.kp hk (by simp)
  obtain ⟨q3,_⟩:=uQ HB W ((uQ HKC).trans (hk4.trans (kV.trans hk (by simp)) (by simp)) (by simp))
  exact ⟨q1.cell rfl,q2.cell rfl,q3.1,q3.2⟩)
 have HZ5:Hid (∀W,Kp [] V W->CBox (w.heap.size+1) #[.int .i64 0, .int .i64 0, .bool false, .bool false, .slice none 0 0] 148 W):=hZq (fun W hk=>(uQ HB W ((uQ HKC).trans (hk4.trans (kV.trans hk (by simp)) (by simp)) (by simp))).2.2.2)
 have kwV:=(uQ HB V ((uQ HKC).trans (hk4.trans kV (by simp)) (by simp))).2.2.1
 have AB:=hZq (uQ AB0 V kwV)
 have HWV:=hZq kwV
 have b0:=uQ HS5 V (Kp.refl _ _)
 clear S2C hk4 kV cV HB HKC HCC kwV AB0 b1 b2 b3 b4 b5
 go_upto_region 4 with fail
 refine q0m (fun W=>W.cell? ⟨w3.heap.size,11,none⟩=some (.bool s1c)/\W.cell? ⟨w4.heap.size,11,none⟩=some (.bool s2c)/\W.cell? ⟨w.heap.size,0,none⟩=some (.slice sa n sc)/\W.cell? ⟨w.heap.size,1,none⟩=some (.int .i64 wi)) 11 (by kernel_rfl) ?_
 rw[<-hV]
 clear hV
 show q0a _ _ _ _ _ _ 12 (Array.replicate 12 false) _ _
 refine zzL (i:=0) (v:=?_) rfl (Or.inl ⟨by rfl,?_⟩) b0 ?_
 rotate_left
 ·intro w0 s9;(try dsimp only at s9);go_simp;(try with_reducible rfl)
 try simp only[Act.put,zz1,zz2,zz3]
 refine zzL (i:=1) (v:=?_) rfl (Or.inl ⟨by rfl,?_⟩) b0 ?_
 rotate_left
 ·intro w0 s9;(try dsimp only at s9);go_simp;(try with_reducible rfl)
 try simp only[Act.put,zz1,zz2,zz3]
 refine zzL (i:=2) (v:=?_) rfl (Or.inl ⟨by rfl,?_⟩) b0 ?_
 rotate_left
 ·intro w0 s9;(try dsimp only at s9);go_simp;(try with_reducible rfl)
 try simp only[Act.put,zz1,zz2,zz3]
 refine zzL (i:=3) (v:=?_) rfl (Or.inl ⟨by rfl,?_⟩) b0 ?_
 rotate_left
 ·intro w0 s9;(try dsimp only at s9);go_simp;(try with_reducible rfl)
 try simp only[Act.put,zz1,zz2,zz3]
 refine zzL (i:=4) (v:=?_) rfl (Or.inl ⟨by rfl,?_⟩) b0 ?_
 rotate_left
 ·intro w0 s9;(try dsimp only at s9);go_simp;(try with_reducible rfl)
 try simp only[Act.put,zz1,zz2,zz3]
 refine zzL (i:=5) (v:=?_) rfl (Or.inl ⟨by rfl,?_⟩) b0 ?_
 rotate_left
 ·intro w0 s9;(try dsimp only at s9);go_simp;(try with_reducible rfl)
 try simp only[Act.put,zz1,zz2,zz3]
 refine zzL (i:=6) (v:=?_) rfl (Or.inl ⟨by rfl,?_⟩) b0 ?_
 rotate_left
 ·intro w0 s9;(try dsimp only at s9);go_simp;(try with_reducible rfl)
 try simp only[Act.put,zz1,zz2,zz3]
 refine zzL (i:=7) (v:=?_) rfl (Or.inl ⟨by rfl,?_⟩) b0 ?_
 rotate_left
 ·intro w0 s9;(try dsimp only at s9);go_simp;(try with_reducible rfl)
 try simp only[Act.put,zz1,zz2,zz3]
 refine zzL (i:=8) (v:=?_) rfl (Or.inl ⟨by rfl,?_⟩) b0 ?_
 rotate_left
 ·intro w0 s9;(try dsimp only at s9);go_simp;(try with_reducible rfl)
 try simp only[Act.put,zz1,zz2,zz3]
 refine q01 (i:=9) rfl (by kernel_rfl) (fun K hK=>?_)
 go_simp
 refine (uQ AB).mono ?_
 rintro e w5 ⟨va,bs,rfl,hA5⟩
 obtain ⟨aa,ac,rfl⟩: ∃a c,va= .slice a bs.length c:=by
  obtain ⟨a,c,e,_⟩:=hA5.row.at
  rw[zI]at e
  exact ⟨a,c,e⟩
 have b5:=uQ HS5 w5 hA5.kp
 have hz5:=(uQ HZ5 w5 hA5.kp)
 have y0:=hz5.cell (i:=0) (v:= .int .i64 0) rfl
 have y1:=hz5.cell (i:=1) (v:= .int .i64 0) rfl
 have y2:=hz5.cell (i:=2) (v:= .bool false) rfl
 have y3:=hz5.cell (i:=3) (v:= .bool false) rfl
 have y4:=hz5.cell (i:=4) (v:= .slice none 0 0) rfl
 have f0:=hz5.froz 0
 have f1:=hz5.froz 1
 have f2:=hz5.froz 2
 have f3:=hz5.froz 3
 have f4:=hz5.froz 4
 refine hK _ _ (Or.inr b5) ?_
 clear hK K
 try simp only[Act.put,zz1,zz2,zz3]
 refine zzL (i:=10) (v:=?_) rfl (Or.inl ⟨by rfl,?_⟩) b5 ?_
 rotate_left
 ·intro w0 s9;(try dsimp only at s9);go_simp;(try with_reducible rfl)
 try simp only[Act.put,zz1,zz2,zz3]
 refine q01 (i:=11) rfl (by kernel_rfl) (fun K hK=>?_)
 go_simp
 refine hK _ _ (Or.inl rfl) ?_
 clear hK K
 try simp only[Act.put,zz1,zz2,zz3]
 refine q0c (by kernel_rfl) ?_ _
 have hz6:CBox (w.heap.size+1) #[.int .i64 (fr:Int), .int .i64 (td:Int), .bool s1c, .bool s2c, .slice aa bs.length ac] 148 (((((w5.setCell ⟨w.heap.size+1,0,none⟩ (.int .i64 (fr:Int))).setCell ⟨w.heap.size+1,1,none⟩ (.int .i64 (td:Int))).setCell ⟨w.heap.size+1,2,none⟩ (.bool s1c)).setCell ⟨w.heap.size+1,3,none⟩ (.bool s2c)).setCell ⟨w.heap.size+1,4,none⟩ (.slice aa bs.length ac)):=((((hz5.set 0 (.int .i64 (fr:Int))).set 1 (.int .i64 (td:Int))).set 2 (.bool s1c)).set 3 (.bool s2c)).set 4 (.slice aa bs.length ac)
 have k6:Kp [w.heap.size+1] w5 (((((w5.setCell ⟨w.heap.size+1,0,none⟩ (.int .i64 (fr:Int))).setCell ⟨w.heap.size+1,1,none⟩ (.int .i64 (td:Int))).setCell ⟨w.heap.size+1,2,none⟩ (.bool s1c)).setCell ⟨w.heap.size+1,3,none⟩ (.bool s2c)).setCell ⟨w.heap.size+1,4,none⟩ (.slice aa bs.length ac)):=((((Kp.set _ _ _ _).trans (Kp.set _ _ _ _) (by simp)).trans (Kp.set _ _ _ _) (by simp)).trans (Kp.set _ _ _ _) (by simp)).trans (Kp.set _ _ _ _) (by simp)
 have hwV:=(uQ HWV).size
 have HFIN:Hid (AbS w fr (.slice aa bs.length ac) bs (fun i=> ∃t,td<=t/\t<n/\i∈asT (stgs l) t) 2000 (((((w5.setCell ⟨w.heap.size+1,0,none⟩ (.int .i64 (fr:Int))).setCell ⟨w.heap.size+1,1,none⟩ (.int .i64 (td:Int))).setCell ⟨w.heap.size+1,2,none⟩ (.bool s1c)).setCell ⟨w.heap.size+1,3,none⟩ (.bool s2c)).setCell ⟨w.heap.size+1,4,none⟩ (.slice aa bs.length ac))):=by
  refine hZq ⟨hA5.row.kp k6 (fun b hb hm=>?_),fun b hb=>Nat.le_trans hwV (hA5.nw b hb),hA5.lt,hA5.al,hA5.ln,((uQ HWV).trans hA5.kp (by simp)).trans k6 (by simp)⟩
  rw[zD]at hm
  subst hm
  exact q0d hA5.row hz5 (by decide) hb
 have HZ6:=hZq hz6
 clear hA5 hz5 k6 b5 HZ5 HS5 AB HWV hz6
 go_wp2
 refine bodyPost_ret (v:= .agg #[.int .i64 (fr:Int), .int .i64 (td:Int), .bool s1c, .bool s2c, .slice aa bs.length ac]) ?_ rfl ⟨_,_,bs,rfl,uQ HFIN⟩
 exact results_cell_row (p:=6) (ty:=148) rfl _ _ (w.heap.size+1) 148 _ (0,0) _ rfl (uQ HZ6) Tryz.underlying148 rfl rfl
structure RdC where
 fr:Nat
 td:Nat
 oh:Bool
 oe:Bool
 a:Option Addr
 c:Nat
 bs:List Nat
def RdC.v (x:RdC):Value:= .slice x.a x.bs.length x.c
def RdC.l (x:RdC):List Value:=[.int .i64 (x.fr:Int), .int .i64 (x.td:Int), .bool x.oh, .bool x.oe,x.v]
theorem q9F:(Tryz.prog.info? 148).map (fun i=>(i.zero,i.size,i.bytes))=some (some (.agg #[.int .i64 0, .int .i64 0, .bool false, .bool false, .slice none 0 0]),5,48):=by kernel_rfl
theorem q8v:(Tryz.prog.info? 146).map (fun i=>(i.zero,i.size,i.bytes))=some (some (.slice none 0 0),1,24):=by kernel_rfl
structure RoS (w:World)(B:Nat)(rs:List Value)(R:List (List RdC))(wr:World):Prop where
 row:CBox B rs.toArray 146 wr
 len:rs.length=R.length
 ins: ∀(i:Nat) (v:Value) (r:List RdC),rs[i]?=some v->R[i]?=some r->wr.ownsRow 0 148 5 v r.length (r.flatMap RdC.l)
 nd: ∀(i j:Nat) (a b:Value) (k:Nat),rs[i]?=some a->rs[j]?=some b->a.ownBlock=some k->b.ownBlock=some k->i=j
 az: ∀r∈R, ∀x∈r,IRo wr x.v (x.bs.map Int.ofNat)
 nw:(∀v∈rs, ∀b,v.ownBlock=some b->B<=b)/\(∀r∈R, ∀x∈r, ∀b,x.v.ownBlock=some b->B<=b)
 kp:Kp [] w wr
 lo:w.heap.size<=B
theorem RoS.go {w wr w':World}{B:Nat}{rs:List Value}{R:List (List RdC)}(h:RoS w B rs R wr)(hk:Kp [] wr w'):RoS w B rs R w':=
 ⟨h.row.kp hk (by simp),h.len,fun i v r hv hr=>q03 (h.ins i v r hv hr) hk (by simp),h.nd,fun r hr x hx=>(h.az r hr x hx).kp hk (by simp),h.nw,h.kp.trans hk (by simp),h.lo⟩
theorem qbD (n:Nat)(hn:n<=100000)(W:World):(Instr.makeSlice 107 (.int .i64 (n:Int)) (.int .i64 (n:Int))).run Tryz.prog W= .ok (.slice (some ⟨W.heap.size,0,none⟩) n n) (W.alloc (.cells (List.replicate n (Value.slice none 0 0)).toArray 146)):=by
 obtain ⟨i0,hi,hz0,hz1,hz2⟩:=info_parts q8v
 have h:=run_make (P:=Tryz.prog) W 107 146 i0 (.slice none 0 0) Tryz.underlying107 hi hz0 .i64 .i64 (n:Int) (n:Int) (by omega) (by omega) (by rw[hz2];omega) (by omega)
 rw[hz1]at h
 simp only[Int.toNat_natCast,Nat.mul_one]at h
 rw[h]
 have e:madeCells (Value.slice none 0 0).cells n=(List.replicate n (Value.slice none 0 0)).toArray:=by
  apply Array.ext'
  exact toList_madeCells_one (Value.slice none 0 0) n
 rw[e]
theorem RoS.new (w:World)(n:Nat):RoS w w.heap.size (List.replicate n (Value.slice none 0 0)) (List.replicate n []) (w.alloc (.cells (List.replicate n (Value.slice none 0 0)).toArray 146)):=by
 have hm: ∀v∈List.replicate n (Value.slice none 0 0),v= .slice none 0 0:=fun v hv=>List.eq_of_mem_replicate hv
 refine ⟨CBox.new w _ _,by simp,fun i v r hv hr=>?_,fun i j a b k ha hb hka=>?_,fun r hr x hx=>?_,⟨fun v hv b hb=>?_,fun r hr x hx=>?_⟩,Kp.alloc _ _,zM _⟩
 ·have e1:=hm v (List.mem_of_getElem? hv)
  have e2:=List.eq_of_mem_replicate (List.mem_of_getElem? hr)
  subst e1 e2
  exact World.ownsRow_nil _ _ _ _
 ·have e1:=hm a (List.mem_of_getElem? ha)
  subst e1
  cases hka
 ·have e2:=List.eq_of_mem_replicate hr
  subst e2
  cases hx
 ·have e1:=hm v hv
  subst e1
  cases hb
 ·have e2:=List.eq_of_mem_replicate hr
  subst e2
  cases hx
theorem RoS.push {w wr:World}{B:Nat}{rs:List Value}{R:List (List RdC)}(h:RoS w B rs R wr){i:Nat}{v:Value}{r:List RdC}(hv:rs[i]?=some v)(hr:R[i]?=some r)(x:RdC)(hx:IRo wr x.v (x.bs.map Int.ofNat))(hxb: ∀b,x.v.ownBlock=some b->B<=b){g c:Nat}(hz:CBox g x.l.toArray 148 wr)(hl:r.length<=1000)(ty:TypeId):
  ∃g' cap w',(Builtin.append_ #[146,146] ty #[v, .slice (some ⟨g,0,none⟩) 1 c]).run Tryz.prog wr= .ok (.slice (some ⟨g',0,none⟩) (r.length+1) cap) w'/\CBox B rs.toArray 146 w'/\Kp v.ownBlock.toList wr w'/\
   RoS w B (rs.set i (.slice (some ⟨g',0,none⟩) (r.length+1) cap)) (R.set i (r++[x])) (w'.setCell ⟨B,i,none⟩ (.slice (some ⟨g',0,none⟩) (r.length+1) cap)):=by
 obtain ⟨i0,hi,hz0,hz1,hz2⟩:=info_parts q9F
 have hown:=h.ins i v r hv hr
 obtain ⟨g',cap,w',hrun,r1,r2,r3,_⟩:=run_append_lies (P:=Tryz.prog) (w:=wr) 146 ty 0 148 i0 _ 5 48 Tryz.underlying146 hi hz0 hz1 hz2 rfl (by decide) v r.length (r.flatMap RdC.l) hown ⟨g,0,none⟩ 1 c x.l rfl (fun j u hj=>by
  rw[Go.WideShapes.add_plain,Nat.zero_add]
  exact hz.cell (by simpa using hj)) (fun u hu=>by
   unfold RdC.l RdC.v at hu
   simp only[zH,List.not_mem_nil,or_false]at hu
   rcases hu with rfl|rfl|rfl|rfl|rfl <;> rfl) (by omega) (by unfold maxLen;omega) (by omega) (Nat.zero_le _) _ rfl
 have hkv:=Kp.of r2
 have hiv:i<rs.length:=(zC.1 hv).1
 have hiR:i<R.length:=(zC.1 hr).1
 have hlt:B<wr.heap.size:=(zB.1 h.row).1
 have hBv:B∉v.ownBlock.toList:=fun hm=>q0d hown h.row (by decide) (by simpa using hm)
 have hb1:=h.row.kp hkv hBv
 have hks:=Kp.set w' B i (.slice (some ⟨g',0,none⟩) (r.length+1) cap)
 have hgB:B<=g':=r3.elim (fun e=>h.nw.1 v (List.mem_of_getElem? hv) g' e) (fun e=>by omega)
 have rowk: ∀{u:Value} {q:List RdC},w'.ownsRow 0 148 5 u q.length (q.flatMap RdC.l)->(w'.setCell ⟨B,i,none⟩ (.slice (some ⟨g',0,none⟩) (r.length+1) cap)).ownsRow 0 148 5 u q.length (q.flatMap RdC.l):=fun hu=>q03 hu hks (fun b hb hm=>by
  rw[zD]at hm
  subst hm
  exact q0d hu hb1 (by decide) hb)
 have irok: ∀{u:Value} {p:List Int},IRo wr u p->IRo (w'.setCell ⟨B,i,none⟩ (.slice (some ⟨g',0,none⟩) (r.length+1) cap)) u p:=fun hu=>(hu.kp hkv (fun b hb hm=>q2B hu hown (by decide) b hb hm)).kpT hks (q4G hb1 (by decide))
 refine ⟨g',cap,w',hrun,hb1,hkv,⟨?_,by rw[List.length_set,List.length_set,h.len],fun j u q hu hq=>?_,fun a b y z k hy hz2 hky hkz=>?_,fun q hq y hy=>?_,⟨fun u hu b hb=>?_,fun q hq y hy b hb=>?_⟩,(h.kp.trans hkv (fun y hy=>Or.inr ?_)).trans hks (fun y hy=>Or.inr ?_),h.lo⟩⟩
 ·have:=hb1.set i (.slice (some ⟨g',0,none⟩) (r.length+1) cap)
  rw[List.setIfInBounds_toArray]at this
  exact this
 ·rw[List.getElem?_set]at hu hq
  by_cases e:i=j
  ·subst e
   rw[if_pos rfl,if_pos hiv]at hu
   rw[if_pos rfl,if_pos hiR]at hq
   cases hu
   cases hq
   refine rowk (q:=r++[x]) ?_
   rw[zF,List.flatMap_append]
   simpa using r1
  ·rw[if_neg e]at hu hq
   exact rowk (q03 (h.ins j u q hu hq) hkv (fun b hb hm=>e (h.nd i j v u b hv hu (by simpa using hm) hb)))
 ·have key: ∀(j:Nat) (u:Value),j≠i->rs[j]?=some u->u.ownBlock=some g'->False:=fun j u hj hu hug=>by
   rcases r3 with r3|r3
   ·exact hj (h.nd j i u v g' hu hv hug r3)
   ·have h1:=World.ownsRow.lt (h.ins j u _ hu (zE (by rw[<-h.len];exact (zC.1 hu).1))) g' hug
    omega
  rw[List.getElem?_set]at hy hz2
  by_cases ea:i=a
  ·by_cases eb:i=b
   ·omega
   ·rw[if_neg eb]at hz2
    rw[if_pos ea,if_pos hiv]at hy
    cases hy
    simp only[Value.ownBlock,Option.some.injEq]at hky
    subst hky
    exact (key b z (fun e=>eb e.symm) hz2 hkz).elim
  ·rw[if_neg ea]at hy
   by_cases eb:i=b
   ·rw[if_pos eb,if_pos hiv]at hz2
    cases hz2
    simp only[Value.ownBlock,Option.some.injEq]at hkz
    subst hkz
    exact (key a y (fun e=>ea e.symm) hy hky).elim
   ·rw[if_neg eb]at hz2
    exact h.nd a b y z k hy hz2 hky hkz
 ·rcases List.mem_or_eq_of_mem_set hq with hq|rfl
  ·exact irok (h.az q hq y hy)
  ·rw[zG,zD]at hy
   rcases hy with hy|rfl
   ·exact irok (h.az r (List.mem_of_getElem? hr) y hy)
   ·exact irok hx
 ·rcases List.mem_or_eq_of_mem_set hu with hu|rfl
  ·exact h.nw.1 u hu b hb
  ·simp only[Value.ownBlock,Option.some.injEq]at hb
   omega
 ·rcases List.mem_or_eq_of_mem_set hq with hq|rfl
  ·exact h.nw.2 q hq y hy b hb
  ·rw[zG,zD]at hy
   rcases hy with hy|rfl
   ·exact h.nw.2 r (List.mem_of_getElem? hr) y hy b hb
   ·exact hxb b hb
 ·have h1:=h.nw.1 v (List.mem_of_getElem? hv) y (by simpa using hy)
  have:=h.lo
  omega
 ·rw[zD]at hy
  rw[hy]
  exact h.lo
end Go.Proofs.YtfgkikeeadlcfaaGreatDoor
