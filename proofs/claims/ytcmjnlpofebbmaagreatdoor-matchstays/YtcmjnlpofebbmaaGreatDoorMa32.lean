/-
  Walks and plain facts, made small.
-/
import Derived.Test.YtcmjnlpofebbmaaGreatDoorMa31
set_option maxRecDepth 100000
set_option maxHeartbeats 8000000
set_option linter.unusedSimpArgs false
namespace Go.Proofs.YtcmjnlpofebbmaaGreatDoor
open Go.RowKit Go.Shelf
theorem qee (a:Addr)(n cl t:Nat)(h:t<=n)(hc:n<=cl)(W:World):(Instr.slice 35 (.slice (some a) n cl) none (some (.int .i64 (t:Int))) none).run Tryz.prog W= .ok (.slice (some a) t cl) W:=by
 have h3:(t:Int)<=(cl:Int):=by omega
 simp[Instr.slice,Instr.sliceBounds,run_underlying Tryz.underlying35,Tryz.sizeOf38,go_sem,h3]
theorem qed (a:Addr)(n cl t:Nat)(h:t<=n)(hc:n<=cl)(W:World):(Instr.slice 38 (.slice (some a) n cl) none (some (.int .i64 (t:Int))) none).run Tryz.prog W= .ok (.slice (some a) t cl) W:=by
 have h3:(t:Int)<=(cl:Int):=by omega
 simp[Instr.slice,Instr.sliceBounds,run_underlying Tryz.underlying38,Tryz.sizeOf3,go_sem,h3]
theorem qa (k:HK)(hI:HkI k)(w:World)(A:List (List Nat))(l:List Nat)(q:Nat)(pv lv:Value)(vs:List Value)(h:HkS k w (A++[l++[q]]) (hkL k (A++[l++[q]])) pv lv vs)(hA8:A.length<8)(hlb:l.length<=4096)(hbd: ∀x∈l,x<k.es.length):
  Calls Tryz.prog 82 #[.pointer (some ⟨k.gt,0,none⟩)] w fun e w'=>(∃v,e= .returned v)/\ ∃pv' lv' vs',HkN k w (hkF k pv lv vs) (if l=[] then A else A++[l]) (hkL k (if l=[] then A else A++[l])) pv' lv' vs' w':=by
 obtain ⟨gp,cp,rfl,hcp⟩: ∃g cap,pv= .slice (some ⟨g,0,none⟩) (A.length+1) cap/\A.length+1<=cap:=by
  rcases h.pl.form with ⟨_,e⟩|⟨g,cap,e,hc,_⟩
  ·simp at e
  ·rw[List.length_append]at e hc
   exact ⟨g,cap,e,hc⟩
 have hTl:(A++[l++[q]])[A.length]?=some (l++[q]):=by simp
 obtain ⟨u,hu,hiu⟩:=h.pl.at hTl
 obtain ⟨gu,cu,hue,hcu,_,_⟩:=q2H hiu (by simp)
 rw[List.length_append,List.length_singleton]at hue hcu
 subst hue
 obtain ⟨gl,cl,hlv,hcl,_⟩:=h.la.form (by rw[q0B];simp)
 rw[q0B,List.length_append,List.length_singleton]at hlv hcl
 subst hlv
 have hLk:hkL k (A++[l++[q]])=hkL k A++[k.es.getD q evZ]:=by rw[q1X,Mt.lst_snoc]
 obtain ⟨V,hV⟩: ∃V,V=w.drew:=⟨_,rfl⟩
 have hkV:Kp [] w V:=by rw[hV];exact Kp.drew w
 have hs:=h.al hkV
 have c4:w.cell? ⟨k.gt,4,none⟩=some (.slice (some ⟨gp,0,none⟩) (A.length+1) cp):=h.box.cell rfl
 have cS0:V.cell? ⟨k.gt,4,none⟩=some (.slice (some ⟨gp,0,none⟩) (A.length+1) cp)/\V.cell? ⟨gp,A.length,none⟩=some (.slice (some ⟨gu,0,none⟩) (l.length+1) cu):=⟨hs.box.cell rfl,hs.pl.cell hu⟩
 have cS:w.drew.cell? ⟨k.gt,4,none⟩=some (.slice (some ⟨gp,0,none⟩) (A.length+1) cp)/\w.drew.cell? ⟨gp,A.length,none⟩=some (.slice (some ⟨gu,0,none⟩) (l.length+1) cu):=by rw[<-hV];exact cS0
 clear cS0
 have r1:=qed ⟨gu,0,none⟩ (l.length+1) cu l.length (by omega) hcu
 have gn:(A.length:Int)<(A.length:Int)+1:=by omega
 by_cases h0:l=[]
 ·rw[if_pos h0]
  subst h0
  obtain ⟨V3,hV3⟩: ∃V3,V3=V.drew:=⟨_,rfl⟩
  have hk3:Kp [] V V3:=by rw[hV3];exact Kp.drew V
  have h3:=hs.al hk3
  rw[hLk]at h3
  have hlA:(hkL k A).length=A.length:=q0B k A
  have hp:=HkS.popB hI (by rw[hlA];exact h3)
  rw[hlA]at hp
  have hfin:HkN k w (hkF k (.slice (some ⟨gp,0,none⟩) (A.length+1) cp) (.slice (some ⟨gl,0,none⟩) (A.length+1) cl) vs) A (hkL k A) _ _ _ _:=HkN.trans (F:=hkF k (.slice (some ⟨gp,0,none⟩) (A.length+1) cp) (.slice (some ⟨gl,0,none⟩) (A.length+1) cl) vs) ⟨h3,(hkV.trans hk3 (by simp)).mono (by simp),fun x hx=>Or.inl hx⟩ hp
  have HFIN:=hZq hfin
  have a0:V3.cell? ⟨k.gt,4,none⟩=some (.slice (some ⟨gp,0,none⟩) (A.length+1) cp)/\V3.cell? ⟨k.gt,5,none⟩=some (.slice (some ⟨gl,0,none⟩) (A.length+1) cl):=⟨h3.box.cell rfl,h3.box.cell rfl⟩
  have f4:=h3.box.froz 4
  have bx4:=h3.box.set 4 (.slice (some ⟨gp,0,none⟩) A.length cp)
  have d5:(V3.setCell ⟨k.gt,4,none⟩ (.slice (some ⟨gp,0,none⟩) A.length cp)).cell? ⟨k.gt,5,none⟩=some (.slice (some ⟨gl,0,none⟩) (A.length+1) cl):=bx4.cell rfl
  have f5:=bx4.froz 5
  obtain ⟨m,hm⟩: ∃m,m=([]:List Nat).length:=⟨_,rfl⟩
  rw[<-hm]at r1 cS hcu hlb
  have g0:((m:Int)==0)=true:=by rw[hm];rfl
  have hmc:(m:Int)<=(cu:Int):=by omega
  have hm0:(0:Int)<=(m:Int):=by omega
  have hmw:IntKind.i64.wrap (m:Int)=(m:Int):=by simp only[IntKind.wrap_i64];omega
  have hmc2:(0<=(m:Int)/\(m:Int)<=(cu:Int))=True:=by simp;omega
  have g1:IntKind.i64.wrap ((m:Int)+1-1)=(m:Int):=by simp only[IntKind.wrap_i64];omega
  clear hm
  have rP:=qee ⟨gp,0,none⟩ (A.length+1) cp A.length (by omega) hcp
  have rE:=q9T (some ⟨gl,0,none⟩) (A.length+1) cl A.length (by omega) hcl (by simp) (by simp)
  clear hfin hp h3 hs hkV hk3 hlA h hI hLk hiu hu hTl bx4 hbd
  generalize A.length=n at *
  go_enter Tryz.func82,Tryz.ntmps82
  go_wp2_with fail
  go_region_held3 (fun W=>W.cell? ⟨k.gt,4,none⟩=some (.slice (some ⟨gp,0,none⟩) (n+1) cp)/\W.cell? ⟨gp,n,none⟩=some (.slice (some ⟨gu,0,none⟩) (m+1) cu))
   (first|with_reducible exact cS)
   (first|fail)
  rw[<-hV]
  clear hV cS
  go_upto_region 3 with fail
  refine q4n (fun W=>W.cell? ⟨k.gt,4,none⟩=some (.slice (some ⟨gp,0,none⟩) (n+1) cp)/\W.cell? ⟨k.gt,5,none⟩=some (.slice (some ⟨gl,0,none⟩) (n+1) cl)) [16,19] (by kernel_rfl) ?_
  rw[<-hV3]
  clear hV3
  show q0r _ _ _ _ _ _ 20 (Array.replicate 20 false) _ _
  refine zzN (i:=0) (v:=?_) rfl (fun _ _ _ h=>h) (Or.inl ⟨by rfl,?_⟩) (Or.inr a0) ?_
  rotate_left 1
  ·intro w0 hSw;(try dsimp only at hSw);go_simp;(try with_reducible rfl)
  try simp only[Act.put,zz1,zz2,zz3]
  refine zzN (i:=1) (v:=?_) rfl (fun _ _ _ h=>h) (Or.inl ⟨by rfl,?_⟩) (Or.inr a0) ?_
  rotate_left 1
  ·intro w0 hSw;(try dsimp only at hSw);go_simp;(try with_reducible rfl)
  try simp only[Act.put,zz1,zz2,zz3]
  refine zzN (i:=2) (v:=?_) rfl (fun _ _ _ h=>h) (Or.inl ⟨by rfl,?_⟩) (Or.inr a0) ?_
  rotate_left 1
  ·intro w0 hSw;(try dsimp only at hSw);go_simp;(try with_reducible rfl)
  try simp only[Act.put,zz1,zz2,zz3]
  refine zzN (i:=3) (v:=?_) rfl (fun _ _ _ h=>h) (Or.inl ⟨by rfl,?_⟩) (Or.inr a0) ?_
  rotate_left 1
  ·intro w0 hSw;(try dsimp only at hSw);go_simp;(try with_reducible rfl)
  try simp only[Act.put,zz1,zz2,zz3]
  refine zzN (i:=4) (v:=?_) rfl (fun _ _ _ h=>h) (Or.inl ⟨by rfl,?_⟩) (Or.inr a0) ?_
  rotate_left 1
  ·intro w0 hSw;(try dsimp only at hSw);go_simp;(try with_reducible rfl)
  try simp only[Act.put,zz1,zz2,zz3]
  refine zzM (i:=5) (v:=?_) rfl (fun _ _ _ h=>h) (Or.inl ⟨by rfl,?_⟩) a0 ?_
  rotate_left 1
  ·intro w0 hSw;(try dsimp only at hSw);go_simp;(try with_reducible rfl)
  try simp only[Act.put,zz1,zz2,zz3]
  refine zzN (i:=6) (v:=?_) rfl (fun _ _ _ h=>h) (Or.inl ⟨by rfl,?_⟩) (Or.inr a0) ?_
  rotate_left 1
  ·intro w0 hSw;(try dsimp only at hSw);go_simp;(try with_reducible rfl)
  try simp only[Act.put,zz1,zz2,zz3]
  refine zzN (i:=7) (v:=?_) rfl (fun _ _ _ h=>h) (Or.inl ⟨by rfl,?_⟩) (Or.inr a0) ?_
  rotate_left 1
  ·intro w0 hSw;(try dsimp only at hSw);go_simp;(try with_reducible rfl)
  try simp only[Act.put,zz1,zz2,zz3]
  refine zzN (i:=8) (v:=?_) rfl (fun _ _ _ h=>h) (Or.inl ⟨by rfl,?_⟩) (Or.inr a0) ?_
  rotate_left 1
  ·intro w0 hSw;(try dsimp only at hSw);go_simp;(try with_reducible rfl)
  try simp only[Act.put,zz1,zz2,zz3]
  refine zzN (i:=9) (v:=?_) rfl (fun _ _ _ h=>h) (Or.inl ⟨by rfl,?_⟩) (Or.inr a0) ?_
  rotate_left 1
  ·intro w0 hSw;(try dsimp only at hSw);go_simp;(try with_reducible rfl)
  try simp only[Act.put,zz1,zz2,zz3]
  refine zzN (i:=10) (v:=?_) rfl (fun _ _ _ h=>h) (Or.inl ⟨by rfl,?_⟩) (Or.inr a0) ?_
  rotate_left 1
  ·intro w0 hSw;(try dsimp only at hSw);go_simp;(try with_reducible rfl)
  try simp only[Act.put,zz1,zz2,zz3]
  refine zzM (i:=11) (v:=?_) rfl (fun _ _ _ h=>h) (Or.inl ⟨by rfl,?_⟩) a0 ?_
  rotate_left 1
  ·intro w0 hSw;(try dsimp only at hSw);go_simp;(try with_reducible rfl)
  try simp only[Act.put,zz1,zz2,zz3]
  refine zzN (i:=12) (v:=?_) rfl (fun _ _ _ h=>h) (Or.inl ⟨by rfl,?_⟩) (Or.inr a0) ?_
  rotate_left 1
  ·intro w0 hSw;(try dsimp only at hSw);go_simp;(try with_reducible rfl)
  try simp only[Act.put,zz1,zz2,zz3]
  refine zzN (i:=13) (v:=?_) rfl (fun _ _ _ h=>h) (Or.inl ⟨by rfl,?_⟩) (Or.inr a0) ?_
  rotate_left 1
  ·intro w0 hSw;(try dsimp only at hSw);go_simp;(try with_reducible rfl)
  try simp only[Act.put,zz1,zz2,zz3]
  refine zzN (i:=14) (v:=?_) rfl (fun _ _ _ h=>h) (Or.inl ⟨by rfl,?_⟩) (Or.inr a0) ?_
  rotate_left 1
  ·intro w0 hSw;(try dsimp only at hSw);go_simp;(try with_reducible rfl)
  try simp only[Act.put,zz1,zz2,zz3]
  refine zzN (i:=15) (v:=?_) rfl (fun _ _ _ h=>h) (Or.inl ⟨by rfl,?_⟩) (Or.inr a0) ?_
  rotate_left 1
  ·intro w0 hSw;(try dsimp only at hSw);go_simp;(try with_reducible rfl)
  try simp only[Act.put,zz1,zz2,zz3]
  refine q4m (i:=16) rfl (by kernel_rfl) (fun K hK=>?_)
  go_simp
  refine hK _ _ (Or.inl (by rfl)) ?_
  clear hK K
  try simp only[Act.put,zz1,zz2,zz3]
  refine zzN (i:=17) (v:=?_) rfl (fun _ _ _ h=>h) (Or.inl ⟨by rfl,?_⟩) (Or.inl (by rfl)) ?_
  rotate_left 1
  ·intro w0 hSw;(try dsimp only at hSw);go_simp;(try with_reducible rfl)
  try simp only[Act.put,zz1,zz2,zz3]
  refine zzN (i:=18) (v:=?_) rfl (fun _ _ _ h=>h) (Or.inl ⟨by rfl,?_⟩) (Or.inl (by rfl)) ?_
  rotate_left 1
  ·intro w0 hSw;(try dsimp only at hSw);go_simp;(try with_reducible rfl)
  try simp only[Act.put,zz1,zz2,zz3]
  refine q4m (i:=19) rfl (by kernel_rfl) (fun K hK=>?_)
  go_simp
  refine hK _ _ (Or.inl (by rfl)) ?_
  clear hK K
  try simp only[Act.put,zz1,zz2,zz3]
  refine q79 (by kernel_rfl) ?_ _
  go_wp2
  exact bodyPost_ret (results_none rfl _ _ _) rfl ⟨⟨_,rfl⟩,_,_,_,uQ HFIN⟩
 ·rw[if_neg h0]
  have hp:=List.length_pos_iff.2 h0
  have hl1:=HkS.less hI hs hu
  obtain ⟨W4,hW4⟩: ∃W4,W4=V.setCell ⟨gp,A.length,none⟩ (.slice (some ⟨gu,0,none⟩) l.length cu):=⟨_,rfl⟩
  rw[<-hW4]at hl1
  obtain ⟨cz,hcz⟩:=hs.pl.row.block (b:=gp) rfl
  have z4:V.frozen? ⟨gp,A.length,none⟩=false:=CBox.froz (show CBox gp cz 38 V from hcz) _
  have y4:V.cell? ⟨k.gt,4,none⟩=some (.slice (some ⟨gp,0,none⟩) (A.length+1) cp):=hs.box.cell rfl
  have y5:V.cell? ⟨gp,A.length,none⟩=some (.slice (some ⟨gu,0,none⟩) (l.length+1) cu):=hs.pl.cell hu
  obtain ⟨V5,hV5⟩: ∃V5,V5=W4.drew:=⟨_,rfl⟩
  have hk5:Kp [] W4 V5:=by rw[hV5];exact Kp.drew W4
  have hd:=hl1.s.al hk5
  have hlt:Mt.lst l<k.es.length:=by
   refine hbd _ ?_
   unfold Mt.lst
   rw[List.getLastD_eq_getLast?,List.getLast?_eq_some_getLast h0]
   exact List.getLast_mem h0
  obtain ⟨eb,eo,hea,e0,e1,e2,e3,e4,e5,e6⟩:=((hI.ev).kp (hd.kb hI) (by simp)).seven (Mt.lst l) hlt
  have hu5:(vs.set A.length (.slice (some ⟨gu,0,none⟩) l.length cu))[A.length]?=some (.slice (some ⟨gu,0,none⟩) l.length cu):=by
   rw[List.getElem?_set_self (List.getElem?_eq_some_iff.1 hu).1]
  have hi5:=hd.pl.ins.2 A.length _ _ hu5 (q4g (l:=l) (by simp))
  obtain ⟨gu',cu',hue',_,_,hlast⟩:=q2H hi5 h0
  injection hue' with q1 q2 q3
  cases q1
  obtain ⟨m,hm⟩: ∃m,l.length=m+1:=⟨l.length-1,by omega⟩
  rw[hm,Nat.add_sub_cancel]at hlast
  have hel:=hI.el
  have hqi:((Mt.lst l:Nat):Int)<(k.es.length:Int):=by omega
  have b5:V5.cell? ⟨k.gt,5,none⟩=some (.slice (some ⟨gl,0,none⟩) (A.length+1) cl):=hd.box.cell rfl
  have b2:V5.cell? ⟨k.gt,2,none⟩=some (.slice (some ⟨eb,eo,none⟩) k.es.length k.ec):=by rw[<-hea];exact hd.box.cell rfl
  obtain ⟨cur,hcur⟩: ∃cur,CBox gl cur 29 V5:=by
   obtain ⟨_,⟨e,_⟩|⟨g9,c9,cur,e,_,hh,_⟩⟩:=id hd.la
   ·cases e
   ·injection e with e1 _ _
    cases e1
    exact ⟨cur,hh⟩
  have hLl:(hkL k (A++[l++[q]])).length=A.length+1:=by rw[q0B];simp
  have hLc: ∀j,j<7-> ∃v,V5.cell? ⟨gl,A.length * 7+j,none⟩=some v:=fun j hj=>by
   have hlen:A.length * 7+j<((hkL k (A++[l++[q]])).flatMap evW).length:=by rw[q1q,hLl];omega
   have:=World.ownsRow.cells hd.la (g:=gl) rfl (A.length * 7+j) _ (List.getElem?_eq_getElem hlen)
   rw[Go.WideShapes.add_plain,Nat.zero_add]at this
   exact ⟨_,this⟩
  obtain ⟨v0,l0⟩:=hLc 0 (by omega)
  obtain ⟨v1,l1⟩:=hLc 1 (by omega)
  obtain ⟨v2,l2⟩:=hLc 2 (by omega)
  obtain ⟨v3,l3⟩:=hLc 3 (by omega)
  obtain ⟨v4,l4⟩:=hLc 4 (by omega)
  obtain ⟨v5,l5⟩:=hLc 5 (by omega)
  obtain ⟨v6,l6⟩:=hLc 6 (by omega)
  rw[Nat.add_zero]at l0
  have f0:=hcur.froz (A.length * 7)
  have f1:=hcur.froz (A.length * 7+1)
  have f2:=hcur.froz (A.length * 7+2)
  have f3:=hcur.froz (A.length * 7+3)
  have f4:=hcur.froz (A.length * 7+4)
  have f5:=hcur.froz (A.length * 7+5)
  have f6:=hcur.froz (A.length * 7+6)
  have hqe:k.es.getD (Mt.lst l) evZ=k.es[Mt.lst l]:=by rw[List.getD_eq_getElem?_getD,List.getElem?_eq_getElem hlt];rfl
  have hLs:(hkL k (A++[l++[q]])).set A.length k.es[Mt.lst l]=hkL k (A++[l]):=by rw[hLk,q21 _ _ _ _ (q0B k A).symm,q1X,hqe]
  have hN2:=(HkN.trans (F:=hkF k (.slice (some ⟨gp,0,none⟩) (A.length+1) cp) (.slice (some ⟨gl,0,none⟩) (A.length+1) cl) vs) ⟨hs,hkV.mono (by simp),fun x hx=>Or.inl hx⟩ hl1)
  have hfin:=hN2.trans (hl1.s.last hI hk5 A.length (by rw[hLl];omega) k.es[Mt.lst l])
  rw[hLs]at hfin
  have HFIN:=hZq hfin
  rw[hm]at r1 cS hW4 y5 hlb
  have g0:(((m:Int)+1)==0)=false:=beq_eq_false_iff_ne.2 (by omega)
  have hmw:IntKind.i64.wrap ((m:Int)+1)=(m:Int)+1:=by simp only[IntKind.wrap_i64];omega
  have hmw2:IntKind.i64.wrap (m:Int)=(m:Int):=by simp only[IntKind.wrap_i64];omega
  have r1': ∀W,(Instr.slice 38 (.slice (some ⟨gu,0,none⟩) (m+1+1) cu) none (some (.int .i64 ((m:Int)+1))) none).run Tryz.prog W= .ok (.slice (some ⟨gu,0,none⟩) (m+1) cu) W:=r1
  have hmc:(m:Int)+1<=(cu:Int):=by rw[hm]at hcu;omega
  have hm1:(m:Int)<(m:Int)+1:=by omega
  clear hfin hN2 hl1 hs hd hkV hk5 hea hcur hLc hLs hqe hI hiu hu hTl hu5 hi5 h hLk hbd hcz hp h0 hcu r1 hm q2 q3 hLl
  generalize k.es[Mt.lst l]=ev at *
  clear hlt
  obtain ⟨ek,et,n0,n1,n2,n3,ex⟩:=ev
  dsimp only at e0 e1 e2 e3 e4 e5 e6 HFIN
  generalize Mt.lst l=qq at *
  generalize A.length=n at *
  generalize k.es.length=M at *
  have b0:V5.cell? ⟨k.gt,5,none⟩=some (.slice (some ⟨gl,0,none⟩) (n+1) cl)/\V5.cell? ⟨k.gt,2,none⟩=some (.slice (some ⟨eb,eo,none⟩) M k.ec)/\V5.cell? ⟨gu,m,none⟩=some (.int .i64 (qq:Int))/\V5.cell? ⟨eb,eo+qq * 7,none⟩=some (.string ek)/\V5.cell? ⟨eb,eo+qq * 7+1,none⟩=some (.string et)/\V5.cell? ⟨eb,eo+qq * 7+2,none⟩=some (.int .i64 n0)/\V5.cell? ⟨eb,eo+qq * 7+3,none⟩=some (.int .i64 n1)/\V5.cell? ⟨eb,eo+qq * 7+4,none⟩=some (.int .i64 n2)/\V5.cell? ⟨eb,eo+qq * 7+5,none⟩=some (.int .i64 n3)/\V5.cell? ⟨eb,eo+qq * 7+6,none⟩=some (.string ex):=⟨b5,b2,hlast,e0,e1,e2,e3,e4,e5,e6⟩
  go_enter Tryz.func82,Tryz.ntmps82
  go_wp2_with fail
  go_region_held3 (fun W=>W.cell? ⟨k.gt,4,none⟩=some (.slice (some ⟨gp,0,none⟩) (n+1) cp)/\W.cell? ⟨gp,n,none⟩=some (.slice (some ⟨gu,0,none⟩) (m+1+1) cu))
   (first|with_reducible exact cS)
   (first|fail)
  rw[<-hV]
  clear hV cS
  go_upto_region 5 with fail
  rw[<-hW4]
  clear hW4
  refine q0m (fun W=>W.cell? ⟨k.gt,5,none⟩=some (.slice (some ⟨gl,0,none⟩) (n+1) cl)/\W.cell? ⟨k.gt,2,none⟩=some (.slice (some ⟨eb,eo,none⟩) M k.ec)/\W.cell? ⟨gu,m,none⟩=some (.int .i64 (qq:Int))/\W.cell? ⟨eb,eo+qq * 7,none⟩=some (.string ek)/\W.cell? ⟨eb,eo+qq * 7+1,none⟩=some (.string et)/\W.cell? ⟨eb,eo+qq * 7+2,none⟩=some (.int .i64 n0)/\W.cell? ⟨eb,eo+qq * 7+3,none⟩=some (.int .i64 n1)/\W.cell? ⟨eb,eo+qq * 7+4,none⟩=some (.int .i64 n2)/\W.cell? ⟨eb,eo+qq * 7+5,none⟩=some (.int .i64 n3)/\W.cell? ⟨eb,eo+qq * 7+6,none⟩=some (.string ex)) 18 (by kernel_rfl) ?_
  rw[<-hV5]
  clear hV5
  show q0a _ _ _ _ _ _ 19 (Array.replicate 19 false) _ _
  refine zzL (i:=0) (v:=?_) rfl (fun _ _ _ h=>h) (Or.inl ⟨by rfl,?_⟩) b0 ?_
  rotate_left 1
  ·intro w0 hSw;(try dsimp only at hSw);go_simp;(try with_reducible rfl)
  try simp only[Act.put,zz1,zz2,zz3]
  refine zzL (i:=1) (v:=?_) rfl (fun _ _ _ h=>h) (Or.inl ⟨by rfl,?_⟩) b0 ?_
  rotate_left 1
  ·intro w0 hSw;(try dsimp only at hSw);go_simp;(try with_reducible rfl)
  try simp only[Act.put,zz1,zz2,zz3]
  refine zzL (i:=2) (v:=?_) rfl (fun _ _ _ h=>h) (Or.inl ⟨by rfl,?_⟩) b0 ?_
  rotate_left 1
  ·intro w0 hSw;(try dsimp only at hSw);go_simp;(try with_reducible rfl)
  try simp only[Act.put,zz1,zz2,zz3]
  refine zzL (i:=3) (v:=?_) rfl (fun _ _ _ h=>h) (Or.inl ⟨by rfl,?_⟩) b0 ?_
  rotate_left 1
  ·intro w0 hSw;(try dsimp only at hSw);go_simp;(try with_reducible rfl)
  try simp only[Act.put,zz1,zz2,zz3]
  refine zzL (i:=4) (v:=?_) rfl (fun _ _ _ h=>h) (Or.inl ⟨by rfl,?_⟩) b0 ?_
  rotate_left 1
  ·intro w0 hSw;(try dsimp only at hSw);go_simp;(try with_reducible rfl)
  try simp only[Act.put,zz1,zz2,zz3]
  refine zzL (i:=5) (v:=?_) rfl (fun _ _ _ h=>h) (Or.inl ⟨by rfl,?_⟩) b0 ?_
  rotate_left 1
  ·intro w0 hSw;(try dsimp only at hSw);go_simp;(try with_reducible rfl)
  try simp only[Act.put,zz1,zz2,zz3]
  refine zzL (i:=6) (v:=?_) rfl (fun _ _ _ h=>h) (Or.inl ⟨by rfl,?_⟩) b0 ?_
  rotate_left 1
  ·intro w0 hSw;(try dsimp only at hSw);go_simp;(try with_reducible rfl)
  try simp only[Act.put,zz1,zz2,zz3]
  refine zzL (i:=7) (v:=?_) rfl (fun _ _ _ h=>h) (Or.inl ⟨by rfl,?_⟩) b0 ?_
  rotate_left 1
  ·intro w0 hSw;(try dsimp only at hSw);go_simp;(try with_reducible rfl)
  try simp only[Act.put,zz1,zz2,zz3]
  refine zzL (i:=8) (v:=?_) rfl (fun _ _ _ h=>h) (Or.inl ⟨by rfl,?_⟩) b0 ?_
  rotate_left 1
  ·intro w0 hSw;(try dsimp only at hSw);go_simp;(try with_reducible rfl)
  try simp only[Act.put,zz1,zz2,zz3]
  refine zzL (i:=9) (v:=?_) rfl (fun _ _ _ h=>h) (Or.inl ⟨by rfl,?_⟩) b0 ?_
  rotate_left 1
  ·intro w0 hSw;(try dsimp only at hSw);go_simp;(try with_reducible rfl)
  try simp only[Act.put,zz1,zz2,zz3]
  refine zzL (i:=10) (v:=?_) rfl (fun _ _ _ h=>h) (Or.inl ⟨by rfl,?_⟩) b0 ?_
  rotate_left 1
  ·intro w0 hSw;(try dsimp only at hSw);go_simp;(try with_reducible rfl)
  try simp only[Act.put,zz1,zz2,zz3]
  refine zzL (i:=11) (v:=?_) rfl (fun _ _ _ h=>h) (Or.inl ⟨by rfl,?_⟩) b0 ?_
  rotate_left 1
  ·intro w0 hSw;(try dsimp only at hSw);go_simp;(try with_reducible rfl)
  try simp only[Act.put,zz1,zz2,zz3]
  refine zzL (i:=12) (v:=?_) rfl (fun _ _ _ h=>h) (Or.inl ⟨by rfl,?_⟩) b0 ?_
  rotate_left 1
  ·intro w0 hSw;(try dsimp only at hSw);go_simp;(try with_reducible rfl)
  try simp only[Act.put,zz1,zz2,zz3]
  refine zzL (i:=13) (v:=?_) rfl (fun _ _ _ h=>h) (Or.inl ⟨by rfl,?_⟩) b0 ?_
  rotate_left 1
  ·intro w0 hSw;(try dsimp only at hSw);go_simp;(try with_reducible rfl)
  try simp only[Act.put,zz1,zz2,zz3]
  refine zzL (i:=14) (v:=?_) rfl (fun _ _ _ h=>h) (Or.inl ⟨by rfl,?_⟩) b0 ?_
  rotate_left 1
  ·intro w0 hSw;(try dsimp only at hSw);go_simp;(try with_reducible rfl)
  try simp only[Act.put,zz1,zz2,zz3]
  refine zzL (i:=15) (v:=?_) rfl (fun _ _ _ h=>h) (Or.inl ⟨by rfl,?_⟩) b0 ?_
  rotate_left 1
  ·intro w0 hSw;(try dsimp only at hSw);go_simp;(try with_reducible rfl)
  try simp only[Act.put,zz1,zz2,zz3]
  refine zzL (i:=16) (v:=?_) rfl (fun _ _ _ h=>h) (Or.inl ⟨by rfl,?_⟩) b0 ?_
  rotate_left 1
  ·intro w0 hSw;(try dsimp only at hSw);go_simp;(try with_reducible rfl)
  try simp only[Act.put,zz1,zz2,zz3]
  refine zzL (i:=17) (v:=?_) rfl (fun _ _ _ h=>h) (Or.inl ⟨by rfl,?_⟩) b0 ?_
  rotate_left 1
  ·intro w0 hSw;(try dsimp only at hSw);go_simp;(try with_reducible rfl)
  try simp only[Act.put,zz1,zz2,zz3]
  refine q01 (i:=18) rfl (by kernel_rfl) (fun K hK=>?_)
  go_simp
  refine hK _ _ (Or.inl rfl) ?_
  clear hK K
  try simp only[Act.put,zz1,zz2,zz3]
  refine q0c (by kernel_rfl) ?_ _
  go_wp2
  go_end0
  exact ⟨⟨_,rfl⟩,_,_,_,uQ HFIN⟩
open Go.RowKit Go.Shelf
structure Cp where
 g:Nat
 vs:List Value
 T:List (List Nat)
def Cp.v (x:Cp):Value:= .slice (some ⟨x.g,0,none⟩) x.T.length x.T.length
structure CpAt (w:World)(x:Cp):Prop where
 row:CBox x.g x.vs.toArray 38 w
 ins:RowsI w x.vs (Mt.toZ x.T)
def Cp.B (x:Cp):List Nat:=x.g::x.vs.flatMap fun u=>u.ownBlock.toList
theorem CpAt.kp {F:List Nat}{w w':World}{x:Cp}(h:CpAt w x)(hk:Kp F w w')(hF: ∀k∈x.B,k∉F):CpAt w' x:=
 ⟨h.row.kp hk (hF _ (by unfold Cp.B;simp)),h.ins.1,fun i u p hu hp=>(h.ins.2 i u p hu hp).kp hk (fun b hb=>hF b (by
  unfold Cp.B
  rw[List.mem_cons,List.mem_flatMap]
  exact Or.inr ⟨u,List.mem_of_getElem? hu,by rw[hb];simp⟩))⟩
theorem CpAt.lt {w:World}{x:Cp}(h:CpAt w x): ∀k∈x.B,k<w.heap.size:=fun k hk=>by
 unfold Cp.B at hk
 rw[List.mem_cons,List.mem_flatMap]at hk
 rcases hk with rfl|⟨u,hu,hk⟩
 ·exact (Array.getElem?_eq_some_iff.1 h.row).1
 ·exact h.ins.lt hu (by simpa using hk)
theorem qcS (n:Nat)(hn:n<=100000)(W:World):(Instr.makeSlice 35 (.int .i64 (n:Int)) (.int .i64 (n:Int))).run Tryz.prog W= .ok (.slice (some ⟨W.heap.size,0,none⟩) n n) (W.alloc (.cells (List.replicate n (Value.slice none 0 0)).toArray 38)):=by
 obtain ⟨i0,hi,hz0,hz1,hz2⟩:=info_parts q2F
 have h:=run_make (P:=Tryz.prog) W 35 38 i0 (.slice none 0 0) Tryz.underlying35 hi hz0 .i64 .i64 (n:Int) (n:Int) (by omega) (by omega) (by rw[hz2];omega) (by omega)
 rw[hz1]at h
 simp only[Int.toNat_natCast,Nat.mul_one]at h
 rw[h]
 have e:madeCells (Value.slice none 0 0).cells n=(List.replicate n (Value.slice none 0 0)).toArray:=by
  apply Array.ext'
  exact toList_madeCells_one (Value.slice none 0 0) n
 rw[e]
structure CoS (w:World)(T:List (List Nat))(n i:Nat)(ds:List Value)(wr:World):Prop where
 len:ds.length=i
 row:CBox w.heap.size (ds++List.replicate (n-i) (Value.slice none 0 0)).toArray 38 wr
 ins:RowsI wr ds (Mt.toZ (T.take i))
 kp:Kp [] w wr
 nw: ∀u∈ds, ∀b,u.ownBlock=some b->w.heap.size<=b
theorem CoS.next {w wr w1:World}{T:List (List Nat)}{n i:Nat}{ds:List Value}{l:List Nat}{v':Value}(h:CoS w T n i ds wr)(hi:i<n)(hl:T[i]?=some l)(hb:Below wr.heap.size wr w1)(hv:w1.ownsRow wr.heap.size 3 1 v' l.length ((l.map Int.ofNat).map (Value.int .i64))):
  w1.cell? ⟨w.heap.size,i,none⟩=some (.slice none 0 0)/\w1.frozen? ⟨w.heap.size,i,none⟩=false/\CoS w T n (i+1) (ds++[v']) (w1.setCell ⟨w.heap.size,i,none⟩ v'):=by
 have hk:=Kp.ofBelow hb
 have hr1:=h.row.kp hk (by simp)
 have hlen:=h.len
 have e1:(ds++List.replicate (n-i) (Value.slice none 0 0):List Value)[i]?=some (.slice none 0 0):=by
  rw[List.getElem?_append_right (by omega),hlen,Nat.sub_self,List.getElem?_replicate,if_pos (by omega)]
 have hiro:IRo w1 v' (l.map Int.ofNat):=by
  unfold IRo iC
  rw[List.length_map]
  obtain ⟨a,b|⟨g,c,cur,b,_,d⟩⟩:=hv
  ·exact ⟨a,Or.inl b⟩
  ·exact ⟨a,Or.inr ⟨g,c,cur,b,Nat.zero_le _,d⟩⟩
 have hvb: ∀b,v'.ownBlock=some b->wr.heap.size<=b:=fun b hb'=>(World.ownsRow.lt hv b hb').1
 have hsz:w.heap.size<wr.heap.size:=(Array.getElem?_eq_some_iff.1 h.row).1
 have hks:=Kp.set w1 w.heap.size i v'
 have hne: ∀{x:Value} {p:List Int},IRo w1 x p-> ∀b,x.ownBlock=some b->b∉[w.heap.size]:=fun hx b hb' hm=>by
  rw[List.mem_singleton]at hm
  exact q0d hx hr1 (by decide) (by rw[hb',hm])
 refine ⟨hr1.cell (by simpa using e1),hr1.froz i,by rw[List.length_append,hlen];rfl,?_,?_,?_,fun u hu b hb'=>?_⟩
 ·have:=hr1.set i v'
  have e2:(ds++List.replicate (n-i) (Value.slice none 0 0):List Value).toArray.setIfInBounds i v'=((ds++[v'])++List.replicate (n-(i+1)) (Value.slice none 0 0)).toArray:=by
   rw[List.setIfInBounds_toArray,List.set_append_right _ _ (by omega),hlen,Nat.sub_self,show n-i=(n-(i+1))+1 by omega,List.replicate_succ]
   simp
  rw[e2]at this
  exact this
 ·have hiT:i<T.length:=(List.getElem?_eq_some_iff.1 hl).1
  have et:Mt.toZ (T.take (i+1))=Mt.toZ (T.take i)++[l.map Int.ofNat]:=by
   rw[List.take_add_one,hl]
   unfold Mt.toZ
   rw[List.map_append]
   rfl
  rw[et]
  refine RowsI.snoc ⟨h.ins.1,fun j u p hu hp=>?_⟩ (hiro.kp hks (hne hiro))
  have:=(h.ins.2 j u p hu hp).kp hk (by simp)
  exact this.kp hks (hne this)
 ·exact (h.kp.trans hk (by simp)).trans hks (by simp)
 ·rw[List.mem_append,List.mem_singleton]at hu
  rcases hu with hu|rfl
  ·exact h.nw u hu b hb'
  ·have:=hvb b hb'
   omega
theorem q82 (w:World)(T:List (List Nat))(pv:Value)(vs:List Value)(h:PlS w pv vs T)(hT:T.length<=100000)(hne: ∀l∈T,l≠[])(hlen: ∀l∈T,l.length<=100000):
  Calls Tryz.prog 106 #[pv] w fun e w'=> ∃x:Cp,e= .returned x.v/\CpAt w' x/\x.T=T/\Kp [] w w'/\ ∀b∈x.B,w.heap.size<=b:=by
 obtain ⟨ap,cp,rfl⟩: ∃ap cp,pv= .slice ap T.length cp:=by
  rcases h.form with ⟨rfl,e⟩|⟨g,cap,rfl,_⟩
  ·exact ⟨none,0,by rw[e];rfl⟩
  ·exact ⟨_,_,rfl⟩
 have MK:=qcS T.length hT w
 have HSRC:Hid (∀(i:Nat) (hi:i<T.length) (W:World),Kp [] w W-> ∃g b m uc,ap=some ⟨g,0,none⟩/\W.cell? ⟨g,i,none⟩=some (.slice (some ⟨b,0,none⟩) m uc)/\m=T[i].length/\ ∀j,j<(T[i].map Int.ofNat).length->W.cell? ⟨b,0+j,none⟩=some (.int .i64 ((T[i].map Int.ofNat).getD j 0))):=hZq (fun i hi W hk=>by
  have h2:=h.kp hk (by simp)
  obtain ⟨u,hu,hiu⟩:=h2.at (List.getElem?_eq_getElem hi)
  have hn:=hne _ (List.getElem_mem hi)
  obtain ⟨g2,c2,rfl,_,_,_⟩:=q2H hiu hn
  rcases h2.form with ⟨_,e⟩|⟨g,cap,e,_,_⟩
  ·rw[e]at hi;simp at hi
  ·injection e with e1 e2 e3
   subst e1
   refine ⟨g,g2,_,c2,rfl,h2.cell hu,rfl,fun j hj=>?_⟩
   obtain ⟨a,c,e,hat⟩:=hiu.at
   injection e with e1 e2 e3
   subst e1
   obtain ⟨b,off,eb,_,hc⟩:=hat (fun e=>hn (List.map_eq_nil_iff.1 e))
   cases eb
   rw[hc j hj,List.getD_eq_getElem?_getD,List.getElem?_eq_getElem hj]
   rfl)
 have HL:Hid (∀(i:Nat) (hi:i<T.length),T[i].length<=100000):=hZq (fun i hi=>hlen _ (List.getElem_mem hi))
 have H0:Hid (CoS w T T.length 0 [] (w.alloc (.cells (List.replicate T.length (Value.slice none 0 0)).toArray 38))):=hZq ⟨rfl,by rw[Nat.sub_zero];exact CBox.new w _ _,RowsI.nil _,Kp.alloc _ _,by simp⟩
 have HTT:Hid (T.length=T.length):=hZq rfl
 clear h hne hlen
 obtain ⟨n,hn⟩: ∃n,T.length=n:=⟨_,rfl⟩
 have HN:=hZq hn
 rw[hn]at hT MK H0 ⊢
 clear hn HTT
 go_enter Tryz.func106,Tryz.ntmps106
 go_wp2_with fail
 go_loopw [11] (fun iv wr=> ∃(i:Nat) (ds:List Value),i<=n/\iv= .int .i64 (i:Int)/\Hid (CoS w T n i ds wr)) (fun iv _=>n-(intOf iv).toNat)
 case atStart=>exact ⟨0,[],Nat.zero_le _,rfl,H0⟩
 case round=>
  obtain ⟨i,ds,hi,rfl,HC⟩:=hrel
  clear H0 MK
  by_cases hlt:i<n
  ·have hiT:i<T.length:=by rw[uQ HN];exact hlt
   have hli:(i:Int)<(n:Int):=by omega
   obtain ⟨g,b,m,uc,rfl,c1,hm,hcs⟩:=uQ HSRC i hiT wr (uQ HC).kp
   have hml:=uQ HL i hiT
   rw[<-hm]at hml
   have CL:=hZq (Tryz.slices_Clone_int b 0 m uc (T[i].map Int.ofNat) wr (by rw[List.length_map,hm];exact Nat.le_refl _) (by omega) hcs)
   have HNX:=hZq (fun (w1:World) (v':Value) (hb:Below wr.heap.size wr w1) (hv:w1.ownsRow wr.heap.size 3 1 v' T[i].length ((T[i].map Int.ofNat).map (Value.int .i64)))=>(uQ HC).next hlt (List.getElem?_eq_getElem hiT) hb hv)
   have HTK:Hid (((T[i].map Int.ofNat).take m)=T[i].map Int.ofNat):=hZq (by rw[hm];exact List.take_of_length_le (by rw[List.length_map];exact Nat.le_refl _))
   have hsz:w.heap.size<wr.heap.size:=(Array.getElem?_eq_some_iff.1 (uQ HC).row).1
   have HM:=hZq hm
   clear HC HSRC HL hcs hm
   go_wp2_with fail
   refine (uQ CL).mono ?_
   rintro e w1 ⟨v',rfl,hv,hnn,hb⟩
   rw[uQ HTK,uQ HM]at hv
   obtain ⟨d1,d2,hC1⟩:=uQ HNX w1 v' hb hv
   have HC1:=hZq hC1
   have hs1:=hb.size
   obtain ⟨va,vn,vc,rfl⟩: ∃a n c,v'= .slice a n c:=by
    obtain ⟨_,⟨e,_⟩|⟨g',c',cur,e,_⟩⟩:=hv
    ·exact ⟨_,_,_,e⟩
    ·exact ⟨_,_,_,e⟩
   clear CL HNX HTK hv hnn hb hC1
   go_wp2
   go_roundw
   case rel=>exact ⟨i+1,_,by omega,by go_num,HC1⟩
   case measure=>simp[intOf];omega
  ·obtain rfl:i=n:=by omega
   have hC:=uQ HC
   clear HC HSRC HL
   go_wp2
   go_ret
   refine ⟨⟨w.heap.size,ds,T⟩,?_,⟨?_,?_⟩,rfl,hC.kp,fun b hb=>?_⟩
   ·unfold Cp.v
    dsimp only
    rw[uQ HN]
    rfl
   ·have:=hC.row
    rw[Nat.sub_self]at this
    simpa using this
   ·have:=hC.ins
    rw[show T.take i=T by rw[<-uQ HN];exact List.take_length]at this
    exact this
   ·unfold Cp.B at hb
    rw[List.mem_cons,List.mem_flatMap]at hb
    rcases hb with rfl|⟨u,hu,hb⟩
    ·exact Nat.le_refl _
    ·exact hC.nw u hu b (by simpa using hb)
end Go.Proofs.YtcmjnlpofebbmaaGreatDoor
