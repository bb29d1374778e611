/-
  Walks and plain facts, made small.
-/
import Derived.Test.YtcmjnlpofebbmaaGreatDoorMa19
set_option maxRecDepth 100000
set_option maxHeartbeats 8000000
set_option linter.unusedSimpArgs false
namespace Go.Proofs.YtcmjnlpofebbmaaGreatDoor
open Go.RowKit Go.Shelf
theorem q0B (k:HK)(T:List (List Nat)):(hkL k T).length=T.length:=by unfold hkL;rw[q3D,q5X]
theorem qb (T:List (List Nat))(l:List Nat):Mt.las (T++[l]) (T++[l]).length=Mt.las T T.length++[Mt.lst l]:=by
 unfold Mt.las
 rw[List.take_length,List.take_length,List.map_append]
 rfl
theorem q1X (k:HK)(T:List (List Nat))(l:List Nat):hkL k (T++[l])=hkL k T++[k.es.getD (Mt.lst l) evZ]:=by
 unfold hkL
 rw[qb]
 unfold Mt.lasE
 rw[List.map_append]
 rfl
theorem qc9 (T:List (List Nat))(q:Nat):Mt.ext T T.length q=T++[[q]]:=by unfold Mt.ext;rw[if_pos rfl]
theorem qca (A:List (List Nat))(l:List Nat)(q:Nat):Mt.ext (A++[l]) A.length q=A++[l++[q]]:=by
 unfold Mt.ext
 rw[if_neg (by simp)]
 simp
theorem q21 {α:Type}(A:List α)(x y:α)(t:Nat)(h:t=A.length):(A++[x]).set t y=A++[y]:=by
 subst h
 rw[List.set_append_right _ _ (Nat.le_refl _)]
 simp
structure PuH (k:HK)(w:World)(F:List Nat)(T:List (List Nat))(t q:Nat)(A:List (List Nat))(l:List Nat)(L1:List Ev)(pv lv:Value)(vs:List Value)(wc:World):Prop where
 n:HkN k w F (A++[l]) L1 pv lv vs wc
 la:A.length=t
 ex:Mt.ext T t q=A++[l++[q]]
 ll:L1.length=t+1
 le:L1.set t (k.es.getD q evZ)=hkL k (A++[l++[q]])
 lb:l.length+1<=1000000
theorem OwnsX.form {w:World}{v:Value}{l:List Ev}(h:OwnsX 0 w v l)(h0:0<l.length): ∃g cap,v= .slice (some ⟨g,0,none⟩) l.length cap/\l.length<=cap/\ ∃cur,w.heap[g]?=some (.cells cur 29 (0,0)):=by
 obtain ⟨_,⟨rfl,e⟩|⟨g,cap,cur,rfl,_,hh,hc,_⟩⟩:=h
 ·omega
 ·exact ⟨g,cap,rfl,hc,cur,hh⟩
theorem qbE (k:HK)(hI:HkI k)(w:World)(T:List (List Nat))(pv lv:Value)(vs:List Value)(h:HkS k w T (hkL k T) pv lv vs)(t q:Nat)(ht:t=T.length\/t+1=T.length)(hq:q<k.es.length)(ht8:t<8)(hrow: ∀l∈T,l.length<=4096):
  Calls Tryz.prog 79 #[.pointer (some ⟨k.gt,0,none⟩), .int .i64 (t:Int), .int .i64 (q:Int)] w fun e w'=>(∃v,e= .returned v)/\ ∃pv' lv' vs',HkN k w (hkF k pv lv vs) (Mt.ext T t q) (hkL k (Mt.ext T t q)) pv' lv' vs' w':=by
 have hl8:T.length<=8:=by omega
 obtain ⟨ap,cp,rfl⟩: ∃ap cp,pv= .slice ap T.length cp:=by
  rcases h.pl.form with ⟨rfl,e⟩|⟨g,cap,rfl,_⟩
  ·exact ⟨none,0,by rw[e];rfl⟩
  ·exact ⟨_,_,rfl⟩
 have c4:w.cell? ⟨k.gt,4,none⟩=some (.slice ap T.length cp):=h.box.cell rfl
 have hev:=hI.ev
 go_enter Tryz.func79,Tryz.ntmps79
 go_upto_if 12 with fail
 go_cut [] (fun wc=> ∃(A:List (List Nat)) (l:List Nat) (L1:List Ev) (pv1 lv1:Value) (vs1:List Value),Hid (PuH k w (hkF k (.slice ap T.length cp) lv vs) T t q A l L1 pv1 lv1 vs1 wc))
 case first=>
  rcases ht with ht|ht
  ·subst ht
   have hg:((T.length:Int)==(T.length:Int))=true:=beq_self_eq_true _
   obtain ⟨al,cl,hlv⟩: ∃al cl,lv= .slice al T.length cl:=by
    obtain ⟨a,c,e,_⟩:=h.la.at
    rw[q0B]at e
    exact ⟨a,c,e⟩
   obtain ⟨g1,cap1,w1,hrun1,hb1,hn1⟩:=h.grow hI (Kp.alloc w (.cells #[.slice none 0 0] 38)) (gz:=w.heap.size) (c:=1) (CBox.new w _ _) (by omega) 35
   have y4:w1.cell? ⟨k.gt,4,none⟩=some (.slice ap T.length cp):=hb1.cell rfl
   have z4:=hb1.froz 4
   have y5:(w1.setCell ⟨k.gt,4,none⟩ (.slice (some ⟨g1,0,none⟩) (T.length+1) cap1)).cell? ⟨k.gt,5,none⟩=some (.slice al T.length cl):=by rw[<-hlv];exact hn1.s.box.cell rfl
   have hsz:(w1.setCell ⟨k.gt,4,none⟩ (.slice (some ⟨g1,0,none⟩) (T.length+1) cap1)).heap.size=w1.heap.size:=by simp[World.setCell]
   obtain ⟨g2,cap2,w3,hrun2,hb2,hn2⟩:=hn1.s.growL hI (Kp.alloc _ (.cells evZ.c 29)) evZ (gz:=(w1.setCell ⟨k.gt,4,none⟩ (.slice (some ⟨g1,0,none⟩) (T.length+1) cap1)).heap.size) (c:=1) (CBox.new _ _ _) (by rw[q0B];omega) 25
   have y5':w3.cell? ⟨k.gt,5,none⟩=some lv:=hb2.cell rfl
   have z5:=hb2.froz 5
   rw[hlv]at y5' hrun2
   rw[q0B]at hrun2 hn2
   rw[hsz]at hrun2
   have HF:Hid (PuH k w (hkF k (.slice ap T.length cp) lv vs) T T.length q T [] (hkL k T++[evZ]) _ _ _ _):=hZq ⟨hn1.trans hn2,rfl,qc9 T q,by rw[List.length_append,q0B];rfl,by rw[q21 _ _ _ _ (q0B k T).symm,q1X];rfl,by simp⟩
   have HR1:=hZq hrun1
   have HR2:=hZq hrun2
   clear h hn1 hn2 hb1 hb2 hrun1 hrun2 hrow hI hev hsz
   unfold evZ Ev.c at HR2
   dsimp only at HR2
   subst hlv
   go_wp2_with (first|(at_builtin;refine q0e rfl _ _ _ rfl rfl rfl (uQ HR2) ?_)|(at_builtin;refine q0e rfl _ _ _ rfl rfl rfl (uQ HR1) ?_))
   go_meet
   exact ⟨_,_,_,_,_,_,HF⟩
  ·obtain ⟨A,l,hA⟩: ∃A l,T=A++[l]:=by
    rcases List.eq_nil_or_concat T with e|⟨A,l,e⟩
    ·rw[e]at ht;simp at ht
    ·exact ⟨A,l,by rw[e,List.concat_eq_append]⟩
   have hAl:A.length=t:=by rw[hA]at ht;simp at ht;omega
   have HF:Hid (PuH k w (hkF k (.slice ap T.length cp) lv vs) T t q A l (hkL k T) (.slice ap T.length cp) lv vs w):=by
    refine hZq ⟨⟨by rw[<-hA];exact h,Kp.refl _ _,fun x hx=>Or.inl hx⟩,hAl,by rw[hA, <-hAl];exact qca A l q,by rw[q0B,ht],?_,by have:=hrow l (by rw[hA];simp);omega⟩
    rw[hA,q1X,q21 _ _ _ _ (by rw[q0B,hAl]),q1X,Mt.lst_snoc]
   have hg:((t:Int)==(T.length:Int))=false:=beq_eq_false_iff_ne.2 (by omega)
   clear h hI hev hrow hA
   go_wp2
   go_meet
   exact ⟨_,_,_,_,_,_,HF⟩
 case rest=>
  obtain ⟨A,l,L1,pv1,lv1,vs1,HP⟩:=hcut
  have hP:=uQ HP
  clear h c4 hrow HP
  have hT1:(A++[l])[t]?=some l:=by rw[<-hP.la];simp
  obtain ⟨u,hu,hiu⟩:=hP.n.s.pl.at hT1
  obtain ⟨gp,cpp,rfl⟩: ∃g cap,pv1= .slice (some ⟨g,0,none⟩) (t+1) cap:=by
   rcases hP.n.s.pl.form with ⟨_,e⟩|⟨g,cap,e,_⟩
   ·simp at e
   ·exact ⟨g,cap,by rw[e,List.length_append,hP.la];rfl⟩
  obtain ⟨ua,uc,rfl⟩: ∃ua uc,u= .slice ua l.length uc:=by
   obtain ⟨a,c,e,_⟩:=hiu.at
   rw[List.length_map]at e
   exact ⟨a,c,e⟩
  obtain ⟨gl,cl,hlv1,hcl,_⟩:=hP.n.s.la.form (by rw[hP.ll];omega)
  rw[hP.ll]at hlv1 hcl
  subst hlv1
  obtain ⟨V,hV⟩: ∃V,V=wc.drew:=⟨_,rfl⟩
  have hkV:Kp [] wc V:=by rw[hV];exact Kp.drew wc
  have hs:=hP.n.s.al hkV
  obtain ⟨g',cap',w1,hrun,hb1,hcell1,hfr1,hN⟩:=hs.more hI (Kp.alloc V (.cells #[.int .i64 (q:Int)] 3)) (q:=q) hu hT1 (gz:=V.heap.size) (c:=1) (CBox.new _ _ _) hP.lb 38
  have a0:V.cell? ⟨k.gt,4,none⟩=some (.slice (some ⟨gp,0,none⟩) (t+1) cpp)/\V.cell? ⟨gp,t,none⟩=some (.slice ua l.length uc):=⟨hs.box.cell rfl,hs.pl.cell hu⟩
  have ha:=hs.al (Kp.alloc V (.cells #[.int .i64 (q:Int)] 3))
  have a1:(V.alloc (.cells #[.int .i64 (q:Int)] 3)).cell? ⟨k.gt,4,none⟩=some (.slice (some ⟨gp,0,none⟩) (t+1) cpp)/\(V.alloc (.cells #[.int .i64 (q:Int)] 3)).cell? ⟨gp,t,none⟩=some (.slice ua l.length uc):=⟨ha.box.cell rfl,ha.pl.cell hu⟩
  have a2:w1.cell? ⟨k.gt,4,none⟩=some (.slice (some ⟨gp,0,none⟩) (t+1) cpp)/\w1.cell? ⟨gp,t,none⟩=some (.slice ua l.length uc):=⟨hb1.cell rfl,hcell1⟩
  obtain ⟨W4,hW4⟩: ∃W4,W4=w1.setCell ⟨gp,t,none⟩ (.slice (some ⟨g',0,none⟩) (l.length+1) cap'):=⟨_,rfl⟩
  rw[<-hW4]at hN
  obtain ⟨V5,hV5⟩: ∃V5,V5=W4.drew:=⟨_,rfl⟩
  have hk5:Kp [] W4 V5:=by rw[hV5];exact Kp.drew W4
  have hd:=hN.s.al hk5
  obtain ⟨eb,eo,hea,e0,e1,e2,e3,e4,e5,e6⟩:=((hI.ev).kp (hd.kb hI) (by simp)).seven q hq
  have hel:=hI.el
  have hqi:(q:Int)<(k.es.length:Int):=by omega
  have gti:(t:Int)<(t:Int)+1:=by omega
  have b5:V5.cell? ⟨k.gt,5,none⟩=some (.slice (some ⟨gl,0,none⟩) (t+1) cl):=hd.box.cell rfl
  have b2:V5.cell? ⟨k.gt,2,none⟩=some (.slice (some ⟨eb,eo,none⟩) k.es.length k.ec):=by rw[<-hea];exact hd.box.cell rfl
  obtain ⟨cur,hcur⟩: ∃cur,CBox gl cur 29 V5:=by
   obtain ⟨_,⟨e,_⟩|⟨g9,c9,cur,e,_,hh,_⟩⟩:=id hd.la
   ·cases e
   ·injection e with e1 _ _
    cases e1
    exact ⟨cur,hh⟩
  have hLc: ∀j,j<7-> ∃v,V5.cell? ⟨gl,t * 7+j,none⟩=some v:=fun j hj=>by
   have hlen:t * 7+j<(L1.flatMap evW).length:=by rw[q1q,hP.ll];omega
   have:=World.ownsRow.cells hd.la (g:=gl) rfl (t * 7+j) _ (List.getElem?_eq_getElem hlen)
   rw[Go.WideShapes.add_plain,Nat.zero_add]at this
   exact ⟨_,this⟩
  obtain ⟨v0,l0⟩:=hLc 0 (by omega)
  obtain ⟨v1,l1⟩:=hLc 1 (by omega)
  obtain ⟨v2,l2⟩:=hLc 2 (by omega)
  obtain ⟨v3,l3⟩:=hLc 3 (by omega)
  obtain ⟨v4,l4⟩:=hLc 4 (by omega)
  obtain ⟨v5,l5⟩:=hLc 5 (by omega)
  obtain ⟨v6,l6⟩:=hLc 6 (by omega)
  rw[Nat.add_zero]at l0
  have f0:=hcur.froz (t * 7)
  have f1:=hcur.froz (t * 7+1)
  have f2:=hcur.froz (t * 7+2)
  have f3:=hcur.froz (t * 7+3)
  have f4:=hcur.froz (t * 7+4)
  have f5:=hcur.froz (t * 7+5)
  have f6:=hcur.froz (t * 7+6)
  have hqe:k.es.getD q evZ=k.es[q]:=by rw[List.getD_eq_getElem?_getD,List.getElem?_eq_getElem hq];rfl
  have hTs:(A++[l]).set t (l++[q])=Mt.ext T t q:=by rw[hP.ex];exact q21 _ _ _ _ hP.la.symm
  have hLs:L1.set t k.es[q]=hkL k (Mt.ext T t q):=by rw[<-hqe,hP.ex];exact hP.le
  rw[hTs]at hN
  have hN2:=(HkN.trans (F:=hkF k (.slice (some ⟨gp,0,none⟩) (t+1) cpp) (.slice (some ⟨gl,0,none⟩) (t+1) cl) vs1) ⟨hs,hkV.mono (by simp),fun x hx=>Or.inl hx⟩ hN)
  have hfin:=(hP.n.trans hN2).trans (hN.s.last hI hk5 t (by rw[hP.ll];omega) k.es[q])
  rw[hLs]at hfin
  have HFIN:=hZq hfin
  have hl1:l.length+1<=1000000:=hP.lb
  clear hfin hN2 hN hP hs ha hd hkV hk5 hea hcur hLc hLs hTs hqe hI hev hT1 hiu hu hb1 hcell1
  generalize k.es[q]=ev at *
  obtain ⟨ek,et,n0,n1,n2,n3,ex⟩:=ev
  dsimp only at e0 e1 e2 e3 e4 e5 e6 HFIN
  generalize l.length=m at *
  generalize k.es.length=M at *
  have b0:V5.cell? ⟨k.gt,5,none⟩=some (.slice (some ⟨gl,0,none⟩) (t+1) cl)/\V5.cell? ⟨k.gt,2,none⟩=some (.slice (some ⟨eb,eo,none⟩) M k.ec)/\V5.cell? ⟨eb,eo+q * 7,none⟩=some (.string ek)/\V5.cell? ⟨eb,eo+q * 7+1,none⟩=some (.string et)/\V5.cell? ⟨eb,eo+q * 7+2,none⟩=some (.int .i64 n0)/\V5.cell? ⟨eb,eo+q * 7+3,none⟩=some (.int .i64 n1)/\V5.cell? ⟨eb,eo+q * 7+4,none⟩=some (.int .i64 n2)/\V5.cell? ⟨eb,eo+q * 7+5,none⟩=some (.int .i64 n3)/\V5.cell? ⟨eb,eo+q * 7+6,none⟩=some (.string ex):=⟨b5,b2,e0,e1,e2,e3,e4,e5,e6⟩
  go_upto_region 3 with fail
  refine q0m (fun W=>W.cell? ⟨k.gt,4,none⟩=some (.slice (some ⟨gp,0,none⟩) (t+1) cpp)/\W.cell? ⟨gp,t,none⟩=some (.slice ua m uc)) 16 (by kernel_rfl) ?_
  rw[<-hV]
  clear hV
  show q0a _ _ _ _ _ _ 17 (Array.replicate 17 false) _ _
  refine zzL (i:=0) (v:=?_) rfl (fun _ _ _ h=>h) (Or.inl ⟨by rfl,?_⟩) a0 ?_
  rotate_left 1
  ·intro w0 hSw;(try dsimp only at hSw);go_simp;(try with_reducible rfl)
  try simp only[Act.put,zz1,zz2,zz3]
  refine zzL (i:=1) (v:=?_) rfl (fun _ _ _ h=>h) (Or.inl ⟨by rfl,?_⟩) a0 ?_
  rotate_left 1
  ·intro w0 hSw;(try dsimp only at hSw);go_simp;(try with_reducible rfl)
  try simp only[Act.put,zz1,zz2,zz3]
  refine zzL (i:=2) (v:=?_) rfl (fun _ _ _ h=>h) (Or.inl ⟨by rfl,?_⟩) a0 ?_
  rotate_left 1
  ·intro w0 hSw;(try dsimp only at hSw);go_simp;(try with_reducible rfl)
  try simp only[Act.put,zz1,zz2,zz3]
  refine zzL (i:=3) (v:=?_) rfl (fun _ _ _ h=>h) (Or.inl ⟨by rfl,?_⟩) a0 ?_
  rotate_left 1
  ·intro w0 hSw;(try dsimp only at hSw);go_simp;(try with_reducible rfl)
  try simp only[Act.put,zz1,zz2,zz3]
  refine zzL (i:=4) (v:=?_) rfl (fun _ _ _ h=>h) (Or.inl ⟨by rfl,?_⟩) a0 ?_
  rotate_left 1
  ·intro w0 hSw;(try dsimp only at hSw);go_simp;(try with_reducible rfl)
  try simp only[Act.put,zz1,zz2,zz3]
  refine zzL (i:=5) (v:=?_) rfl (fun _ _ _ h=>h) (Or.inl ⟨by rfl,?_⟩) a0 ?_
  rotate_left 1
  ·intro w0 hSw;(try dsimp only at hSw);go_simp;(try with_reducible rfl)
  try simp only[Act.put,zz1,zz2,zz3]
  refine zzL (i:=6) (v:=?_) rfl (fun _ _ _ h=>h) (Or.inl ⟨by rfl,?_⟩) a0 ?_
  rotate_left 1
  ·intro w0 hSw;(try dsimp only at hSw);go_simp;(try with_reducible rfl)
  try simp only[Act.put,zz1,zz2,zz3]
  refine zzL (i:=7) (v:=?_) rfl (fun _ _ _ h=>h) (Or.inl ⟨by rfl,?_⟩) a0 ?_
  rotate_left 1
  ·intro w0 hSw;(try dsimp only at hSw);go_simp;(try with_reducible rfl)
  try simp only[Act.put,zz1,zz2,zz3]
  refine zzL (i:=8) (v:=?_) rfl (fun _ _ _ h=>h) (Or.inl ⟨by rfl,?_⟩) a0 ?_
  rotate_left 1
  ·intro w0 hSw;(try dsimp only at hSw);go_simp;(try with_reducible rfl)
  try simp only[Act.put,zz1,zz2,zz3]
  refine zzL (i:=9) (v:=?_) rfl (fun _ _ _ h=>h) (Or.inl ⟨by rfl,?_⟩) a0 ?_
  rotate_left 1
  ·intro w0 hSw;(try dsimp only at hSw);go_simp;(try with_reducible rfl)
  try simp only[Act.put,zz1,zz2,zz3]
  refine zzL (i:=10) (v:=?_) rfl (fun _ _ _ h=>h) (Or.inl ⟨by rfl,?_⟩) a0 ?_
  rotate_left 1
  ·intro w0 hSw;(try dsimp only at hSw);go_simp;(try with_reducible rfl)
  try simp only[Act.put,zz1,zz2,zz3]
  refine zzL (i:=11) (v:=?_) rfl (fun _ _ _ h=>h) (Or.inl ⟨by rfl,?_⟩) a0 ?_
  rotate_left 1
  ·intro w0 hSw;(try dsimp only at hSw);go_simp;(try with_reducible rfl)
  try simp only[Act.put,zz1,zz2,zz3]
  refine zzL (i:=12) (v:=?_) rfl (fun _ _ _ h=>h) (Or.inl ⟨by rfl,?_⟩) a0 ?_
  rotate_left 1
  ·intro w0 hSw;(try dsimp only at hSw);go_simp;(try with_reducible rfl)
  try simp only[Act.put,zz1,zz2,zz3]
  refine q01 (i:=13) rfl (by kernel_rfl) (fun K hK=>?_)
  go_simp
  refine hK _ _ (Or.inr a1) ?_
  clear hK K
  try simp only[Act.put,zz1,zz2,zz3]
  refine q01 (i:=14) rfl (by kernel_rfl) (fun K hK=>?_)
  refine q11 rfl (.tmp 43) (.tmp 45) 38 rfl rfl rfl hrun ?_
  refine hK _ _ (Or.inr a2) ?_
  clear hK K
  try simp only[Act.put,zz1,zz2,zz3]
  refine zzL (i:=15) (v:=?_) rfl (fun _ _ _ h=>h) (Or.inl ⟨by rfl,?_⟩) a2 ?_
  rotate_left 1
  ·intro w0 hSw;(try dsimp only at hSw);go_simp;(try with_reducible rfl)
  try simp only[Act.put,zz1,zz2,zz3]
  refine q01 (i:=16) rfl (by kernel_rfl) (fun K hK=>?_)
  go_simp
  refine hK _ _ (Or.inl rfl) ?_
  clear hK K
  try simp only[Act.put,zz1,zz2,zz3]
  refine q0c (by kernel_rfl) ?_ _
  rw[<-hW4]
  clear hW4
  go_upto_region 4 with fail
  refine q0m (fun W=>W.cell? ⟨k.gt,5,none⟩=some (.slice (some ⟨gl,0,none⟩) (t+1) cl)/\W.cell? ⟨k.gt,2,none⟩=some (.slice (some ⟨eb,eo,none⟩) M k.ec)/\W.cell? ⟨eb,eo+q * 7,none⟩=some (.string ek)/\W.cell? ⟨eb,eo+q * 7+1,none⟩=some (.string et)/\W.cell? ⟨eb,eo+q * 7+2,none⟩=some (.int .i64 n0)/\W.cell? ⟨eb,eo+q * 7+3,none⟩=some (.int .i64 n1)/\W.cell? ⟨eb,eo+q * 7+4,none⟩=some (.int .i64 n2)/\W.cell? ⟨eb,eo+q * 7+5,none⟩=some (.int .i64 n3)/\W.cell? ⟨eb,eo+q * 7+6,none⟩=some (.string ex)) 13 (by kernel_rfl) ?_
  rw[<-hV5]
  clear hV5
  show q0a _ _ _ _ _ _ 14 (Array.replicate 14 false) _ _
  refine zzL (i:=0) (v:=?_) rfl (fun _ _ _ h=>h) (Or.inl ⟨by rfl,?_⟩) b0 ?_
  rotate_left 1
  ·intro w0 hSw;(try dsimp only at hSw);go_simp;(try with_reducible rfl)
  try simp only[Act.put,zz1,zz2,zz3]
  refine zzL (i:=1) (v:=?_) rfl (fun _ _ _ h=>h) (Or.inl ⟨by rfl,?_⟩) b0 ?_
  rotate_left 1
  ·intro w0 hSw;(try dsimp only at hSw);go_simp;(try with_reducible rfl)
  try simp only[Act.put,zz1,zz2,zz3]
  refine zzL (i:=2) (v:=?_) rfl (fun _ _ _ h=>h) (Or.inl ⟨by rfl,?_⟩) b0 ?_
  rotate_left 1
  ·intro w0 hSw;(try dsimp only at hSw);go_simp;(try with_reducible rfl)
  try simp only[Act.put,zz1,zz2,zz3]
  refine zzL (i:=3) (v:=?_) rfl (fun _ _ _ h=>h) (Or.inl ⟨by rfl,?_⟩) b0 ?_
  rotate_left 1
  ·intro w0 hSw;(try dsimp only at hSw);go_simp;(try with_reducible rfl)
  try simp only[Act.put,zz1,zz2,zz3]
  refine zzL (i:=4) (v:=?_) rfl (fun _ _ _ h=>h) (Or.inl ⟨by rfl,?_⟩) b0 ?_
  rotate_left 1
  ·intro w0 hSw;(try dsimp only at hSw);go_simp;(try with_reducible rfl)
  try simp only[Act.put,zz1,zz2,zz3]
  refine zzL (i:=5) (v:=?_) rfl (fun _ _ _ h=>h) (Or.inl ⟨by rfl,?_⟩) b0 ?_
  rotate_left 1
  ·intro w0 hSw;(try dsimp only at hSw);go_simp;(try with_reducible rfl)
  try simp only[Act.put,zz1,zz2,zz3]
  refine zzL (i:=6) (v:=?_) rfl (fun _ _ _ h=>h) (Or.inl ⟨by rfl,?_⟩) b0 ?_
  rotate_left 1
  ·intro w0 hSw;(try dsimp only at hSw);go_simp;(try with_reducible rfl)
  try simp only[Act.put,zz1,zz2,zz3]
  refine zzL (i:=7) (v:=?_) rfl (fun _ _ _ h=>h) (Or.inl ⟨by rfl,?_⟩) b0 ?_
  rotate_left 1
  ·intro w0 hSw;(try dsimp only at hSw);go_simp;(try with_reducible rfl)
  try simp only[Act.put,zz1,zz2,zz3]
  refine zzL (i:=8) (v:=?_) rfl (fun _ _ _ h=>h) (Or.inl ⟨by rfl,?_⟩) b0 ?_
  rotate_left 1
  ·intro w0 hSw;(try dsimp only at hSw);go_simp;(try with_reducible rfl)
  try simp only[Act.put,zz1,zz2,zz3]
  refine zzL (i:=9) (v:=?_) rfl (fun _ _ _ h=>h) (Or.inl ⟨by rfl,?_⟩) b0 ?_
  rotate_left 1
  ·intro w0 hSw;(try dsimp only at hSw);go_simp;(try with_reducible rfl)
  try simp only[Act.put,zz1,zz2,zz3]
  refine zzL (i:=10) (v:=?_) rfl (fun _ _ _ h=>h) (Or.inl ⟨by rfl,?_⟩) b0 ?_
  rotate_left 1
  ·intro w0 hSw;(try dsimp only at hSw);go_simp;(try with_reducible rfl)
  try simp only[Act.put,zz1,zz2,zz3]
  refine zzL (i:=11) (v:=?_) rfl (fun _ _ _ h=>h) (Or.inl ⟨by rfl,?_⟩) b0 ?_
  rotate_left 1
  ·intro w0 hSw;(try dsimp only at hSw);go_simp;(try with_reducible rfl)
  try simp only[Act.put,zz1,zz2,zz3]
  refine zzL (i:=12) (v:=?_) rfl (fun _ _ _ h=>h) (Or.inl ⟨by rfl,?_⟩) b0 ?_
  rotate_left 1
  ·intro w0 hSw;(try dsimp only at hSw);go_simp;(try with_reducible rfl)
  try simp only[Act.put,zz1,zz2,zz3]
  refine q01 (i:=13) rfl (by kernel_rfl) (fun K hK=>?_)
  go_simp
  refine hK _ _ (Or.inl rfl) ?_
  clear hK K
  try simp only[Act.put,zz1,zz2,zz3]
  refine q0c (by kernel_rfl) ?_ _
  go_wp2
  go_end0
  exact ⟨⟨_,rfl⟩,_,_,_,uQ HFIN⟩
open Go.RowKit Go.Shelf
def ntC (sa:Option Addr)(n sc:Nat)(wi:Int)(ea:Option Addr)(m ec:Nat)(nv:Value):Array Value:=#[.slice sa n sc, .int .i64 wi, .slice ea m ec,nv, .slice none 0 0, .slice none 0 0]
structure NwS (w:World)(sa:Option Addr)(n sc:Nat)(wi:Int)(ea:Option Addr)(m ec:Nat)(nv:Value)(ns:List ByteArray)(wr:World):Prop where
 pb:CBox w.heap.size #[.slice sa n sc, .int .i64 wi] 24 wr
 tb:CBox (w.heap.size+1) (ntC sa n sc wi ea m ec nv) 99 wr
 ow:OwnsW (w.heap.size+2) wr nv ns
 kp:Kp [] w wr
theorem NwS.go {w wr w':World}{sa:Option Addr}{n sc:Nat}{wi:Int}{ea:Option Addr}{m ec:Nat}{nv:Value}{ns:List ByteArray}(h:NwS w sa n sc wi ea m ec nv ns wr)(hk:Kp [] wr w'):NwS w sa n sc wi ea m ec nv ns w':=⟨h.pb.kp hk (by simp),h.tb.kp hk (by simp),h.ow.kp hk,h.kp.trans hk (by simp)⟩
theorem NwS.app {w wr:World}{sa:Option Addr}{n sc:Nat}{wi:Int}{ea:Option Addr}{m ec:Nat}{nv:Value}{ns:List ByteArray}(h:NwS w sa n sc wi ea m ec nv ns wr)(s:ByteArray){g c:Nat}(hc:wr.cell? ⟨g,0,none⟩=some (.string s))(hl:ns.length+1<=1000000)(ty:TypeId):
  ∃g' cap w',(Builtin.append_ #[83,83] ty #[nv, .slice (some ⟨g,0,none⟩) 1 c]).run Tryz.prog wr= .ok (.slice (some ⟨g',0,none⟩) (ns.length+1) cap) w'/\CBox (w.heap.size+1) (ntC sa n sc wi ea m ec nv) 99 w'/\Kp nv.ownBlock.toList wr w'/\NwS w sa n sc wi ea m ec (.slice (some ⟨g',0,none⟩) (ns.length+1) cap) (ns++[s]) (w'.setCell ⟨w.heap.size+1,3,none⟩ (.slice (some ⟨g',0,none⟩) (ns.length+1) cap)):=by
 have hlt:w.heap.size+1<wr.heap.size:=(Array.getElem?_eq_some_iff.1 h.tb).1
 obtain ⟨g',cap,w',hrun,ho,hb,hgr⟩:=OwnsW.app (c:=c) h.ow (by omega) s hc hl ty
 have t1:CBox (w.heap.size+1) (ntC sa n sc wi ea m ec nv) 99 w':=(hb.block _ (by omega)).trans h.tb
 have p1:CBox w.heap.size #[.slice sa n sc, .int .i64 wi] 24 w':=(hb.block _ (by omega)).trans h.pb
 have hks:=Kp.set w' (w.heap.size+1) 3 (.slice (some ⟨g',0,none⟩) (ns.length+1) cap)
 refine ⟨g',cap,w',hrun,t1,Kp.of hgr,p1.kp hks (by simp),t1.set 3 _,q02 ho hks (fun x hx hm=>?_),?_⟩
 ·rw[List.mem_singleton]at hm
  subst hm
  exact q0d ho t1 (by decide) hx
 ·have h1:Kp [] w w':=⟨hb.os.trans h.kp.os,hb.tape.trans h.kp.tape,hb.output.trans h.kp.output,Nat.le_trans h.kp.size hb.size,fun i hi hn=>(hb.block i (by omega)).trans (h.kp.block i hi hn)⟩
  exact h1.trans hks (by simp)
theorem q61 (sa:Option Addr)(sc:Nat)(l:List SR)(wi:Int)(ea:Option Addr)(m ec:Nat)(w:World)(h:StsAt w sa l)(h8:l.length<=8):
  Calls Tryz.prog 39 #[.agg #[.slice sa l.length sc, .int .i64 wi], .slice ea m ec] w fun e w'=>e= .returned (.pointer (some ⟨w.heap.size+1,0,none⟩))/\ ∃nv,NwS w sa l.length sc wi ea m ec nv (q00 (stgs l)) w':=by
 have HST:=hZq (fun (i:Nat) (hi:i<l.length) W (hk:Kp [] w W)=>(h.kp hk).at i hi)
 have HNX:Hid (∀i (hi:i<l.length),q00 ((stgs l).take (i+1))=q00 ((stgs l).take i)++[l[i].s.nm]):=hZq (fun i hi=>by
  have:=q41 (l:=stgs l) (k:=i) (by rw[q03];exact hi)
  rw[q16 hi]at this
  exact this)
 have HNL:Hid (∀i,i<=l.length->(q00 ((stgs l).take i)).length=i):=hZq (fun i hi=>by rw[q0D,List.length_take,q03];omega)
 have HEN:Hid (q00 ((stgs l).take l.length)=q00 (stgs l)):=hZq (by rw[<-q03,List.take_length])
 have k1:Kp [] w (w.alloc (.cells #[.slice sa l.length sc, .int .i64 wi] 24)):=Kp.alloc _ _
 have p0:=CBox.new w #[.slice sa l.length sc, .int .i64 wi] 24
 have t0:=CBox.new (w.alloc (.cells #[.slice sa l.length sc, .int .i64 wi] 24)) (ntC sa l.length sc wi ea m ec (.slice none 0 0)) 99
 rw[show (w.alloc (.cells #[.slice sa l.length sc, .int .i64 wi] 24)).heap.size=w.heap.size+1 by simp]at t0
 have k2:=Kp.alloc (w.alloc (.cells #[.slice sa l.length sc, .int .i64 wi] 24)) (.cells (ntC sa l.length sc wi ea m ec (.slice none 0 0)) 99)
 have H0:Hid (NwS w sa l.length sc wi ea m ec (.slice none 0 0) [] ((w.alloc (.cells #[.slice sa l.length sc, .int .i64 wi] 24)).alloc (.cells (ntC sa l.length sc wi ea m ec (.slice none 0 0)) 99))):=hZq ⟨p0.kp k2 (by simp),t0,OwnsW.nil _ _,k1.trans k2 (by simp)⟩
 have c00:=p0.cell (i:=0) (v:= .slice sa l.length sc) rfl
 have c01:=p0.cell (i:=1) (v:= .int .i64 wi) rfl
 have c10:=(uQ H0).pb.cell (i:=0) (v:= .slice sa l.length sc) rfl
 clear k1 p0 t0 k2 h
 unfold ntC at H0 c10
 obtain ⟨n,hn⟩: ∃n,l.length=n:=⟨_,rfl⟩
 have HN:=hZq hn
 rw[hn]at h8 HEN H0 c00 c10 ⊢
 clear hn
 go_enter Tryz.func39,Tryz.ntmps39
 go_wp2_with fail
 go_loopw [15] (fun iv wr=> ∃(i:Nat) (nv:Value),i<=n/\iv= .int .i64 (i:Int)/\Hid (NwS w sa n sc wi ea m ec nv (q00 ((stgs l).take i)) wr)) (fun iv _=>n-(intOf iv).toNat)
 case atStart=>exact ⟨0, .slice none 0 0,Nat.zero_le _,rfl,H0⟩
 case round=>
  obtain ⟨i,nv,hi,rfl,HC⟩:=hrel
  clear H0 c00 c01 c10
  by_cases hlt:i<n
  ·have hiT:i<l.length:=by rw[uQ HN];exact hlt
   have hli:(i:Int)<(n:Int):=by omega
   obtain ⟨sb,so,rfl,hsl,s0,s1,s2,s3, -⟩:=uQ HST i hiT wr (uQ HC).kp
   have hnx:=uQ HNX i hiT
   have hnl:=uQ HNL i (by rw[uQ HN];exact hi)
   obtain ⟨na,ncp,rfl⟩: ∃a c,nv= .slice a i c:=by
    obtain ⟨a,c,e,_⟩:=(uQ HC).ow.at
    rw[hnl]at e
    exact ⟨a,c,e⟩
   generalize l[i]=r at *
   obtain ⟨⟨rnm,rhw,rmn,rcd⟩,rad,rc⟩:=r
   dsimp only at s0 s1 s2 s3 hnx
   have ka:=Kp.alloc wr (.cells #[.string rnm, .int .i64 rhw, .bool rmn, .slice rad rcd.length rc] 86)
   have hsb:=CBox.new wr #[.string rnm, .int .i64 rhw, .bool rmn, .slice rad rcd.length rc] 86
   obtain ⟨V,hV⟩: ∃V,V=(wr.alloc (.cells #[.string rnm, .int .i64 rhw, .bool rmn, .slice rad rcd.length rc] 86)).drew:=⟨_,rfl⟩
   have kV:Kp [] wr V:=by rw[hV];exact ka.trans (Kp.drew _) (by simp)
   have bV:CBox wr.heap.size #[.string rnm, .int .i64 rhw, .bool rmn, .slice rad rcd.length rc] 86 V:=by rw[hV];exact hsb.kp (Kp.drew _) (by simp)
   have hCV:=(uQ HC).go kV
   have kA:=Kp.alloc V (.cells #[.string rnm] 9)
   have hCA:=hCV.go kA
   obtain ⟨g',cap',w',hrun,t1,hb,hfin⟩:=hCA.app rnm (g:=V.heap.size) (c:=1) ((CBox.new V _ _).cell rfl) (by rw[hnl];omega) 83
   rw[hnl]at hrun hfin
   rw[<-hnx]at hfin
   have HFIN:=hZq hfin
   have HRUN:=hZq hrun
   have a0:V.cell? ⟨w.heap.size+1,3,none⟩=some (.slice na i ncp)/\V.cell? ⟨wr.heap.size,0,none⟩=some (.string rnm):=⟨hCV.tb.cell rfl,bV.cell rfl⟩
   have a1:(V.alloc (.cells #[.string rnm] 9)).cell? ⟨w.heap.size+1,3,none⟩=some (.slice na i ncp)/\(V.alloc (.cells #[.string rnm] 9)).cell? ⟨wr.heap.size,0,none⟩=some (.string rnm):=⟨hCA.tb.cell rfl,(bV.kp kA (by simp)).cell rfl⟩
   have hwlt:w.heap.size+1<wr.heap.size:=(Array.getElem?_eq_some_iff.1 (uQ HC).tb).1
   have f3:=t1.froz 3
   have bw:w'.cell? ⟨wr.heap.size,0,none⟩=some (.string rnm):=hb.cell ((bV.kp kA (by simp)).cell rfl) (fun hm=>q0d hCA.ow (bV.kp kA (by simp)) (by decide) (by simpa using hm))
   have a2:w'.cell? ⟨w.heap.size+1,3,none⟩=some (.slice na i ncp)/\w'.cell? ⟨wr.heap.size,0,none⟩=some (.string rnm):=⟨t1.cell rfl,bw⟩
   clear hfin hrun t1 hb hCA kA hCV bV kV hsb ka HC HST HNX HNL hnx hnl
   go_upto_region 5 with fail
   refine q0m (fun W=>W.cell? ⟨w.heap.size+1,3,none⟩=some (.slice na i ncp)/\W.cell? ⟨wr.heap.size,0,none⟩=some (.string rnm)) 11 (by kernel_rfl) ?_
   rw[<-hV]
   clear hV
   show q0a _ _ _ _ _ _ 12 (Array.replicate 12 false) _ _
   refine zzL (i:=0) (v:=?_) rfl (fun _ _ _ h=>h) (Or.inl ⟨by rfl,?_⟩) a0 ?_
   rotate_left 1
   ·intro w0 hSw;(try dsimp only at hSw);go_simp;(try with_reducible rfl)
   try simp only[Act.put,zz1,zz2,zz3]
   refine zzL (i:=1) (v:=?_) rfl (fun _ _ _ h=>h) (Or.inl ⟨by rfl,?_⟩) a0 ?_
   rotate_left 1
   ·intro w0 hSw;(try dsimp only at hSw);go_simp;(try with_reducible rfl)
   try simp only[Act.put,zz1,zz2,zz3]
   refine zzL (i:=2) (v:=?_) rfl (fun _ _ _ h=>h) (Or.inl ⟨by rfl,?_⟩) a0 ?_
   rotate_left 1
   ·intro w0 hSw;(try dsimp only at hSw);go_simp;(try with_reducible rfl)
   try simp only[Act.put,zz1,zz2,zz3]
   refine zzL (i:=3) (v:=?_) rfl (fun _ _ _ h=>h) (Or.inl ⟨by rfl,?_⟩) a0 ?_
   rotate_left 1
   ·intro w0 hSw;(try dsimp only at hSw);go_simp;(try with_reducible rfl)
   try simp only[Act.put,zz1,zz2,zz3]
   refine zzL (i:=4) (v:=?_) rfl (fun _ _ _ h=>h) (Or.inl ⟨by rfl,?_⟩) a0 ?_
   rotate_left 1
   ·intro w0 hSw;(try dsimp only at hSw);go_simp;(try with_reducible rfl)
   try simp only[Act.put,zz1,zz2,zz3]
   refine zzL (i:=5) (v:=?_) rfl (fun _ _ _ h=>h) (Or.inl ⟨by rfl,?_⟩) a0 ?_
   rotate_left 1
   ·intro w0 hSw;(try dsimp only at hSw);go_simp;(try with_reducible rfl)
   try simp only[Act.put,zz1,zz2,zz3]
   refine zzL (i:=6) (v:=?_) rfl (fun _ _ _ h=>h) (Or.inl ⟨by rfl,?_⟩) a0 ?_
   rotate_left 1
   ·intro w0 hSw;(try dsimp only at hSw);go_simp;(try with_reducible rfl)
   try simp only[Act.put,zz1,zz2,zz3]
   refine q01 (i:=7) rfl (by kernel_rfl) (fun K hK=>?_)
   go_simp
   refine hK _ _ (Or.inr a1) ?_
   clear hK K
   try simp only[Act.put,zz1,zz2,zz3]
   refine q01 (i:=8) rfl (by kernel_rfl) (fun K hK=>?_)
   refine q11 rfl (.tmp 23) (.tmp 26) 83 rfl rfl rfl (uQ HRUN) ?_
   refine hK _ _ (Or.inr a2) ?_
   clear hK K
   try simp only[Act.put,zz1,zz2,zz3]
   refine q01 (i:=9) rfl (by kernel_rfl) (fun K hK=>?_)
   go_simp
   refine hK _ _ (Or.inr a2) ?_
   clear hK K
   try simp only[Act.put,zz1,zz2,zz3]
   refine zzL (i:=10) (v:=?_) rfl (fun _ _ _ h=>h) (Or.inl ⟨by rfl,?_⟩) a2 ?_
   rotate_left 1
   ·intro w0 hSw;(try dsimp only at hSw);go_simp;(try with_reducible rfl)
   try simp only[Act.put,zz1,zz2,zz3]
   refine q01 (i:=11) rfl (by kernel_rfl) (fun K hK=>?_)
   go_simp
   refine hK _ _ (Or.inl rfl) ?_
   clear hK K
   try simp only[Act.put,zz1,zz2,zz3]
   refine q0c (by kernel_rfl) ?_ _
   go_wp2
   go_roundw
   case rel=>exact ⟨i+1,_,by omega,by go_num,HFIN⟩
   case measure=>simp[intOf];omega
  ·obtain rfl:i=n:=by omega
   have hC:=uQ HC
   rw[uQ HEN]at hC
   clear HC HST HNX HNL HEN
   go_wp2
   go_ret
   exact ⟨rfl,_,hC⟩
open Go.RowKit Go.Shelf
theorem q6I (a name:ByteArray)(hw:Int)(mn:Bool)(ad:Option Addr)(n c nb:Nat)(w:World)(hc:w.cell? ⟨nb,0,none⟩=some (.string name)):
  Calls Tryz.prog 99 #[.agg #[.string a, .int .i64 hw, .bool mn, .slice ad n c], .pointer (some ⟨nb,0,none⟩)] w fun e w'=>e= .returned (.bool (a.toList==name.toList))/\Kp [] w w':=by
 have hk:=Kp.alloc w (.cells #[.string a, .int .i64 hw, .bool mn, .slice ad n c] 86)
 have hlt:=World.block_lt_of_cell? _ _ hc
 dsimp only at hlt
 have h1:=hk.cell hc (by simp)
 have h2:=(CBox.new w #[.string a, .int .i64 hw, .bool mn, .slice ad n c] 86).cell (i:=0) (v:= .string a) rfl
 go_enter Tryz.func99,Tryz.ntmps99
 go_wp2
 go_ret
 exact ⟨rfl,hk⟩
theorem qbw (a b:ByteArray):(a.toList==b.toList)=decide (a=b):=by
 rw[toList_data,toList_data]
 by_cases h:a=b
 ·subst h
  simp
 ·rw[decide_eq_false h]
  refine beq_eq_false_iff_ne.2 fun e=>h ?_
  exact ByteArray.ext (Array.ext' e)
def ixN (s:ByteArray)(l:List ByteArray):Int:=if fstN s l<l.length then (fstN s l:Int) else-1
theorem q6R (sa:Option Addr)(sc:Nat)(l:List SR)(name:ByteArray)(nb:Nat)(w:World)(h:StsAt w sa l)(h8:l.length<=8)(hc:w.cell? ⟨nb,0,none⟩=some (.string name)):
  Calls Tryz.prog 98 #[.slice sa l.length sc, .func (.func 99) #[] #[.pointer (some ⟨nb,0,none⟩)]] w fun e w'=>e= .returned (.int .i64 (ixN name (q00 (stgs l))))/\Kp [] w w':=by
 have HST:=hZq (fun (i:Nat) (hi:i<l.length) W (hk:Kp [] w W)=>(h.kp hk).at i hi)
 have HEQ:=hZq (fun (a:ByteArray) (hw:Int) (mn:Bool) (ad:Option Addr) (n c:Nat) W (hk:Kp [] w W)=>q6I a name hw mn ad n c nb W (hk.cell hc (by simp)))
 have HAT:Hid (∀i (hi:i<l.length),l[i].s.nm=(q00 (stgs l))[i]'(by rw[q0D,q03];exact hi)):=hZq (fun i hi=>by
  unfold q00
  rw[List.getElem_map,q16 hi])
 have HLN:Hid ((q00 (stgs l)).length=l.length):=hZq (by rw[q0D,q03])
 have HIX:Hid (∀i (hi:i<l.length),i<=fstN name (q00 (stgs l))->((l[i].s.nm.toList==name.toList)=true->ixN name (q00 (stgs l))=(i:Int))/\((l[i].s.nm.toList==name.toList)=false->i+1<=fstN name (q00 (stgs l)))):=hZq (fun i hi hle=>by
  have hx:=uQ HAT i hi
  have hln:=uQ HLN
  rw[qbw,hx]
  refine ⟨fun e=>?_,fun e=>?_⟩
  ·have e1:=of_decide_eq_true e
   have hlt:fstN name (q00 (stgs l))<(q00 (stgs l)).length:=(q2E _ _).2 (by rw[<-e1];exact List.getElem_mem _)
   have h2:=(q1v hlt).2
   have:fstN name (q00 (stgs l))=i:=by
    rcases Nat.lt_or_ge i (fstN name (q00 (stgs l)))with h3|h3
    ·exact absurd e1 (h2 i h3)
    ·omega
   unfold ixN
   rw[if_pos hlt,this]
  ·have e1:=of_decide_eq_false e
   rcases Nat.lt_or_ge i (fstN name (q00 (stgs l)))with h3|h3
   ·exact h3
   ·exfalso
    have he:fstN name (q00 (stgs l))=i:=by omega
    have hlt:fstN name (q00 (stgs l))<(q00 (stgs l)).length:=by omega
    have h4:=(q1v hlt).1
    refine e1 ?_
    rw[<-h4]
    congr 1
    exact he.symm)
 have HNO:Hid (l.length<=fstN name (q00 (stgs l))->ixN name (q00 (stgs l))= -1):=hZq (fun hle=>by
  unfold ixN
  rw[if_neg (by have:=uQ HLN;omega)])
 have hfl:=qcD name (q00 (stgs l))
 generalize ixN name (q00 (stgs l))=X at *
 generalize fstN name (q00 (stgs l))=fi at *
 clear h hc HAT hfl HLN
 obtain ⟨n,hn⟩: ∃n,l.length=n:=⟨_,rfl⟩
 have HN:=hZq hn
 rw[hn]at h8 HNO ⊢
 clear hn
 go_enter Tryz.func98,Tryz.ntmps98
 go_wp2_with fail
 go_loopw [8] (fun iv wr=> ∃(i:Nat),i<=n/\iv= .int .i64 (i:Int)/\Hid (i<=fi)/\Hid (Kp [] w wr)) (fun iv _=>n-(intOf iv).toNat)
 case atStart=>exact ⟨0,Nat.zero_le _,rfl,hZq (Nat.zero_le _),hZq (Kp.refl _ _)⟩
 case round=>
  obtain ⟨i,hi,rfl,HLE,HK⟩:=hrel
  by_cases hlt:i<n
  ·have hiT:i<l.length:=by rw[uQ HN];exact hlt
   have hli:(i:Int)<(n:Int):=by omega
   obtain ⟨sb,so,rfl, -,s0,s1,s2,s3, -⟩:=uQ HST i hiT wr (uQ HK)
   have HX:=hZq (uQ HIX i hiT (uQ HLE))
   have EQ:=hZq (uQ HEQ l[i].s.nm l[i].s.hw l[i].s.mn l[i].ad l[i].s.cd.length l[i].c wr (uQ HK))
   generalize l[i]=r at *
   obtain ⟨⟨rnm,rhw,rmn,rcd⟩,rad,rc⟩:=r
   dsimp only at s0 s1 s2 s3 HX EQ
   clear HIX HST HEQ HLE
   cases hb:(rnm.toList==name.toList)with
   |true=>
    have hX:=(uQ HX).1 hb
    rw[hb]at EQ
    clear HX hb
    go_wp2_with fail
    refine (uQ EQ).mono ?_
    rintro e w2 ⟨rfl,hk2⟩
    have hfin:=(uQ HK).trans hk2 (by simp)
    clear EQ hk2
    go_wp2
    go_ret
    exact ⟨by rw[hX];rfl,hfin⟩
   |false=>
    have hX:=hZq ((uQ HX).2 hb)
    rw[hb]at EQ
    clear HX hb
    go_wp2_with fail
    refine (uQ EQ).mono ?_
    rintro e w2 ⟨rfl,hk2⟩
    have hfin:=hZq ((uQ HK).trans hk2 (by simp))
    clear EQ hk2
    go_wp2
    go_roundw
    case rel=>exact ⟨i+1,by omega,by go_num,hX,hfin⟩
    case measure=>simp[intOf];omega
  ·obtain rfl:i=n:=by omega
   have hX:=uQ HNO (uQ HLE)
   have hk:=uQ HK
   clear HIX HST HEQ HLE HNO
   go_wp2
   go_ret
   exact ⟨by rw[hX];rfl,hk⟩
def asZ (l:List SR)(xs:List Pt):List Int:=(stgS xs).map fun s=>ixN s (q00 (stgs l))
theorem q2e (sa:Option Addr)(sc:Nat)(l:List SR)(wi:Int)(nm:ByteArray)(hw:Int)(mn:Bool)(ad:Option Addr)(c:Nat)(xs:List Pt)(w:World)(h:StsAt w sa l)(h8:l.length<=8)(hc:PtsAt w ad xs)(hT:TbE w)(hfit: ∀p∈xs,p.fit):
  Calls Tryz.prog 74 #[.agg #[.slice sa l.length sc, .int .i64 wi], .agg #[.string nm, .int .i64 hw, .bool mn, .slice ad xs.length c]] w fun e w'=> ∃v,e= .returned v/\IRo w' v (asZ l xs)/\(∀b,v.ownBlock=some b->w.heap.size<=b)/\Kp [] w w':=by
 have k1:=Kp.alloc w (.cells #[.slice sa l.length sc, .int .i64 wi] 24)
 have k2:=Kp.alloc (w.alloc (.cells #[.slice sa l.length sc, .int .i64 wi] 24)) (.cells #[.string nm, .int .i64 hw, .bool mn, .slice ad xs.length c] 86)
 have k12:=k1.trans k2 (by simp)
 have p0:=(CBox.new w #[.slice sa l.length sc, .int .i64 wi] 24).kp k2 (by simp)
 have s0:=CBox.new (w.alloc (.cells #[.slice sa l.length sc, .int .i64 wi] 24)) #[.string nm, .int .i64 hw, .bool mn, .slice ad xs.length c] 86
 rw[show (w.alloc (.cells #[.slice sa l.length sc, .int .i64 wi] 24)).heap.size=w.heap.size+1 by simp]at s0
 have c3:=s0.cell (i:=3) (v:= .slice ad xs.length c) rfl
 have SG:=hZq (q4b ad c xs _ (hc.kp k12) (hT.kp k12 (by simp)) hfit)
 have HP:Hid (∀W,Kp [] ((w.alloc (.cells #[.slice sa l.length sc, .int .i64 wi] 24)).alloc (.cells #[.string nm, .int .i64 hw, .bool mn, .slice ad xs.length c] 86)) W->W.cell? ⟨w.heap.size,0,none⟩=some (.slice sa l.length sc)/\Kp [] w W):=hZq (fun W hk=>⟨(p0.kp hk (by simp)).cell rfl,k12.trans hk (by simp)⟩)
 have HIX:=hZq (fun (name:ByteArray) (nb:Nat) W (hk:Kp [] w W) hcc=>q6R sa sc l name nb W (h.kp hk) h8 hcc)
 have hln:=q3O xs
 have HZ:Hid (∀k (hk:k<(stgS xs).length),((stgS xs).take (k+1)).map (fun s=>ixN s (q00 (stgs l)))=((stgS xs).take k).map (fun s=>ixN s (q00 (stgs l)))++[ixN (stgS xs)[k] (q00 (stgs l))]):=hZq (fun k hk=>by
  rw[List.take_add_one,List.getElem?_eq_getElem hk,List.map_append]
  rfl)
 have HE:Hid (((stgS xs).take (stgS xs).length).map (fun s=>ixN s (q00 (stgs l)))=asZ l xs):=hZq (by rw[List.take_length];rfl)
 have HLT:Hid (∀k,k<=(stgS xs).length->(((stgS xs).take k).map (fun s=>ixN s (q00 (stgs l)))).length=k):=hZq (fun k hk=>by rw[List.length_map,List.length_take];omega)
 generalize stgS xs=SS at *
 generalize q00 (stgs l)=NS at *
 generalize (if ckK xs=0 then (110:Int) else 0)=EC at *
 generalize asZ l xs=AZ at *
 generalize xs.length=xn at *
 clear h hc hT hfit k1 k2 k12 p0 s0
 generalize l.length=n at *
 obtain ⟨M,hM⟩: ∃M,SS.length=M:=⟨_,rfl⟩
 have HM:=hZq hM
 rw[hM]at hln HE
 clear hM
 go_enter Tryz.func74,Tryz.ntmps74
 go_wp2_with fail
 refine (uQ SG).mono ?_
 rintro e w1 ⟨v1,rfl,ho1,hb1⟩
 obtain ⟨a1,cp1,rfl,hnm1,_⟩:=ho1.at
 rw[uQ HM]
 have HK1:=hZq (Kp.ofBelow hb1)
 have HNM:=hZq hnm1
 clear SG hb1 ho1 hnm1 c3
 generalize (w.alloc (.cells #[.slice sa n sc, .int .i64 wi] 24)).alloc (.cells #[.string nm, .int .i64 hw, .bool mn, .slice ad xn c] 86)=W2 at *
 go_wp2_with fail
 go_loopw [7,18] (fun ov iv wr=> ∃(k:Nat) (a:Option Addr) (cc:Nat),k<=M/\iv= .int .i64 (k:Int)/\ov= .slice a k cc/\Hid (IRo wr (.slice a k cc) ((SS.take k).map (fun s=>ixN s NS))/\(∀b,(Value.slice a k cc).ownBlock=some b->w1.heap.size<=b)/\Kp [] w1 wr)) (fun _ iv _=>M-(intOf iv).toNat)
 case atStart=>exact ⟨0,none,0,Nat.zero_le _,rfl,rfl,hZq ⟨IRo.nil _,by simp[Value.ownBlock],Kp.refl _ _⟩⟩
 case round=>
  obtain ⟨k,a,cc,hk,rfl,rfl,HC⟩:=hrel
  by_cases hlt:k<M
  ·have hkS:k<SS.length:=by rw[uQ HM];exact hlt
   have hli:(k:Int)<(M:Int):=by omega
   obtain ⟨hI,hBk,hkr⟩:=uQ HC
   have hkw:=(uQ HK1).trans hkr (by simp)
   obtain ⟨nb,no,rfl,hnlt,hnc⟩:=((uQ HNM).kp hkr (by simp)) (fun e=>by rw[e]at hkS;simp at hkS)
   have n0:=hnc k hkS
   have ka:=Kp.alloc wr (.cells #[.string SS[k]] 9)
   have hna:=(CBox.new wr #[.string SS[k]] 9).cell (i:=0) (v:= .string SS[k]) rfl
   obtain ⟨hp,hwW⟩:=uQ HP _ (hkw.trans ka (by simp))
   have IX:=hZq (uQ HIX SS[k] wr.heap.size _ hwW hna)
   have HZk:=hZq (uQ HZ k hkS)
   have hlk:=uQ HLT k (by rw[uQ HM];exact hk)
   have HI2:=hZq (And.intro hI hBk)
   have HKR:=hZq hkr
   generalize SS[k]=nme at *
   generalize ixN nme NS=X at *
   generalize (SS.take k).map (fun s=>ixN s NS)=G at *
   clear HIX HP HNM hnc HZ HC hI hBk hkr hkw hwW HLT
   go_wp2_with fail
   refine (uQ IX).mono ?_
   rintro e w3 ⟨rfl,hk3⟩
   have kk:=(ka.trans hk3 (by simp)).trans (Kp.alloc w3 (.cells #[.int .i64 X] 3)) (by simp)
   have hI3:=(uQ HI2).1.kp kk (by simp)
   obtain ⟨g',cap',w',hrun,hI',hkp,hor⟩:=hI3.app X (g:=w3.heap.size) (c:=1) (CBox.new w3 _ _) (by rw[hlk];omega) 38
   rw[hlk]at hrun hI'
   have hsz:w1.heap.size<=w3.heap.size:=by
    have h1:=(uQ HKR).size
    have h2:=(ka.trans hk3 (by simp)).size
    omega
   have HFIN:Hid (IRo w' (.slice (some ⟨g',0,none⟩) (k+1) cap') ((SS.take (k+1)).map (fun s=>ixN s NS))/\(∀b,(Value.slice (some ⟨g',0,none⟩) (k+1) cap').ownBlock=some b->w1.heap.size<=b)/\Kp [] w1 w'):=by
    refine hZq ⟨by rw[uQ HZk];exact hI',fun b hb=>?_,((uQ HKR).trans kk (by simp)).trans hkp (fun x hx=>Or.inr ?_)⟩
    ·simp[Value.ownBlock]at hb
     subst hb
     rcases hor with hor|hor
     ·exact (uQ HI2).2 _ hor
     ·have:(w3.alloc (.cells #[.int .i64 X] 3)).heap.size=w3.heap.size+1:=by simp
      omega
    ·exact (uQ HI2).2 x (by simpa using hx)
   have HRUN:=hZq hrun
   clear IX hk3 kk hI3 hrun hI' hkp hor HI2 HKR HZk ka hna
   go_wp2_with (at_builtin;refine q0e rfl _ _ _ rfl rfl rfl (uQ HRUN) ?_)
   go_roundw
   case rel=>exact ⟨k+1,_,cap',by omega,by go_num,rfl,HFIN⟩
   case measure=>simp[intOf];omega
  ·obtain rfl:k=M:=by omega
   obtain ⟨h1,h2,h3⟩:=uQ HC
   rw[uQ HE]at h1
   have hkw:=(uQ HP wr ((uQ HK1).trans h3 (by simp))).2
   have hw1:=(uQ HP w1 (uQ HK1)).2.size
   clear HC HIX HP HNM HZ HLT
   go_wp2
   go_ret
   exact ⟨_,rfl,h1,fun b hb=>Nat.le_trans hw1 (h2 b hb),hkw⟩
end Go.Proofs.YtcmjnlpofebbmaaGreatDoor
