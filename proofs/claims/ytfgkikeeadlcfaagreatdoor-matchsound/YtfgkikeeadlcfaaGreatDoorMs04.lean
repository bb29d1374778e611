/-
  Walks.
-/
import Derived.Test.YtfgkikeeadlcfaaGreatDoorMs03
set_option maxRecDepth 100000
set_option maxHeartbeats 8000000
set_option linter.unusedSimpArgs false
namespace Go.Proofs.YtfgkikeeadlcfaaGreatDoor
open Go.RowKit Go.Shelf
attribute [local irreducible] opsV
theorem Rd.parts {gr:Nat}{lv tk:Value}{l:List Tk}{k d:Nat}{ps ps':List Pt}{W W':World}{pv pv':Value}(h:Rd gr lv tk l k d ps W)(hb:CBox gr (rdC lv tk k d pv) 254 W')(hbl:Below gr W W')(ho:W'.ownsRow (gr+1) 178 5 pv' ps'.length (ps'.flatMap ptE)):Rd gr lv tk l k d ps' (W'.setCell ⟨gr,74,none⟩ pv'):=by
 have c:=hb.set 74 pv'
 rw[qfk]at c
 have hlt:=(zB.1 hb).1
 exact ⟨(h.env.below hbl).below ((Kp.set W' gr 74 _).below (by omega) (by simp)),pv',c,q03 ho (Kp.set _ _ _ _) (fun g hg=>by have:=(ho.lt g hg).1;simp;omega)⟩
theorem q2U {gr:Nat}{lv tk:Value}{l:List Tk}{k d:Nat}{ps:List Pt}{W:World}(h:Rd gr lv tk l k d ps W)(p:Pt)(hk:k<=100000)(hps:ps.length<=1000000):
  Calls Tryz.prog 194 #[.pointer (some ⟨gr,0,none⟩),p.v] W fun e w'=>e= .returned (.bool true)/\Rd gr lv tk l (k+1) d (ps++[p]) w'/\Below gr W w':=by
 obtain ⟨pv,hb,ho⟩:=h.box
 have hgl:=(zB.1 hb).1
 have HR:=hZq h
 obtain ⟨kd,n,s,st,fl⟩:=p
 unfold Pt.v
 dsimp only
 obtain ⟨W1,hW1⟩: ∃W1,W1=W.alloc (.cells #[.int .i64 kd, .int .i64 n, .string s, .string st, .int .i64 fl] 178):=⟨_,rfl⟩
 have k1:Kp [] W W1:=by rw[hW1];exact Kp.alloc _ _
 have hbx:CBox W.heap.size #[.int .i64 kd, .int .i64 n, .string s, .string st, .int .i64 fl] 178 W1:=by rw[hW1];exact CBox.new _ _ _
 have hsW1:W1.heap.size=W.heap.size+1:=by rw[hW1];simp
 have hdis:gr∉pv.ownBlock.toList/\W.heap.size∉pv.ownBlock.toList:=⟨fun hx=>by have:=(ho.lt gr (by simpa using hx)).1;omega,fun hx=>by have:=(ho.lt _ (by simpa using hx)).2;omega⟩
 have HS:Hid (∀W',Kp pv.ownBlock.toList W1 W'->W'.cell? ⟨gr,74,none⟩=some pv/\W'.cell? ⟨W.heap.size,0,none⟩=some (.int .i64 kd)/\W'.cell? ⟨W.heap.size,1,none⟩=some (.int .i64 n)/\W'.cell? ⟨W.heap.size,2,none⟩=some (.string s)/\W'.cell? ⟨W.heap.size,3,none⟩=some (.string st)/\W'.cell? ⟨W.heap.size,4,none⟩=some (.int .i64 fl)):=hZq (fun W' hk'=>by
  have c1:=(hb.kp k1 (by simp)).kp hk' hdis.1
  have c2:=hbx.kp hk' hdis.2
  exact ⟨c1.cell (q21 lv tk k d pv),c2.cell rfl,c2.cell rfl,c2.cell rfl,c2.cell rfl,c2.cell rfl⟩)
 have HO:=hZq (q03 ho k1 (by simp))
 have HB:=hZq (hb.kp k1 (by simp))
 have HK1:=hZq k1
 obtain ⟨i0,hi0,hz0,hzs,hzb⟩:=q3l
 have hne: ∀g,pv.ownBlock=some g->gr+1<=g:=fun g hg=>(ho.lt g hg).1
 have HNE:=hZq hne
 clear h hb ho k1 hbx hne hdis
 go_enter Tryz.func194,Tryz.ntmps194
 go_wp2
 rw[<-hW1]
 clear hW1
 have hS:=uQ HS W1.drew ((Kp.drew _).mono (by simp))
 refine q0m (fun W'=>W'.cell? ⟨gr,74,none⟩=some pv/\W'.cell? ⟨W.heap.size,0,none⟩=some (.int .i64 kd)/\W'.cell? ⟨W.heap.size,1,none⟩=some (.int .i64 n)/\W'.cell? ⟨W.heap.size,2,none⟩=some (.string s)/\W'.cell? ⟨W.heap.size,3,none⟩=some (.string st)/\W'.cell? ⟨W.heap.size,4,none⟩=some (.int .i64 fl)) 10 (by kernel_rfl) ?_
 show q0a _ _ _ _ _ _ 11 (Array.replicate 11 false) _ _
 refine zzL (i:=0) (v:=?_) rfl (Or.inl ⟨by rfl,?_⟩) hS ?_
 rotate_left
 ·intro w0 s9;(try dsimp only at s9);go_simp;(try with_reducible rfl)
 try simp only[Act.put,zz1,zz2,zz3]
 refine zzL (i:=1) (v:=?_) rfl (Or.inl ⟨by rfl,?_⟩) hS ?_
 rotate_left
 ·intro w0 s9;(try dsimp only at s9);go_simp;(try with_reducible rfl)
 try simp only[Act.put,zz1,zz2,zz3]
 refine zzL (i:=2) (v:=?_) rfl (Or.inl ⟨by rfl,?_⟩) hS ?_
 rotate_left
 ·intro w0 s9;(try dsimp only at s9);go_simp;(try with_reducible rfl)
 try simp only[Act.put,zz1,zz2,zz3]
 refine zzL (i:=3) (v:=?_) rfl (Or.inl ⟨by rfl,?_⟩) hS ?_
 rotate_left
 ·intro w0 s9;(try dsimp only at s9);go_simp;(try with_reducible rfl)
 try simp only[Act.put,zz1,zz2,zz3]
 refine zzL (i:=4) (v:=?_) rfl (Or.inl ⟨by rfl,?_⟩) hS ?_
 rotate_left
 ·intro w0 s9;(try dsimp only at s9);go_simp;(try with_reducible rfl)
 try simp only[Act.put,zz1,zz2,zz3]
 refine zzL (i:=5) (v:=?_) rfl (Or.inl ⟨by rfl,?_⟩) hS ?_
 rotate_left
 ·intro w0 s9;(try dsimp only at s9);go_simp;(try with_reducible rfl)
 try simp only[Act.put,zz1,zz2,zz3]
 refine q01 (i:=6) rfl (by kernel_rfl) (fun K hK=>?_)
 go_simp
 have k2:Kp [] W1 (W1.alloc (.cells #[.int .i64 kd, .int .i64 n, .string s, .string st, .int .i64 fl] 178)).drew:=(Kp.alloc _ _).trans (Kp.drew _) (by simp)
 have hn2:CBox W1.heap.size #[.int .i64 kd, .int .i64 n, .string s, .string st, .int .i64 fl] 178 (W1.alloc (.cells #[.int .i64 kd, .int .i64 n, .string s, .string st, .int .i64 fl] 178)).drew:=CBox.new W1 _ _
 rw[hsW1]at hn2
 have hown:=q03 (uQ HO) k2 (by simp)
 have hsz2:gr+1<=(W1.alloc (.cells #[.int .i64 kd, .int .i64 n, .string s, .string st, .int .i64 fl] 178)).drew.heap.size:=by have:=k2.size;omega
 clear hS
 have hS:=uQ HS _ (k2.mono (by simp))
 refine hK _ _ (Or.inr hS) ?_
 try simp only[Act.put,zz1,zz2,zz3]
 generalize (W1.alloc (.cells #[.int .i64 kd, .int .i64 n, .string s, .string st, .int .i64 fl] 178)).drew=W2 at *
 refine q01 (i:=7) rfl (by kernel_rfl) (fun K hK=>?_)
 refine q0O rfl (.tmp 9) (.tmp 11) 86 rfl (gr+1) 178 i0 _ 5 56 Tryz.underlying86 hi0 hz0 hzs hzb rfl (by decide) pv ps.length _ rfl hown ⟨W.heap.size+1,0,none⟩ 1 1 [.int .i64 kd, .int .i64 n, .string s, .string st, .int .i64 fl] rfl rfl (fun j u hj=>by
  rw[Addr.add_lit]
  exact hn2.cell (i:=0+j) (by rw[Nat.zero_add];simpa using hj)) (by simp[Value.oneCell']) (by decide) (by unfold maxLen;omega) (by omega) hsz2 ?_
 rintro g5 cap5 w5 hw5 hgr hg5
 have hne:=uQ HNE
 have k5:Kp pv.ownBlock.toList W1 w5:=(k2.mono (by simp)).trans (Kp.of hgr) (fun x hx=>Or.inl hx)
 have hlow: ∀x∈pv.ownBlock.toList,gr+1<=x:=fun x hx=>hne x (by simpa using hx)
 have hb5:=(uQ HB).kp k5 (fun hx=>by have:=hlow _ hx;omega)
 have hbl5:Below gr W w5:=((uQ HK1).below (by omega) (by simp)).trans (k5.below (by omega) (fun x hx=>by have:=hlow x hx;omega))
 have HR6:=hZq (Rd.parts (pv':= .slice (some ⟨g5,0,none⟩) (ps.length+1) cap5) (ps':=ps++[⟨kd,n,s,st,fl⟩]) (uQ HR) hb5 hbl5 (by rw[zF,List.flatMap_append];exact hw5))
 have HB6:=hZq (hbl5.setCell (p:=⟨gr,74,none⟩) (zM _) (.slice (some ⟨g5,0,none⟩) (ps.length+1) cap5))
 have c74:=hb5.cell (q21 lv tk k d pv)
 have f74:=hb5.froz
 clear hS
 have hS:=uQ HS _ k5
 refine hK _ _ (Or.inr hS) ?_
 try simp only[Act.put,zz1,zz2,zz3]
 refine q01 (i:=8) rfl (by kernel_rfl) (fun K hK=>?_)
 go_simp
 refine hK _ _ (Or.inr hS) ?_
 try simp only[Act.put,zz1,zz2,zz3]
 refine q01 (i:=9) rfl (by kernel_rfl) (fun K hK=>?_)
 go_simp
 refine hK _ _ (Or.inr hS) ?_
 try simp only[Act.put,zz1,zz2,zz3]
 refine q01 (i:=10) rfl (by kernel_rfl) (fun K hK=>?_)
 go_simp
 refine hK _ _ (Or.inl rfl) ?_
 refine q0c (by kernel_rfl) ?_ _
 obtain ⟨c72,_,f72,_⟩:=(uQ HR6).cells
 clear hS c74 f74 hb5 hbl5 hw5 hgr hg5 hown hn2 k5 k2 hlow hne
 generalize w5.setCell ⟨gr,74,none⟩ (.slice (some ⟨g5,0,none⟩) (ps.length+1) cap5)=W6 at *
 go_wp2
 exact bodyPost_ret (results_tmp rfl _ _ _) rfl ⟨rfl,(uQ HR6).next,(uQ HB6).setCell (p:=⟨gr,72,none⟩) (zM _) _⟩
end Go.Proofs.YtfgkikeeadlcfaaGreatDoor
namespace Go.Proofs.YtfgkikeeadlcfaaGreatDoor
open Go.RowKit Go.Shelf
attribute [local irreducible] opsV
theorem q9O {n:Nat}{k:Int}(h:k∈lvO n):4<=k/\k<=13:=by
 unfold lvO at h
 repeat' split at h
 all_goals simp at h
 all_goals omega
theorem qdo (n:Nat):(lvO n).length<=4:=by
 unfold lvO
 repeat' split
 all_goals simp
theorem qdG {lv tk pv:Value}{k d:Nat}{kd:Nat}(h:kd<14):(rdC lv tk k d pv)[1+kd * 5]?=some (.string (txt (sgO (kd:Int)))):=by
 rw[qeI _ _ _ _ _ _ (by omega)]
 exact (q6i ⟨kd,h⟩).1
theorem qbF {n j:Nat}{s:List UInt8}(hj:j=(lvO n).length)(h: ∀x∈(lvO n).take j,s≠sgO x):opA n s=none:=by
 unfold opA
 rw[List.find?_eq_none]
 intro x hx
 rw[hj,List.take_length]at h
 simpa using h x hx
theorem qdv {n j:Nat}{s:List UInt8}(hj:j<(lvO n).length)(h: ∀x∈(lvO n).take j,s≠sgO x)(he:s=sgO ((lvO n)[j])):opA n s=some ((lvO n)[j]):=by
 unfold opA
 generalize lvO n=L at *
 induction L generalizing j with
 |nil=>simp at hj
 |cons a r ih=>
  cases j with
  |zero=>rw[List.find?_cons_of_pos (by simpa using he)];rfl
  |succ j=>
   have ha:=h a (by simp)
   rw[List.find?_cons_of_neg (by simpa using ha)]
   exact ih (by simpa using hj) (fun x hx=>h x (by simp[hx])) (by simpa using he)
def TkO (gr:Nat)(lv tk:Value)(l:List Tk)(k d:Nat)(ps:List Pt)(fr:Nat)(W:World)(o:Option Int)(e:Ending)(w':World):Prop:=match o with
 |some kk=>e= .returned (.bool true)/\Rd gr lv tk l (k+1) d (ps.take fr++opP kk::ps.drop fr) w'/\Below gr W w'
 |none=>e= .returned (.bool false)/\Rd gr lv tk l k d ps w'/\Below gr W w'
theorem q2T {gr:Nat}{lv tk:Value}{l:List Tk}{k d:Nat}{ps:List Pt}{W:World}(h:Rd gr lv tk l k d ps W){t:Tk}{r:List Tk}(ht:l.drop k=t::r)(n:Nat)(hn:n<6)(fr:Nat)(hf:fr<=ps.length)(hps:ps.length<=1000000):
  Calls Tryz.prog 192 #[.pointer (some ⟨gr,0,none⟩), .int .i64 (n:Int), .int .i64 (fr:Int)] W (TkO gr lv tk l k d ps fr W (opA n (wdT t))):=by
 obtain ⟨pv,hb,_⟩:=h.box
 have c0:=hb.cell (qct lv tk k d pv)
 have HR:=hZq h
 have HT:=hZq ht
 have HLV:=hZq (fun W' (hb:Below gr W W')=>h.env.lvs.below hb)
 obtain ⟨gl,hlv,hgl,hc⟩:=h.env.lvs
 obtain ⟨_,ov,c1,hov⟩:=hc n (by omega)
 obtain ⟨he,_⟩|⟨go,rfl,hgo,hco⟩:=hov
 ·exfalso
  unfold lvO at he
  repeat' split at he
  all_goals simp at he
  omega
 have HCO:=hZq (fun W' (hb:Below gr W W') (i:Nat) (hi:i<(lvO n).length)=>(hb.cell (p:=⟨go,i,none⟩) hgo).trans (hco i hi))
 have hlen:=qdo n
 rw[hlv]at c0
 have HLT:=hZq hlv
 obtain ⟨L,hL⟩: ∃L,(lvO n).length=L:=⟨_,rfl⟩
 rw[hL]at c1 hlen
 have HL:=hZq hL
 clear h ht hb hc hco hlv hL HLV
 go_enter Tryz.func192,Tryz.ntmps192
 go_wp2
 go_loopw [18] (fun i wr=> ∃j:Nat,j<=L/\i= .int .i64 (j:Int)/\Hid (Rd gr lv tk l k d ps wr/\Below gr W wr/\ ∀x∈(lvO n).take j,wdT t≠sgO x)) (fun i _=>L-(intOf i).toNat)
 case atStart=>exact ⟨0,Nat.zero_le _,rfl,hZq ⟨uQ HR,Below.refl _ _,by simp⟩⟩
 case round=>
  obtain ⟨j,hj,rfl,HI⟩:=hrel
  by_cases hjL:j<L
  ·have hjl:j<(lvO n).length:=by rw[uQ HL];exact hjL
   have cj:=uQ HCO wr (uQ HI).2.1 j hjl
   have hrg:=q9O (zJ hjl)
   have HHIT:=hZq (qdv hjl (uQ HI).2.2)
   have HMISS:Hid (wdT t≠sgO ((lvO n)[j])-> ∀x∈(lvO n).take (j+1),wdT t≠sgO x):=hZq (fun hne x hx=>by
    rw[List.take_succ_eq_append_getElem hjl]at hx
    rcases zG.1 hx with hx|hx
    ·exact (uQ HI).2.2 x hx
    ·rw[zD.1 hx];exact hne)
   generalize (lvO n)[j]=kk at *
   obtain ⟨q,rfl⟩: ∃q:Nat,kk=q:=⟨kk.toNat,by omega⟩
   have hq:q<14:=by omega
   obtain ⟨pw,hbw,how⟩:=(uQ HI).1.box
   have cs:=hbw.cell (qdG (lv:=lv) (tk:=tk) (k:=k) (d:=d) (pv:=pw) hq)
   have SK:=hZq (q2Q (uQ HI).1 (uQ HT) (txt (sgO (q:Int))))
   rw[q0y]at SK
   clear hbw how HCO
   generalize txt (sgO (q:Int))=SG at *
   by_cases he:wdT t=sgO (q:Int)
   ·rw[if_pos he,decide_eq_true he]at SK
    have HOP:Hid (opA n (wdT t)=some (q:Int)):=hZq (uQ HHIT he)
    clear HHIT HMISS he
    go_wp2_with fail
    refine (uQ SK).mono ?_
    rintro e w1 ⟨rfl,hr1,hb1⟩
    obtain ⟨pv1,hx1,ho1⟩:=hr1.box
    have hlt1:=(zB.1 hx1).1
    have c74:=hx1.cell (q21 lv tk (k+1) d pv1)
    have hal:=Kp.alloc w1 (.cells #[.int .i64 (q:Int), .int .i64 0, .string { data:=#[] }, .string { data:=#[] }, .int .i64 0] 178)
    have IN:=hZq (q8w (gr+1) pv1 ps fr (opP (q:Int)) w1.heap.size 1 (w1.alloc (.cells #[.int .i64 (q:Int), .int .i64 0, .string { data:=#[] }, .string { data:=#[] }, .int .i64 0] 178)) (q03 ho1 hal (by simp)) hf (by omega) (CBox.new w1 _ _) (fun e=>by have:=(ho1.lt _ e).2;omega) (by simp;omega))
    have HX:=hZq (And.intro (hx1.kp hal (by simp)) (And.intro (hal.below (B:=gr) (by omega) (by simp)) (And.intro hr1 (fun g hg=>(ho1.lt g hg).1))))
    have HW1:=hZq ((uQ HI).2.1.trans hb1)
    clear hr1 hb1 hx1 ho1 hal SK cs cj
    go_wp2_with fail
    refine (uQ IN).mono ?_
    rintro e w2 ⟨v',rfl,ho2,k2⟩
    obtain ⟨hx2,hbl2,hr1,hlow⟩:=uQ HX
    have hlow2: ∀x∈pv1.ownBlock.toList,gr+1<=x:=fun x hx=>hlow x (by simpa using hx)
    have hx3:=hx2.kp k2 (fun hx=>by have:=hlow2 _ hx;omega)
    have hbl3:=hbl2.trans (k2.below (by simp;omega) (fun x hx=>by have:=hlow2 x hx;omega))
    obtain ⟨g2,cap2,rfl,_,_⟩:=ho2.form (by omega)
    have c74':=hx3.cell (q21 lv tk (k+1) d pv1)
    have f74:=hx3.froz
    have HF:=hZq (And.intro hr1 (And.intro hx3 (And.intro hbl3 ho2)))
    clear hx2 hbl2 hlow hlow2 hx3 hbl3 ho2 k2 hr1 HX IN
    go_wp2
    refine bodyPost_ret (results_tmp rfl _ _ _) rfl ?_
    obtain ⟨hr1,hx3,hbl3,ho2⟩:=uQ HF
    unfold TkO
    rw[uQ HOP]
    have hll:(ps.take fr++opP (q:Int)::ps.drop fr).length=ps.length+1:=by simp;omega
    exact ⟨rfl,Rd.parts hr1 hx3 hbl3 (by rw[hll];exact ho2),((uQ HW1).trans hbl3).setCell (p:=⟨gr,74,none⟩) (zM _) _⟩
   ·rw[if_neg he,zK he]at SK
    have HM2:=hZq (uQ HMISS he)
    clear HHIT HMISS he
    go_wp2_with fail
    refine (uQ SK).mono ?_
    rintro e w1 ⟨rfl,hr1,hb1⟩
    have HI2:=hZq (And.intro hr1 (And.intro ((uQ HI).2.1.trans hb1) (uQ HM2)))
    clear hr1 hb1 SK HI cs cj
    go_wp2
    go_roundw
    case rel=>exact ⟨j+1,by omega,by go_num,HI2⟩
    case measure=>simp[intOf];omega
  ·obtain rfl:j=L:=by omega
   have HN:Hid (opA n (wdT t)=none):=hZq (qbF (uQ HL).symm (uQ HI).2.2)
   clear HCO
   go_wp2
   refine bodyPost_ret (results_tmp rfl _ _ _) rfl ?_
   unfold TkO
   rw[uQ HN]
   exact ⟨rfl,(uQ HI).1,(uQ HI).2.1⟩
end Go.Proofs.YtfgkikeeadlcfaaGreatDoor
namespace Go.Proofs.YtfgkikeeadlcfaaGreatDoor
open Go.RowKit Go.Shelf
attribute [local irreducible] opsV
def PR.rest:PR->List Tk
 | .bad r=>r
 | .good _ r=>r
theorem q0I {a r:List Tk}(t:Tk)(h:a<:+r):a<:+t::r:=h.trans (List.suffix_cons t r)
theorem q7E (st:ByteArray)(ts:List Tk):(fdE st ts).rest<:+ts:=by
 cases ts with
 |nil=>exact List.suffix_refl _
 |cons c r=>
  rw[fdE]
  split
  ·exact List.suffix_cons c r
  ·exact List.suffix_refl _
theorem qcI (t:Tk)(r:List Tk):(fdR t r).rest<:+t::r:=by
 unfold fdR
 split
 ·cases r with
  |nil=>exact q0I t (List.suffix_refl _)
  |cons c q=>
   dsimp only
   split
   ·exact q0I t (q0I c (q7E _ _))
   ·exact q0I t (List.suffix_refl _)
 ·exact q7E _ _
theorem qbV (x:List Pt)(q:List Tk):(shut x q).rest<:+q:=by
 cases q with
 |nil=>exact List.suffix_refl _
 |cons c q=>
  rw[shut]
  split
  ·exact List.suffix_cons c q
  ·exact List.suffix_refl _
theorem q7V (f:Nat): ∀(m d:Nat) (acc:List Pt) (ts:List Tk),(pRd f m d acc ts).rest<:+ts:=by
 induction f with
 |zero=>intro m d acc ts;rw[pRd];exact List.suffix_refl _
 |succ f ih=>
  intro m d acc ts
  cases ts with
  |nil=>rw[pRd];exact List.suffix_refl _
  |cons t r=>
   rw[pRd]
   by_cases h6:m=6
   ·rw[if_pos h6]
    split
    ·exact List.suffix_cons t r
    ·split
     ·exact List.suffix_cons t r
     ·split
      ·exact qcI t r
      ·split
       ·split
        ·have h1:=ih 0 (d+1) [] r
         cases hE:pRd f 0 (d+1) [] r with
         |bad q=>rw[hE]at h1;exact q0I t h1
         |good x q=>rw[hE]at h1;exact q0I t ((qbV x q).trans h1)
        ·exact List.suffix_cons t r
       ·exact List.suffix_refl _
   ·rw[if_neg h6]
    split
    ·split
     ·split
      ·have h1:=ih 2 (d+1) [] r
       cases hE:pRd f 2 (d+1) [] r with
       |bad q=>rw[hE]at h1;exact q0I t h1
       |good x q=>rw[hE]at h1;exact q0I t h1
      ·exact List.suffix_cons t r
     ·exact ih 3 d [] (t::r)
    ·split
     ·have h1:=ih 4 d [] (t::r)
      cases hE:pRd f 4 d [] (t::r)with
      |bad q=>rw[hE]at h1;exact h1
      |good x q=>
       rw[hE]at h1
       cases q with
       |nil=>exact h1
       |cons c q'=>
        dsimp only
        split
        ·exact h1
        ·have h2:=ih 4 d [] q'
         cases hE2:pRd f 4 d [] q' with
         |bad s=>rw[hE2]at h2;exact h2.trans ((List.suffix_cons c q').trans h1)
         |good y s=>rw[hE2]at h2;exact h2.trans ((List.suffix_cons c q').trans h1)
     ·split
      ·have h1:=ih (m+1) d [] (t::r)
       cases hE:pRd f (m+1) d [] (t::r)with
       |bad q=>rw[hE]at h1;exact h1
       |good x q=>rw[hE]at h1;exact (ih (m+10) d x q).trans h1
      ·split
       ·exact List.suffix_refl _
       ·have h1:=ih (m-10+1) d [] r
        cases hE:pRd f (m-10+1) d [] r with
        |bad q=>rw[hE]at h1;exact q0I t h1
        |good y q=>rw[hE]at h1;exact (ih m d _ q).trans (q0I t h1)
def RdR (gr:Nat)(lv tk:Value)(l:List Tk)(d:Nat)(ps:List Pt)(W:World)(o:PR)(e:Ending)(w':World):Prop:=match o with
 | .good x q=>e= .returned (.bool true)/\(∃k,l.drop k=q/\k<=l.length/\Rd gr lv tk l k d (ps++x) w')/\Below gr W w'
 | .bad q=>e= .returned (.bool false)/\(∃k ps',l.drop k=q/\k<=l.length/\Rd gr lv tk l k d ps' w')/\Below gr W w'
end Go.Proofs.YtfgkikeeadlcfaaGreatDoor
namespace Go.Proofs.YtfgkikeeadlcfaaGreatDoor
open Go.RowKit Go.Shelf
attribute [local irreducible] opsV
theorem q3t {gr:Nat}{lv tk:Value}{l:List Tk}{k d:Nat}{ps:List Pt}{W:World}(h:Rd gr lv tk l k d ps W):gr<=W.heap.size:=by
 have:=h.cells
 omega
theorem qb3 {gr:Nat}{lv tk:Value}{l:List Tk}{k d:Nat}{ps:List Pt}{W:World}(h:Rd gr lv tk l k d ps W){t:Tk}{r:List Tk}(ht:l.drop k=t::r)(hps:ps.length<=1000000)(hfr:q1L (wdT t)=false):
  Calls Tryz.prog 195 #[.pointer (some ⟨gr,0,none⟩)] W (RdR gr lv tk l d ps W (fdE (txt []) (t::r))):=by
 obtain ⟨hkl,_,hd1⟩:=q0f ht
 have hk:k<=100000:=by have:=h.env.len;omega
 have WD:=hZq (q27 h ht)
 have HR:=hZq h
 have HT:=hZq ht
 have FR:=hZq (fun w (hT:TbE w)=>q2K (wdS t) w hT)
 have FO:=hZq (fun w (hT:TbE w)=>q2m (wdS t) w hT)
 rw[q1g,hfr]at FR
 rw[q1g]at FO
 have hg:=q3t h
 have hpr:fdE (txt []) (t::r)=if 0<=q0n (wdT t) then .good [⟨3,0,txt [],txt [],q0n (wdT t)⟩] r else .bad (t::r):=rfl
 obtain ⟨F,hF⟩: ∃F,q0n (wdT t)=F:=⟨_,rfl⟩
 rw[hF]at FO hpr
 have HPR:=hZq hpr
 clear hpr
 generalize fdE (txt []) (t::r)=PRl at *
 clear h ht hfr hF
 go_enter Tryz.func195,Tryz.ntmps195
 go_wp2_with fail
 refine (uQ WD).mono ?_
 rintro e w1 ⟨rfl,hb1⟩
 have HR1:=hZq ((uQ HR).below hb1)
 have HB1:=hZq (hb1.mono hg)
 clear hb1 WD HR
 go_wp2_with fail
 refine (uQ FR w1 (uQ HR1).env.tab).mono ?_
 rintro e w1' ⟨rfl,rfl⟩
 have WD1:=hZq (q27 (uQ HR1) (uQ HT))
 clear FR
 go_wp2_with fail
 refine (uQ WD1).mono ?_
 rintro e w2 ⟨rfl,hb2⟩
 have HR2:=hZq ((uQ HR1).below hb2)
 have HB2:=hZq ((uQ HB1).trans (hb2.mono (q3t (uQ HR1))))
 clear hb2 WD1 HR1 HB1
 go_wp2_with fail
 refine (uQ FO w2 (uQ HR2).env.tab).mono ?_
 rintro e w2' ⟨rfl,rfl⟩
 clear FO
 by_cases h0:0<=F
 ·have h0':((0:Int)<=F)=True:=by simp[h0]
  have TA:=hZq (q2U (uQ HR2) ⟨3,0,txt [],txt [],F⟩ hk hps)
  unfold Pt.v at TA
  go_wp2_with fail
  refine (uQ TA).mono ?_
  rintro e w3 ⟨rfl,hr3,hb3⟩
  have HE:=hZq (And.intro hr3 ((uQ HB2).trans hb3))
  clear hr3 hb3 TA
  go_wp2
  refine bodyPost_ret (results_tmp rfl _ _ _) rfl ?_
  rw[uQ HPR,if_pos h0]
  exact ⟨rfl,⟨k+1,hd1,by omega,(uQ HE).1⟩,(uQ HE).2⟩
 ·have h0':((0:Int)<=F)=False:=by simp;omega
  go_wp2
  refine bodyPost_ret (results_tmp rfl _ _ _) rfl ?_
  rw[uQ HPR,if_neg (by omega)]
  exact ⟨rfl,⟨k,ps,uQ HT,by omega,uQ HR2⟩,uQ HB2⟩
theorem qb4 {gr:Nat}{lv tk:Value}{l:List Tk}{k d:Nat}{ps:List Pt}{W:World}(h:Rd gr lv tk l k d ps W){t c:Tk}{q:List Tk}(ht:l.drop k=t::c::q)(hk1:t.kd=1)(hq:wdT c=[46]->q≠[])(hps:ps.length<=1000000)(hfr:q1L (wdT t)=true):
  Calls Tryz.prog 195 #[.pointer (some ⟨gr,0,none⟩)] W (RdR gr lv tk l d ps W (if wdT c=[46] then fdE t.s q else .bad (c::q))):=by
 obtain ⟨hkl,hat,hd1⟩:=q0f ht
 obtain ⟨hkl1,_,hd2⟩:=q0f hd1
 have hk:k<=90000000:=by have:=h.env.len;omega
 have hk2:k+1+1<=100000:=by have:=h.env.len;omega
 have WD:=hZq (q27 h ht)
 have HR:=hZq h
 have HT1:=hZq hd1
 have HT2:=hZq hd2
 have hws:wdS t=t.s:=by unfold wdS;rw[if_pos (Or.inl hk1)]
 have hsz:t.s.size<=281474976710656:=by have:=h.env.ok t (by rw[<-hat];exact zJ hkl);omega
 have FR:=hZq (fun w (hT:TbE w)=>q2K (wdS t) w hT)
 have CL:=hZq (fun w=>q1H t.s w hsz)
 rw[q1g,hfr,hws]at FR
 rw[hws]at WD
 have hg:=q3t h
 have SK:=hZq (fun W' (hr:Rd gr lv tk l (k+1) d ps W')=>q2Q hr hd1 ⟨#[46]⟩)
 rw[show (⟨#[46]⟩:ByteArray).data.toList=[46] from rfl]at SK
 clear h ht hfr hat hws hsz hd1 hd2
 obtain ⟨PRl,hpr⟩: ∃P,(if wdT c=[46] then fdE t.s q else .bad (c::q))=P:=⟨_,rfl⟩
 rw[hpr]
 have HPR:=hZq hpr
 clear hpr
 generalize t.s=ST at *
 go_enter Tryz.func195,Tryz.ntmps195
 go_wp2_with fail
 refine (uQ WD).mono ?_
 rintro e w1 ⟨rfl,hb1⟩
 have HR1:=hZq ((uQ HR).below hb1)
 have HB1:=hZq (hb1.mono hg)
 clear hb1 WD HR
 go_wp2_with fail
 refine (uQ FR w1 (uQ HR1).env.tab).mono ?_
 rintro e w1' ⟨rfl,rfl⟩
 clear FR
 go_wp2_with fail
 refine (uQ CL w1').mono ?_
 rintro e w2 ⟨rfl,hb2⟩
 have HR2:=hZq ((uQ HR1).below hb2)
 have HB2:=hZq ((uQ HB1).trans (hb2.mono (q3t (uQ HR1))))
 obtain ⟨c72,_,f72,_⟩:=(uQ HR2).cells
 have HR3:=hZq (uQ HR2).next
 have HB3:=hZq ((uQ HB2).setCell (p:=⟨gr,72,none⟩) (zM _) (.int .i64 ((k:Int)+1)))
 clear hb2 HR1 HB1 CL HR2 HB2
 go_wp2_with fail
 refine (uQ SK _ (uQ HR3)).mono ?_
 rintro e w3 ⟨rfl,hr3,hb3⟩
 have HB4:=hZq ((uQ HB3).trans hb3)
 have HR4:=hZq hr3
 clear hr3 hb3 c72 f72 SK HB3 HR3
 by_cases hc:wdT c=[46]
 ·rw[if_pos hc]at HR4 HPR
  rw[decide_eq_true hc]
  obtain ⟨x,s,rfl⟩: ∃x s,q=x::s:=by
   cases q with
   |nil=>exact absurd rfl (hq hc)
   |cons x s=>exact ⟨x,s,rfl⟩
  obtain ⟨hkl2,_,hd3⟩:=q0f (uQ HT2)
  have WD2:=hZq (q27 (uQ HR4) (uQ HT2))
  have FO:=hZq (fun w (hT:TbE w)=>q2m (wdS x) w hT)
  rw[q1g]at FO
  have hpr:fdE ST (x::s)=if 0<=q0n (wdT x) then .good [⟨3,0,txt [],ST,q0n (wdT x)⟩] s else .bad (x::s):=rfl
  rw[hpr]at HPR
  obtain ⟨F,hF⟩: ∃F,q0n (wdT x)=F:=⟨_,rfl⟩
  rw[hF]at FO HPR
  clear hpr hF hc hq
  go_wp2_with fail
  refine (uQ WD2).mono ?_
  rintro e w4 ⟨rfl,hb4⟩
  have HR5:=hZq ((uQ HR4).below hb4)
  have HB5:=hZq ((uQ HB4).trans (hb4.mono (q3t (uQ HR4))))
  clear hb4 WD2 HR4 HB4
  go_wp2_with fail
  refine (uQ FO w4 (uQ HR5).env.tab).mono ?_
  rintro e w4' ⟨rfl,rfl⟩
  clear FO
  by_cases h0:0<=F
  ·have h0':((0:Int)<=F)=True:=by simp[h0]
   have TA:=hZq (q2U (uQ HR5) ⟨3,0,txt [],ST,F⟩ hk2 hps)
   unfold Pt.v at TA
   go_wp2_with fail
   refine (uQ TA).mono ?_
   rintro e w5 ⟨rfl,hr6,hb6⟩
   have HE:=hZq (And.intro hr6 ((uQ HB5).trans hb6))
   clear hr6 hb6 TA
   go_wp2
   refine bodyPost_ret (results_tmp rfl _ _ _) rfl ?_
   rw[<-uQ HPR,if_pos h0]
   exact ⟨rfl,⟨k+1+1+1,hd3,by omega,(uQ HE).1⟩,(uQ HE).2⟩
  ·have h0':((0:Int)<=F)=False:=by simp;omega
   go_wp2
   refine bodyPost_ret (results_tmp rfl _ _ _) rfl ?_
   rw[<-uQ HPR,if_neg (by omega)]
   exact ⟨rfl,⟨k+1+1,ps,uQ HT2,by omega,uQ HR5⟩,uQ HB5⟩
 ·rw[if_neg hc]at HR4 HPR
  rw[zK hc]
  clear hc
  go_wp2
  refine bodyPost_ret (results_tmp rfl _ _ _) rfl ?_
  rw[<-uQ HPR]
  exact ⟨rfl,⟨k+1,ps,uQ HT1,by omega,uQ HR4⟩,uQ HB4⟩
theorem q9m {gr:Nat}{lv tk:Value}{l:List Tk}{k d:Nat}{ps:List Pt}{W:World}(h:Rd gr lv tk l k d ps W){t:Tk}{r:List Tk}(ht:l.drop k=t::r)(hk1:t.kd=1)(hE:Endd (t::r))(hps:ps.length<=1000000):
  Calls Tryz.prog 195 #[.pointer (some ⟨gr,0,none⟩)] W (RdR gr lv tk l d ps W (fdR t r)):=by
 unfold fdR
 cases hf:q1L (wdT t)with
 |false=>exact qb3 h ht hps hf
 |true=>
  have hr:=hE.tail (by omega)
  cases r with
  |nil=>exact absurd rfl hr.ne
  |cons c q=>exact qb4 h ht hk1 (fun hc=>(hr.tail (q0R (by rw[hc];simp))).ne) hps hf
end Go.Proofs.YtfgkikeeadlcfaaGreatDoor
namespace Go.Proofs.YtfgkikeeadlcfaaGreatDoor
open Go.RowKit Go.Shelf
attribute [local irreducible] opsV
def RdOK (f:Nat):Prop:= ∀(gr:Nat) (lv tk:Value) (l:List Tk) (k d:Nat) (ps:List Pt) (W:World) (m:Nat),Rd gr lv tk l k d ps W->m<=6->Endd (l.drop k)->d<=200->ps.length+(l.drop k).length<=500000->mRd m (l.drop k)<=f->
 Calls Tryz.prog 157 #[.pointer (some ⟨gr,0,none⟩), .int .i64 (m:Int)] W (RdR gr lv tk l d ps W (pRd f m d [] (l.drop k)))
theorem Rd.deep {gr:Nat}{lv tk:Value}{l:List Tk}{k d:Nat}{ps:List Pt}{W:World}(h:Rd gr lv tk l k d ps W)(d':Nat):Rd gr lv tk l k d' ps (W.setCell ⟨gr,73,none⟩ (.int .i64 (d':Int))):=by
 obtain ⟨pv,h1,h2⟩:=h.box
 have hlt:=(zB.1 h1).1
 have c:=h1.set 73 (.int .i64 (d':Int))
 rw[qfi]at c
 exact ⟨h.env.below ((Kp.set W gr 73 _).below (by omega) (by simp)),pv,c,q03 h2 (Kp.set _ _ _ _) (fun g hg=>by have:=(h2.lt g hg).1;simp;omega)⟩
def PR.ok:PR->Bool
 | .bad _=>false
 | .good _ _=>true
def PR.st (o:PR)(ps:List Pt)(ps':List Pt):Prop:=match o with
 | .good x _=>ps'=ps++x
 | .bad _=>True
theorem RdR.to {gr:Nat}{lv tk:Value}{l:List Tk}{d:Nat}{ps:List Pt}{W:World}{o:PR}{e:Ending}{w':World}(h:RdR gr lv tk l d ps W o e w'):e= .returned (.bool o.ok)/\ ∃k ps',l.drop k=o.rest/\k<=l.length/\Rd gr lv tk l k d ps' w'/\o.st ps ps'/\Below gr W w':=by
 cases o with
 |bad q=>obtain ⟨rfl,⟨k,ps',h1,h2,h3⟩,h4⟩:=h;exact ⟨rfl,k,ps',h1,h2,h3,trivial,h4⟩
 |good x q=>obtain ⟨rfl,⟨k,h1,h2,h3⟩,h4⟩:=h;exact ⟨rfl,k,_,h1,h2,h3,rfl,h4⟩
theorem RdR.of {gr:Nat}{lv tk:Value}{l:List Tk}{k d:Nat}{ps ps':List Pt}{W:World}{o:PR}{w':World}(h1:l.drop k=o.rest)(h2:k<=l.length)(h3:Rd gr lv tk l k d ps' w')(hs:o.st ps ps')(h4:Below gr W w'):RdR gr lv tk l d ps W o (.returned (.bool o.ok)) w':=by
 cases o with
 |bad q=>exact ⟨rfl,⟨k,ps',h1,h2,h3⟩,h4⟩
 |good x q=>obtain rfl:=hs;exact ⟨rfl,⟨k,h1,h2,h3⟩,h4⟩
def inP (f n d:Nat)(ts:List Tk):PR:=if d+1<=200 then pRd f n (d+1) [] ts else .bad ts
theorem q4Y {f:Nat}(IH:RdOK f){gr:Nat}{lv tk:Value}{l:List Tk}{k d:Nat}{ps:List Pt}{W:World}(h:Rd gr lv tk l k d ps W)(n:Nat)(hn:n<=6)(hE:Endd (l.drop k))(hd:d<=200)(hps:ps.length+(l.drop k).length<=500000)(hm:mRd n (l.drop k)<=f)(hkl:k<=l.length):
  Calls Tryz.prog 193 #[.pointer (some ⟨gr,0,none⟩), .int .i64 (n:Int)] W (RdR gr lv tk l d ps W (inP f n d (l.drop k))):=by
 obtain ⟨_,c73,fz,hgl⟩:=h.cells
 have e1:((d:Int)+1)=((d+1:Nat):Int):=by omega
 have HD:=hZq (h.deep (d+1))
 rw[<-e1]at HD
 have HB:=hZq ((Below.refl gr W).setCell (p:=⟨gr,73,none⟩) (zM _) (.int .i64 ((d:Int)+1)))
 have HRD:Hid (∀W',Rd gr lv tk l k (d+1) ps W'->d+1<=200->Calls Tryz.prog 157 #[.pointer (some ⟨gr,0,none⟩), .int .i64 (n:Int)] W' (RdR gr lv tk l (d+1) ps W' (pRd f n (d+1) [] (l.drop k)))):=hZq (fun W' hr hd'=>IH gr lv tk l k (d+1) ps W' n hr hn hE hd' hps hm)
 obtain ⟨P,hP⟩: ∃P,inP f n d (l.drop k)=P:=⟨_,rfl⟩
 rw[hP]
 have HP:=hZq hP
 clear h hE hm hP e1 IH
 by_cases hdd:d+1<=200
 ·have hc1:((d:Int)+1<=200)=True:=by simp;omega
  have HP2:Hid (pRd f n (d+1) [] (l.drop k)=P):=hZq (by rw[<-uQ HP];unfold inP;rw[if_pos hdd])
  have RD:=hZq (uQ HRD _ (uQ HD) hdd)
  rw[uQ HP2]at RD
  have c73':=(uQ HD).cells.2.1
  have e2:((d+1:Nat):Int)=(d:Int)+1:=by omega
  rw[e2]at c73'
  have hw:IntKind.i64.wrap ((d:Int)+1-1)=(d:Int):=by rw[IntKind.wrap_i64];omega
  clear HRD HP HP2
  go_enter Tryz.func193,Tryz.ntmps193
  go_wp2_with fail
  refine (uQ RD).mono ?_
  intro e w1 hR
  obtain ⟨rfl,k1,ps1,a1,a2,a3,a4,a5⟩:=hR.to
  obtain ⟨_,d73,fz1,_⟩:=a3.cells
  rw[e2]at d73
  have HF:=hZq (And.intro a1 (And.intro a2 (And.intro (a3.deep d) (And.intro a4 (((uQ HB).trans a5).setCell (p:=⟨gr,73,none⟩) (zM _) (.int .i64 (d:Int)))))))
  clear hR a1 a2 a3 a4 a5 RD HD HB c73 c73' fz e2
  generalize hok:P.ok=b at *
  have HOK:=hZq hok
  clear hok
  go_wp2
  refine bodyPost_ret (results_tmp rfl _ _ _) rfl ?_
  obtain ⟨q1,q2,q3,q4,q5⟩:=uQ HF
  have:=RdR.of q1 q2 q3 q4 q5
  rw[uQ HOK]at this
  exact this
 ·have hc1:((d:Int)+1<=200)=False:=by simp;omega
  obtain rfl:P= .bad (l.drop k):=by rw[<-uQ HP];unfold inP;rw[if_neg hdd]
  have c73':=(uQ HD).cells.2.1
  have fz':=(uQ HD).cells.2.2.1
  have e2:((d+1:Nat):Int)=(d:Int)+1:=by omega
  rw[e2]at c73'
  have HF:=hZq (And.intro ((uQ HD).deep d) ((uQ HB).setCell (p:=⟨gr,73,none⟩) (zM _) (.int .i64 (d:Int))))
  have hw:IntKind.i64.wrap ((d:Int)+1-1)=(d:Int):=by rw[IntKind.wrap_i64];omega
  clear HRD HP e2
  go_enter Tryz.func193,Tryz.ntmps193
  go_wp2
  refine bodyPost_ret (results_tmp rfl _ _ _) rfl ?_
  exact ⟨rfl,⟨k,ps,rfl,hkl,(uQ HF).1⟩,(uQ HF).2⟩
def preO (kk:Int):PR->PR
 | .bad q=> .bad q
 | .good x q=> .good (opP kk::x) q
theorem qer {f d:Nat}{t:Tk}{r:List Tk}(h:opA 2 (wdT t)=none):pRd (f+1) 2 d [] (t::r)=pRd f 3 d [] (t::r):=by rw[pRd,if_neg (by omega),if_pos rfl,h]
theorem qes {f d:Nat}{t:Tk}{r:List Tk}{kk:Int}(h:opA 2 (wdT t)=some kk):pRd (f+1) 2 d [] (t::r)=preO kk (inP f 2 d r):=by
 rw[pRd,if_neg (by omega),if_pos rfl,h]
 unfold inP
 dsimp only
 split
 ·cases pRd f 2 (d+1) [] r <;> rfl
 ·rfl
theorem RdR.pre {gr:Nat}{lv tk:Value}{l:List Tk}{d:Nat}{ps:List Pt}{W W1:World}{o:PR}{kk:Int}{e:Ending}{w':World}(h:RdR gr lv tk l d (ps++[opP kk]) W1 o e w')(hb:Below gr W W1):RdR gr lv tk l d ps W (preO kk o) e w':=by
 cases o with
 |bad q=>exact ⟨h.1,h.2.1,hb.trans h.2.2⟩
 |good x q=>
  obtain ⟨k,a1,a2,a3⟩:=h.2.1
  exact ⟨h.1,⟨k,a1,a2,by rw[List.append_assoc]at a3;exact a3⟩,hb.trans h.2.2⟩
theorem RdR.ret {gr:Nat}{lv tk:Value}{l:List Tk}{d:Nat}{ps:List Pt}{W:World}{o:PR}{e:Ending}{w':World}(h:RdR gr lv tk l d ps W o e w'):e= .returned (.bool o.ok):=by cases o <;> exact h.1
theorem Rd.len {gr:Nat}{lv tk:Value}{l:List Tk}{k d:Nat}{ps:List Pt}{W:World}(h:Rd gr lv tk l k d ps W): ∃(ad:Option Addr) (cap:Nat),W.cell? ⟨gr,74,none⟩=some (.slice ad ps.length cap):=by
 obtain ⟨pv,h1,h2⟩:=h.box
 obtain ⟨_,⟨rfl,h0⟩|⟨g,cap,cur,rfl,_⟩⟩:=h2
 ·exact ⟨none,0,by rw[h0];exact h1.cell (q21 lv tk k d _)⟩
 ·exact ⟨_,cap,h1.cell (q21 lv tk k d _)⟩
theorem q8m {f:Nat}(IH:RdOK f){gr:Nat}{lv tk:Value}{l:List Tk}{k d:Nat}{ps:List Pt}{W:World}(h:Rd gr lv tk l k d ps W){t:Tk}{r:List Tk}(ht:l.drop k=t::r)(hE:Endd (t::r))(hd:d<=200)(hps:ps.length+(t::r).length<=500000)(hm:mRd 2 (t::r)<=f+1):
  Calls Tryz.prog 177 #[.pointer (some ⟨gr,0,none⟩), .int .i64 2] W (RdR gr lv tk l d ps W (pRd (f+1) 2 d [] (t::r))):=by
 obtain ⟨hkl,_,hd1⟩:=q0f ht
 obtain ⟨ad,cap,c74⟩:=h.len
 have hlr:(t::r).length=r.length+1:=rfl
 have hmm:8 * (r.length+1)+7-2<=f+1:=by rw[q0Q (by omega)]at hm;exact hm
 have TO:Hid (Calls Tryz.prog 192 #[.pointer (some ⟨gr,0,none⟩), .int .i64 2, .int .i64 (ps.length:Int)] W (TkO gr lv tk l k d ps ps.length W (opA 2 (wdT t)))):=hZq (q2T h ht 2 (by omega) ps.length (zM _) (by omega))
 have HIH:=hZq IH
 have HT:=hZq ht
 have HE:=hZq hE
 cases ho:opA 2 (wdT t)with
 |none=>
  rw[ho]at TO
  rw[qer ho]
  obtain ⟨P,hP⟩: ∃P,pRd f 3 d [] (t::r)=P:=⟨_,rfl⟩
  have HPR:=hZq hP
  rw[hP]
  clear hP hE ht IH h ho hm
  go_enter Tryz.func177,Tryz.ntmps177
  go_wp2_with fail
  refine (uQ TO).mono ?_
  rintro e w1 ⟨rfl,hr1,hb1⟩
  have RD:Hid (Calls Tryz.prog 157 #[.pointer (some ⟨gr,0,none⟩), .int .i64 3] w1 (RdR gr lv tk l d ps w1 (pRd f 3 d [] (l.drop k)))):=hZq (uQ HIH gr lv tk l k d ps w1 3 hr1 (by omega) (by rw[uQ HT];exact uQ HE) hd (by rw[uQ HT];exact hps) (by rw[uQ HT,q0Q (by omega),hlr];omega))
  rw[uQ HT,uQ HPR]at RD
  have HB1:=hZq hb1
  clear hr1 hb1 TO HIH c74
  go_wp2_with fail
  refine (uQ RD).mono ?_
  intro e w2 hR
  obtain ⟨rfl,k1,ps1,a1,a2,a3,a4,a5⟩:=hR.to
  have HF:=hZq (And.intro a1 (And.intro a2 (And.intro a3 (And.intro a4 ((uQ HB1).trans a5)))))
  clear hR a1 a2 a3 a4 a5 RD HB1
  generalize hok:P.ok=b at *
  have HOK:=hZq hok
  clear hok
  go_wp2
  refine bodyPost_ret (results_tmp rfl _ _ _) rfl ?_
  obtain ⟨q1,q2,q3,q4,q5⟩:=uQ HF
  have:=RdR.of q1 q2 q3 q4 q5
  rw[uQ HOK]at this
  exact this
 |some kk=>
  rw[ho]at TO
  rw[qes ho]
  have hEr:=hE.tail (q2w ho)
  obtain ⟨Q,hQ⟩: ∃Q,inP f 2 d r=Q:=⟨_,rfl⟩
  rw[hQ]
  have IN0:=fun w1 (hr1:Rd gr lv tk l (k+1) d (ps++[opP kk]) w1)=>q4Y IH hr1 2 (by omega) (by rw[hd1];exact hEr) hd (by rw[hd1,zF];simp at hps ⊢;omega) (by rw[hd1,q0Q (by omega)];omega) (by omega)
  rw[hd1,hQ]at IN0
  have HIN:=hZq IN0
  clear hE ht IH h ho hm hEr IN0 hQ HIH HE HT
  go_enter Tryz.func177,Tryz.ntmps177
  go_wp2_with fail
  refine (uQ TO).mono ?_
  rintro e w1 ⟨rfl,hr1,hb1⟩
  rw[List.take_length,List.drop_length]at hr1
  have RD:Hid (Calls Tryz.prog 193 #[.pointer (some ⟨gr,0,none⟩), .int .i64 2] w1 (RdR gr lv tk l d (ps++[opP kk]) w1 Q)):=hZq (uQ HIN w1 hr1)
  have HB1:=hZq hb1
  clear hr1 hb1 TO HIN c74
  go_wp2_with fail
  refine (uQ RD).mono ?_
  intro e w2 hR
  obtain rfl:=hR.ret
  have HF:=hZq (hR.pre (uQ HB1))
  clear hR RD HB1
  generalize preO kk Q=PQ at *
  generalize Q.ok=b at *
  go_wp2
  refine bodyPost_ret (results_tmp rfl _ _ _) rfl ?_
  exact uQ HF
end Go.Proofs.YtfgkikeeadlcfaaGreatDoor
namespace Go.Proofs.YtfgkikeeadlcfaaGreatDoor
open Go.RowKit Go.Shelf
attribute [local irreducible] opsV
def midO (kk:Int)(x:List Pt):PR->PR
 | .bad s=> .bad s
 | .good y s=> .good (opP kk::(x++y)) s
theorem qet {f d:Nat}{t:Tk}{r q:List Tk}(h:pRd f 4 d [] (t::r)= .bad q):pRd (f+1) 3 d [] (t::r)= .bad q:=by rw[pRd,if_neg (by omega),if_neg (by omega),if_pos rfl,h]
theorem qeu {f d:Nat}{t c:Tk}{r q:List Tk}{x:List Pt}(h:pRd f 4 d [] (t::r)= .good x (c::q))(ho:opA 3 (wdT c)=none):pRd (f+1) 3 d [] (t::r)= .good x (c::q):=by
 rw[pRd,if_neg (by omega),if_neg (by omega),if_pos rfl,h]
 dsimp only
 rw[ho]
theorem qev {f d:Nat}{t c:Tk}{r q:List Tk}{x:List Pt}{kk:Int}(h:pRd f 4 d [] (t::r)= .good x (c::q))(ho:opA 3 (wdT c)=some kk):pRd (f+1) 3 d [] (t::r)=midO kk x (pRd f 4 d [] q):=by
 rw[pRd,if_neg (by omega),if_neg (by omega),if_pos rfl,h]
 dsimp only
 rw[ho]
 dsimp only
 cases pRd f 4 d [] q <;> rfl
theorem RdR.mid {gr:Nat}{lv tk:Value}{l:List Tk}{d:Nat}{ps x:List Pt}{W W1:World}{o:PR}{kk:Int}{e:Ending}{w':World}(h:RdR gr lv tk l d (ps++opP kk::x) W1 o e w')(hb:Below gr W W1):RdR gr lv tk l d ps W (midO kk x o) e w':=by
 cases o with
 |bad q=>exact ⟨h.1,h.2.1,hb.trans h.2.2⟩
 |good y q=>
  obtain ⟨k,a1,a2,a3⟩:=h.2.1
  exact ⟨h.1,⟨k,a1,a2,by rw[List.append_assoc,List.cons_append]at a3;exact a3⟩,hb.trans h.2.2⟩
theorem q9G (ps x:List Pt)(p:Pt):(ps++x).take ps.length++p::(ps++x).drop ps.length=ps++p::x:=by
 rw[List.take_left',List.drop_left'] <;> rfl
theorem qbG {f:Nat}(IH:RdOK f){gr:Nat}{lv tk:Value}{l:List Tk}{k d:Nat}{ps:List Pt}{W:World}(h:Rd gr lv tk l k d ps W){t:Tk}{r:List Tk}(ht:l.drop k=t::r)(hE:Endd (t::r))(hd:d<=200)(hps:ps.length+(t::r).length<=500000)(hm:mRd 3 (t::r)<=f+1):
  Calls Tryz.prog 178 #[.pointer (some ⟨gr,0,none⟩), .int .i64 3] W (RdR gr lv tk l d ps W (pRd (f+1) 3 d [] (t::r))):=by
 obtain ⟨ad,cap,c74⟩:=h.len
 have hlr:(t::r).length=r.length+1:=rfl
 have hmm:8 * (r.length+1)+7-3<=f+1:=by rw[q0Q (by omega)]at hm;exact hm
 have RD:Hid (Calls Tryz.prog 157 #[.pointer (some ⟨gr,0,none⟩), .int .i64 4] W (RdR gr lv tk l d ps W (pRd f 4 d [] (t::r)))):=hZq (by
  have:=IH gr lv tk l k d ps W 4 h (by omega) (by rw[ht];exact hE) hd (by rw[ht];exact hps) (by rw[ht,q0Q (by omega),hlr];omega)
  rw[ht]at this
  exact this)
 obtain ⟨ok1,ok2⟩:=q2z f 4 d [] (t::r) hE
 rw[if_pos (by omega)]at ok1
 have ok2:=ok2 (by omega)
 have HIH:=hZq IH
 cases hA:pRd f 4 d [] (t::r)with
 |bad q=>
  rw[hA]at RD
  rw[qet hA]
  clear h ht hE hps hm hmm hlr IH HIH ok1 ok2 hA
  go_enter Tryz.func178,Tryz.ntmps178
  go_wp2_with fail
  refine (uQ RD).mono ?_
  intro e w1 hR
  obtain rfl:e= .returned (.bool false):=hR.ret
  have HF:=hZq hR
  clear hR RD c74
  go_wp2
  refine bodyPost_ret (results_tmp rfl _ _ _) rfl ?_
  exact uQ HF
 |good x q=>
  rw[hA]at RD ok1
  obtain ⟨hEq,hlen1,_⟩:=ok1
  have hlt:=ok2 x q hA
  cases q with
  |nil=>exact absurd rfl hEq.ne
  |cons c q=>
   have hlq:(c::q).length=q.length+1:=rfl
   have TO0:=fun w1 k1 (hr:Rd gr lv tk l k1 d (ps++x) w1) (h1:l.drop k1=c::q)=>q2T hr h1 3 (by omega) ps.length (by simp) (by rw[zF];omega)
   cases ho:opA 3 (wdT c)with
   |none=>
    rw[ho]at TO0
    rw[qeu hA ho]
    have HTO:=hZq TO0
    clear h ht hE hps hm hmm IH HIH ok2 hA hEq hlen1 hlt TO0 hlq hlr ho
    go_enter Tryz.func178,Tryz.ntmps178
    go_wp2_with fail
    refine (uQ RD).mono ?_
    rintro e w1 ⟨rfl,⟨k1,a1,a2,a3⟩,a4⟩
    have TO:Hid (Calls Tryz.prog 192 #[.pointer (some ⟨gr,0,none⟩), .int .i64 3, .int .i64 (ps.length:Int)] w1 (TkO gr lv tk l k1 d (ps++x) ps.length w1 none)):=hZq (uQ HTO w1 k1 a3 a1)
    have HA:=hZq (And.intro a1 (And.intro a2 a4))
    clear RD c74 a1 a2 a3 a4 HTO
    go_wp2_with fail
    refine (uQ TO).mono ?_
    rintro e w2 ⟨rfl,b1,b2⟩
    have HF:Hid (RdR gr lv tk l d ps W (.good x (c::q)) (.returned (.bool true)) w2):=hZq ⟨rfl,⟨k1,(uQ HA).1,(uQ HA).2.1,b1⟩,(uQ HA).2.2.trans b2⟩
    clear b1 b2 TO HA
    go_wp2
    refine bodyPost_ret (results_tmp rfl _ _ _) rfl ?_
    exact uQ HF
   |some kk=>
    rw[ho]at TO0
    rw[qev hA ho]
    have HTO:=hZq TO0
    have hEq2:=hEq.tail (q2w ho)
    have HRD2:Hid (∀w1 k1,Rd gr lv tk l k1 d (ps++opP kk::x) w1->l.drop k1=q->Calls Tryz.prog 157 #[.pointer (some ⟨gr,0,none⟩), .int .i64 4] w1 (RdR gr lv tk l d (ps++opP kk::x) w1 (pRd f 4 d [] q))):=hZq (fun w1 k1 hr h1=>by
     have:=IH gr lv tk l k1 d (ps++opP kk::x) w1 4 hr (by omega) (by rw[h1];exact hEq2) hd (by rw[h1,zF,List.length_cons];omega) (by rw[h1,q0Q (by omega)];omega)
     rw[h1]at this
     exact this)
    obtain ⟨Q,hQ⟩: ∃Q,pRd f 4 d [] q=Q:=⟨_,rfl⟩
    rw[hQ]at HRD2 ⊢
    clear h ht hE hps hm hmm IH HIH ok2 hA hEq hlen1 hlt TO0 hlq hlr ho hEq2 hQ
    go_enter Tryz.func178,Tryz.ntmps178
    go_wp2_with fail
    refine (uQ RD).mono ?_
    rintro e w1 ⟨rfl,⟨k1,a1,a2,a3⟩,a4⟩
    have TO:Hid (Calls Tryz.prog 192 #[.pointer (some ⟨gr,0,none⟩), .int .i64 3, .int .i64 (ps.length:Int)] w1 (TkO gr lv tk l k1 d (ps++x) ps.length w1 (some kk))):=hZq (uQ HTO w1 k1 a3 a1)
    have HA:=hZq (And.intro (q0f a1).2.2 (And.intro a2 a4))
    clear RD c74 a1 a2 a3 a4 HTO
    go_wp2_with fail
    refine (uQ TO).mono ?_
    rintro e w2 ⟨rfl,b1,b2⟩
    rw[q9G]at b1
    have RD2:=hZq (uQ HRD2 w2 (k1+1) b1 (uQ HA).1)
    have HB2:=hZq ((uQ HA).2.2.trans b2)
    clear b1 b2 TO HA HRD2
    go_wp2_with fail
    refine (uQ RD2).mono ?_
    intro e w3 hR
    obtain rfl:=hR.ret
    have HF:=hZq (hR.mid (uQ HB2))
    clear hR RD2 HB2
    generalize midO kk x Q=PQ at *
    generalize Q.ok=b at *
    go_wp2
    refine bodyPost_ret (results_tmp rfl _ _ _) rfl ?_
    exact uQ HF
end Go.Proofs.YtfgkikeeadlcfaaGreatDoor
namespace Go.Proofs.YtfgkikeeadlcfaaGreatDoor
open Go.RowKit Go.Shelf
attribute [local irreducible] opsV
def q8R:PR->PR
 | .bad q=> .bad q
 | .good x q=>shut x q
theorem qew {f d:Nat}{t:Tk}{r:List Tk}(h:t.kd=2):pRd (f+1) 6 d [] (t::r)= .good [⟨1,t.n,txt [],txt [],0⟩] r:=by rw[pRd,if_pos rfl,if_pos h]
theorem qex {f d:Nat}{t:Tk}{r:List Tk}(h:t.kd=3):pRd (f+1) 6 d [] (t::r)= .good [⟨2,0,t.s,txt [],0⟩] r:=by rw[pRd,if_pos rfl,if_neg (by omega),if_pos h]
theorem qey {f d:Nat}{t:Tk}{r:List Tk}(h:t.kd=1):pRd (f+1) 6 d [] (t::r)=fdR t r:=by rw[pRd,if_pos rfl,if_neg (by omega),if_neg (by omega),if_pos h]
theorem qez {f d:Nat}{t:Tk}{r:List Tk}(h1:t.kd≠1)(h2:t.kd≠2)(h3:t.kd≠3)(h:wdT t=[40]):pRd (f+1) 6 d [] (t::r)=q8R (inP f 0 d r):=by
 rw[pRd,if_pos rfl,if_neg h2,if_neg h3,if_neg h1,if_pos h]
 unfold inP
 split
 ·cases pRd f 0 (d+1) [] r <;> rfl
 ·rfl
theorem qeA {f d:Nat}{t:Tk}{r:List Tk}(h1:t.kd≠1)(h2:t.kd≠2)(h3:t.kd≠3)(h:wdT t≠[40]):pRd (f+1) 6 d [] (t::r)= .bad (t::r):=by rw[pRd,if_pos rfl,if_neg h2,if_neg h3,if_neg h1,if_neg h]
theorem qen (f n d:Nat)(ts:List Tk)(hn:n<=6)(h:Endd ts):PRok 0 ts (inP f n d ts):=by
 unfold inP
 split
 ·have:=(q2z f n (d+1) [] ts h).1
  rwa [if_pos hn]at this
 ·exact ⟨h,zM _⟩
theorem qas {gr:Nat}{lv tk:Value}{l:List Tk}{k d:Nat}{ps:List Pt}{W:World}(h:Rd gr lv tk l k d ps W){t:Tk}{r:List Tk}(ht:l.drop k=t::r): ∃b off cap,k<l.length/\l.length<=100000/\b<W.heap.size/\gr<W.heap.size/\
  (∀W',Kp [] W W'->W'.cell? ⟨gr,71,none⟩=some (.slice (some ⟨b,off,none⟩) l.length cap)/\W'.cell? ⟨gr,72,none⟩=some (.int .i64 (k:Int))/\W'.cell? ⟨b,off+k * 4,none⟩=some (.int .i64 t.kd)/\W'.cell? ⟨b,off+k * 4+1,none⟩=some (.string t.s)/\W'.cell? ⟨b,off+k * 4+2,none⟩=some (.int .i64 t.n)/\W'.cell? ⟨b,off+k * 4+3,none⟩=some (.int .i64 t.pl)):=by
 obtain ⟨hk,ha,_⟩:=q0f ht
 obtain ⟨pv,hb,_⟩:=h.box
 obtain ⟨b,off,cap,htk,hlt,hc⟩:=h.env.tks
 obtain ⟨c0,c1,c2,c3⟩:=hc k hk
 rw[ha]at c0 c1 c2 c3
 have hgl:=(zB.1 hb).1
 refine ⟨b,off,cap,hk,h.env.len,by omega,hgl,fun W' hk'=>?_⟩
 have e1:=hb.cell (qa5 lv tk k d pv)
 have e2:=hb.cell (q4b lv tk k d pv)
 rw[htk]at e1
 exact ⟨hk'.cell e1 (by simp),hk'.cell e2 (by simp),hk'.cell c0 (by simp),hk'.cell c1 (by simp),hk'.cell c2 (by simp),hk'.cell c3 (by simp)⟩
theorem qbB {f:Nat}(IH:RdOK f){gr:Nat}{lv tk:Value}{l:List Tk}{k d:Nat}{ps:List Pt}{W:World}(h:Rd gr lv tk l k d ps W){t:Tk}{r:List Tk}(ht:l.drop k=t::r)(hE:Endd (t::r))(hd:d<=200)(hps:ps.length+(t::r).length<=500000)(hm:mRd 6 (t::r)<=f+1):
  Calls Tryz.prog 179 #[.pointer (some ⟨gr,0,none⟩), .int .i64 6] W (RdR gr lv tk l d ps W (pRd (f+1) 6 d [] (t::r))):=by
 obtain ⟨b,off,cap,hkl,hlen,hbW,hgl,hcs⟩:=qas h ht
 obtain ⟨g1,g2,d0,d1,d2,d3⟩:=hcs _ (Kp.alloc W (.cells #[.int .i64 0, .string { data:=#[] }, .int .i64 0, .int .i64 0] 98))
 obtain ⟨e1,e2,c0,c1,c2,c3⟩:=hcs W (Kp.refl _ _)
 have hd1:=(q0f ht).2.2
 have hat:=(q0f ht).2.1
 have hsz:t.s.size<=281474976710656:=by have:=h.env.ok t (by rw[<-hat];exact zJ hkl);omega
 have hbl:Below W.heap.size W (W.alloc (.cells #[.int .i64 t.kd, .string t.s, .int .i64 t.n, .int .i64 t.pl] 98)).drew:=((Below.refl _ _).alloc (zM _) _).trans ⟨rfl,rfl,rfl,zM _,fun _ _=>rfl⟩
 have HR0:=hZq (h.below hbl)
 have HB0:=hZq (hbl.mono (show gr<=W.heap.size by omega))
 have hlr:(t::r).length=r.length+1:=rfl
 have hps1:ps.length<=1000000:=by omega
 have hk1:k<=100000:=by omega
 obtain ⟨P,hP⟩: ∃P,pRd (f+1) 6 d [] (t::r)=P:=⟨_,rfl⟩
 rw[hP]
 have HP:=hZq hP
 have HIH:=hZq IH
 have HT:=hZq ht
 have HE:=hZq hE
 have HD1:=hZq hd1
 clear hcs hP h hat hd1 ht hE IH hbl
 generalize hkd:t.kd=kd at *
 generalize hS:t.s=s at *
 generalize hN:t.n=n at *
 generalize t.pl=pl at *
 have HK:=hZq hkd
 have HSS:=hZq hS
 have HNN:=hZq hN
 clear hkd hS hN
 go_enter Tryz.func179,Tryz.ntmps179
 go_wp2
 go_region
 clear g1 g2 d0 d1 d2 d3 e1 e2 c0 c1 c2 c3
 by_cases h2:kd=2
 ·subst h2
  have TA:=hZq (q2U (uQ HR0) ⟨1,n,txt [],txt [],0⟩ hk1 hps1)
  unfold Pt.v at TA
  go_wp2_with fail
  refine (uQ TA).mono ?_
  rintro e w3 ⟨rfl,hr3,hb3⟩
  have HF:Hid (RdR gr lv tk l d ps W P (.returned (.bool true)) w3):=hZq (by
   rw[<-uQ HP,qew (uQ HK),uQ HNN]
   exact ⟨rfl,⟨k+1,uQ HD1,by omega,hr3⟩,(uQ HB0).trans hb3⟩)
  clear hr3 hb3 TA
  go_wp2
  refine bodyPost_ret (results_tmp rfl _ _ _) rfl ?_
  exact uQ HF
 have q2:(kd==2)=false:=beq_eq_false_iff_ne.2 h2
 by_cases h3:kd=3
 ·subst h3
  have CL:=hZq (q1H s (W.alloc (.cells #[.int .i64 3, .string s, .int .i64 n, .int .i64 pl] 98)).drew hsz)
  go_wp2_with fail
  refine (uQ CL).mono ?_
  rintro e w2 ⟨rfl,hb2⟩
  have HR1:=hZq ((uQ HR0).below hb2)
  have HB1:=hZq ((uQ HB0).trans (hb2.mono (q3t (uQ HR0))))
  have TA:=hZq (q2U (uQ HR1) ⟨2,0,s,txt [],0⟩ hk1 hps1)
  unfold Pt.v at TA
  clear hb2 CL HR0 HB0
  go_wp2_with fail
  refine (uQ TA).mono ?_
  rintro e w3 ⟨rfl,hr3,hb3⟩
  have HF:Hid (RdR gr lv tk l d ps W P (.returned (.bool true)) w3):=hZq (by
   rw[<-uQ HP,qex (uQ HK),uQ HSS]
   exact ⟨rfl,⟨k+1,uQ HD1,by omega,hr3⟩,(uQ HB1).trans hb3⟩)
  clear hr3 hb3 TA
  go_wp2
  refine bodyPost_ret (results_tmp rfl _ _ _) rfl ?_
  exact uQ HF
 have q3:(kd==3)=false:=beq_eq_false_iff_ne.2 h3
 by_cases h1:kd=1
 ·subst h1
  have FD:=hZq (q9m (uQ HR0) (uQ HT) (uQ HK) (uQ HE) hps1)
  rw[<-qey (f:=f) (d:=d) (uQ HK),uQ HP]at FD
  go_wp2_with fail
  refine (uQ FD).mono ?_
  intro e w2 hR
  obtain ⟨rfl,k1,ps1,a1,a2,a3,a4,a5⟩:=hR.to
  have HF:=hZq (RdR.of a1 a2 a3 a4 ((uQ HB0).trans a5))
  clear hR FD a1 a2 a3 a4 a5 HP
  generalize P.ok=bb at *
  go_wp2
  refine bodyPost_ret (results_tmp rfl _ _ _) rfl ?_
  exact uQ HF
 have q1:(kd==1)=false:=beq_eq_false_iff_ne.2 h1
 have SK:Hid (Calls Tryz.prog 196 #[.pointer (some ⟨gr,0,none⟩), .string { data:=#[40] }] (W.alloc (.cells #[.int .i64 kd, .string s, .int .i64 n, .int .i64 pl] 98)).drew fun e w'=>e= .returned (.bool (decide (wdT t=[40])))/\Rd gr lv tk l (if wdT t=[40] then k+1 else k) d ps w'/\Below gr (W.alloc (.cells #[.int .i64 kd, .string s, .int .i64 n, .int .i64 pl] 98)).drew w'):=hZq (q2Q (uQ HR0) (uQ HT) ⟨#[40]⟩)
 by_cases hp:wdT t=[40]
 ·rw[if_pos hp,decide_eq_true hp]at SK
  have hEr:=(uQ HE).tail (q0R (by rw[hp];simp))
  have HP2:Hid (P=q8R (inP f 0 d r)):=hZq (by rw[<-uQ HP];exact qez (by rw[uQ HK];exact h1) (by rw[uQ HK];exact h2) (by rw[uQ HK];exact h3) hp)
  have hok:=qen f 0 d r (by omega) hEr
  have HIN:Hid (∀w1,Rd gr lv tk l (k+1) d ps w1->Calls Tryz.prog 193 #[.pointer (some ⟨gr,0,none⟩), .int .i64 0] w1 (RdR gr lv tk l d ps w1 (inP f 0 d r))):=hZq (fun w1 hr1=>by
   have:=q4Y (uQ HIH) hr1 0 (by omega) (by rw[uQ HD1];exact hEr) hd (by rw[uQ HD1];omega) (by rw[uQ HD1,q0Q (by omega)];rw[q0Q (by omega)]at hm;omega) (by omega)
   rw[uQ HD1]at this
   exact this)
  generalize inP f 0 d r=Q at *
  have HOK:=hZq hok
  clear hok hEr hp HP HE HT HIH HD1 hm HK
  go_wp2_with fail
  refine (uQ SK).mono ?_
  rintro e w1 ⟨rfl,hr1,hb1⟩
  have IN:=hZq (uQ HIN w1 hr1)
  have HB1:=hZq ((uQ HB0).trans hb1)
  clear hr1 hb1 SK HIN HR0 HB0
  cases Q with
  |bad q=>
   go_wp2_with fail
   refine (uQ IN).mono ?_
   intro e w2 hR
   obtain rfl:e= .returned (.bool false):=hR.ret
   have HF:Hid (RdR gr lv tk l d ps W P (.returned (.bool false)) w2):=hZq (by
    rw[uQ HP2]
    exact ⟨rfl,hR.2.1,(uQ HB1).trans hR.2.2⟩)
   clear hR IN HB1 HP2
   go_wp2
   refine bodyPost_ret (results_tmp rfl _ _ _) rfl ?_
   exact uQ HF
  |good x q=>
   obtain ⟨c,q',rfl⟩: ∃c q',q=c::q':=by
    cases q with
    |nil=>exact absurd rfl (uQ HOK).1.ne
    |cons c q'=>exact ⟨c,q',rfl⟩
   go_wp2_with fail
   refine (uQ IN).mono ?_
   rintro e w2 ⟨rfl,⟨k1,a1,a2,a3⟩,a4⟩
   have hk2:=(q0f a1).2.2
   have hk3:=(q0f a1).1
   have SK2:Hid (Calls Tryz.prog 196 #[.pointer (some ⟨gr,0,none⟩), .string { data:=#[41] }] w2 fun e w'=>e= .returned (.bool (decide (wdT c=[41])))/\Rd gr lv tk l (if wdT c=[41] then k1+1 else k1) d (ps++x) w'/\Below gr w2 w'):=hZq (q2Q a3 a1 ⟨#[41]⟩)
   have HB2:=hZq ((uQ HB1).trans a4)
   have HA1:=hZq a1
   clear a1 a2 a3 a4 IN HB1
   go_wp2_with fail
   refine (uQ SK2).mono ?_
   rintro e w3 ⟨rfl,hr3,hb3⟩
   have HF:Hid (RdR gr lv tk l d ps W P (.returned (.bool (decide (wdT c=[41])))) w3):=hZq (by
    rw[uQ HP2,q8R,shut]
    by_cases hc:wdT c=[41]
    ·rw[if_pos hc]at hr3 ⊢
     exact ⟨by rw[decide_eq_true hc],⟨k1+1,hk2,by omega,hr3⟩,(uQ HB2).trans hb3⟩
    ·rw[if_neg hc]at hr3 ⊢
     exact ⟨by rw[zK hc],⟨k1,ps++x,uQ HA1,by omega,hr3⟩,(uQ HB2).trans hb3⟩)
   clear hr3 hb3 SK2 HB2 HP2 HA1
   generalize decide (wdT c=[41])=bb at *
   go_wp2
   refine bodyPost_ret (results_tmp rfl _ _ _) rfl ?_
   exact uQ HF
 ·rw[if_neg hp,zK hp]at SK
  have HP2:Hid (P= .bad (t::r)):=hZq (by rw[<-uQ HP];exact qeA (by rw[uQ HK];exact h1) (by rw[uQ HK];exact h2) (by rw[uQ HK];exact h3) hp)
  clear hp HP
  go_wp2_with fail
  refine (uQ SK).mono ?_
  rintro e w1 ⟨rfl,hr1,hb1⟩
  have HF:Hid (RdR gr lv tk l d ps W P (.returned (.bool false)) w1):=hZq (by
   rw[uQ HP2]
   exact ⟨rfl,⟨k,ps,uQ HT,by omega,hr1⟩,(uQ HB0).trans hb1⟩)
  clear hr1 hb1 SK HP2
  go_wp2
  refine bodyPost_ret (results_tmp rfl _ _ _) rfl ?_
  exact uQ HF
end Go.Proofs.YtfgkikeeadlcfaaGreatDoor
namespace Go.Proofs.YtfgkikeeadlcfaaGreatDoor
open Go.RowKit Go.Shelf
attribute [local irreducible] opsV
theorem qeB {f m d:Nat}{t:Tk}{r q:List Tk}(hm:m=0\/m=1\/m=4\/m=5)(h:pRd f (m+1) d [] (t::r)= .bad q):pRd (f+1) m d [] (t::r)= .bad q:=by rw[pRd,if_neg (by omega),if_neg (by omega),if_neg (by omega),if_pos (by omega),h]
theorem qeC {f m d:Nat}{t:Tk}{r q:List Tk}{x:List Pt}(hm:m=0\/m=1\/m=4\/m=5)(h:pRd f (m+1) d [] (t::r)= .good x q):pRd (f+1) m d [] (t::r)=pRd f (m+10) d x q:=by rw[pRd,if_neg (by omega),if_neg (by omega),if_neg (by omega),if_pos (by omega),h]
theorem qeF {f m d:Nat}{acc:List Pt}{t:Tk}{r:List Tk}(h:opA m (wdT t)=none):pRd (f+1) (m+10) d acc (t::r)= .good acc (t::r):=by rw[pRd,if_neg (by omega),if_neg (by omega),if_neg (by omega),if_neg (by omega),Nat.add_sub_cancel,h]
theorem qeD {f m d:Nat}{acc:List Pt}{t:Tk}{r q:List Tk}{kk:Int}(h:opA m (wdT t)=some kk)(h2:pRd f (m+1) d [] r= .bad q):pRd (f+1) (m+10) d acc (t::r)= .bad q:=by
 rw[pRd,if_neg (by omega),if_neg (by omega),if_neg (by omega),if_neg (by omega),Nat.add_sub_cancel,h]
 dsimp only
 rw[h2]
theorem qeE {f m d:Nat}{acc y:List Pt}{t:Tk}{r q:List Tk}{kk:Int}(h:opA m (wdT t)=some kk)(h2:pRd f (m+1) d [] r= .good y q):pRd (f+1) (m+10) d acc (t::r)=pRd f (m+10) d (opP kk::(acc++y)) q:=by
 rw[pRd,if_neg (by omega),if_neg (by omega),if_neg (by omega),if_neg (by omega),Nat.add_sub_cancel,h]
 dsimp only
 rw[h2]
end Go.Proofs.YtfgkikeeadlcfaaGreatDoor
namespace Go.Proofs.YtfgkikeeadlcfaaGreatDoor
open Go.RowKit Go.Shelf
attribute [local irreducible] opsV
def ChI (gr:Nat)(lv tk:Value)(l:List Tk)(m d f N:Nat)(ps:List Pt)(W:World)(R:PR)(b:Bool)(wr:World):Prop:=if b=true
 then∃f' acc k',f'<=f/\Rd gr lv tk l k' d (ps++acc) wr/\Endd (l.drop k')/\mRd (m+10) (l.drop k')<=f'/\acc.length+(l.drop k').length<=N/\pRd f' (m+10) d acc (l.drop k')=R/\Below gr W wr
 else∃k' ps',R= .bad (l.drop k')/\k'<=l.length/\Rd gr lv tk l k' d ps' wr/\Below gr W wr
def nxW (gr:Nat)(w:World):Nat:=match w.cell? ⟨gr,72,none⟩with
 |some v=>(intOf v).toNat
 |none=>0
def msC (gr n:Nat)(v:Value)(w:World):Nat:=match v with
 | .bool true=>n+1-nxW gr w
 |_=>0
theorem q9U {gr:Nat}{lv tk:Value}{l:List Tk}{k d:Nat}{ps:List Pt}{W:World}(h:Rd gr lv tk l k d ps W):nxW gr W=k:=by
 unfold nxW
 rw[h.cells.1]
 simp[intOf]
theorem q28 {f:Nat}(IH: ∀f',f'<=f->RdOK f'){gr:Nat}{lv tk:Value}{l:List Tk}{k d:Nat}{ps:List Pt}{W:World}(h:Rd gr lv tk l k d ps W){t:Tk}{r:List Tk}(ht:l.drop k=t::r)(m:Nat)(hm4:m=0\/m=1\/m=4\/m=5)(hE:Endd (t::r))(hd:d<=200)(hps:ps.length+(t::r).length<=500000)(hm:mRd m (t::r)<=f+1):
  Calls Tryz.prog 176 #[.pointer (some ⟨gr,0,none⟩), .int .i64 (m:Int)] W (RdR gr lv tk l d ps W (pRd (f+1) m d [] (t::r))):=by
 obtain ⟨ad,cap,c74⟩:=h.len
 have hlr:(t::r).length=r.length+1:=rfl
 have hmm:8 * (r.length+1)+7-m<=f+1:=by rw[q0Q (by omega)]at hm;exact hm
 have RD:Hid (Calls Tryz.prog 157 #[.pointer (some ⟨gr,0,none⟩), .int .i64 ((m:Int)+1)] W (RdR gr lv tk l d ps W (pRd f (m+1) d [] (t::r)))):=hZq (by
  have:=IH f (zM _) gr lv tk l k d ps W (m+1) h (by omega) (by rw[ht];exact hE) hd (by rw[ht];exact hps) (by rw[ht,q0Q (by omega),hlr];omega)
  rw[ht]at this
  exact this)
 obtain ⟨ok1,ok2⟩:=q2z f (m+1) d [] (t::r) hE
 rw[if_pos (by omega)]at ok1
 have ok2:=ok2 (by omega)
 obtain ⟨R,hR⟩: ∃R,pRd (f+1) m d [] (t::r)=R:=⟨_,rfl⟩
 rw[hR]
 have hw1:IntKind.i64.wrap ((m:Int)+1)=(m:Int)+1:=by rw[IntKind.wrap_i64];omega
 have HST:Hid (∀e w1,RdR gr lv tk l d ps W (pRd f (m+1) d [] (t::r)) e w1-> ∃b,e= .returned (.bool b)/\ChI gr lv tk l m d f (t::r).length ps W R b w1):=hZq (fun e w1 h1=>by
  cases hA:pRd f (m+1) d [] (t::r)with
  |bad q=>
   rw[hA]at h1
   obtain ⟨rfl,⟨k1,ps1,a1,a2,a3⟩,a4⟩:=h1
   refine ⟨false,rfl,?_⟩
   unfold ChI
   rw[if_neg (by simp)]
   exact ⟨k1,ps1,by rw[<-hR,qeB hm4 hA,a1],a2,a3,a4⟩
  |good x q=>
   have hlt:=ok2 x q hA
   rw[hA]at h1 ok1
   obtain ⟨hEq,hl1,_⟩:=ok1
   obtain ⟨rfl,⟨k1,a1,a2,a3⟩,a4⟩:=h1
   refine ⟨true,rfl,?_⟩
   unfold ChI
   rw[if_pos rfl]
   refine ⟨f,x,k1,zM _,a3,by rw[a1];exact hEq,?_,by rw[a1];omega,by rw[a1, <-hR,qeC hm4 hA],a4⟩
   rw[a1]
   unfold mRd
   rw[if_neg (by omega)]
   omega)
 have HIH:=hZq IH
 clear IH h ht hE hm hmm ok1 ok2 hR
 go_enter Tryz.func176,Tryz.ntmps176
 go_wp2_with fail
 refine (uQ RD).mono ?_
 intro e w1 hR1
 obtain ⟨b,rfl,hI⟩:=uQ HST e w1 hR1
 have HI0:=hZq hI
 clear hI hR1 RD HST c74
 go_wp2
 go_loopw [6] (fun v wr=> ∃b,v= .bool b/\Hid (ChI gr lv tk l m d f (t::r).length ps W R b wr)) (fun v wr=>msC gr l.length v wr)
 case atStart=>exact ⟨b,rfl,HI0⟩
 case round=>
  obtain ⟨b1,rfl,HI⟩:=hrel
  cases b1 with
  |false=>
   have HF:Hid (RdR gr lv tk l d ps W R (.returned (.bool false)) wr):=hZq (by
    have:=uQ HI
    unfold ChI at this
    rw[if_neg (by simp)]at this
    obtain ⟨k1,ps1,rfl,a2,a3,a4⟩:=this
    exact ⟨rfl,⟨k1,ps1,rfl,a2,a3⟩,a4⟩)
   clear HI
   go_wp2
   refine bodyPost_ret (results_tmp rfl _ _ _) rfl ?_
   exact uQ HF
  |true=>
   have hI:=uQ HI
   unfold ChI at hI
   rw[if_pos rfl]at hI
   obtain ⟨f',acc,k1,hf1,hr1,hE1,hm1,hl1,hp1,hb1⟩:=hI
   obtain ⟨c,q,hc⟩: ∃c q,l.drop k1=c::q:=by
    cases hx:l.drop k1 with
    |nil=>exact absurd hx hE1.ne
    |cons c q=>exact ⟨c,q,rfl⟩
   rw[hc]at hE1 hm1 hl1 hp1
   obtain ⟨hk1,_,hc1⟩:=q0f hc
   have hlq:(c::q).length=q.length+1:=rfl
   have hm2:8 * (q.length+1)+8<=f':=by unfold mRd at hm1;rw[if_neg (by omega)]at hm1;exact hm1
   obtain ⟨f2,rfl⟩: ∃f2,f'=f2+1:=⟨f'-1,by omega⟩
   have hms:msC gr l.length (.bool true) wr=l.length+1-k1:=by unfold msC;rw[q9U hr1]
   have HMS:=hZq hms
   have TO:=hZq (q2T hr1 hc m (by omega) ps.length (by simp) (by rw[zF];omega))
   cases ho:opA m (wdT c)with
   |none=>
    rw[ho]at TO
    rw[qeF ho]at hp1
    have HK:=hZq (And.intro hp1 (And.intro hc hb1))
    clear hr1 hE1 hm1 hp1 hb1 hms ho hc hc1 HI HI0
    go_wp2_with fail
    refine (uQ TO).mono ?_
    rintro e w2 ⟨rfl,b1,b2⟩
    have HF:Hid (RdR gr lv tk l d ps W R (.returned (.bool true)) w2):=hZq (by
     rw[<-(uQ HK).1]
     exact ⟨rfl,⟨k1,(uQ HK).2.1,by omega,b1⟩,(uQ HK).2.2.trans b2⟩)
    clear b1 b2 TO HK
    go_wp2
    refine bodyPost_ret (results_tmp rfl _ _ _) rfl ?_
    exact uQ HF
   |some kk=>
    rw[ho]at TO
    have hE2:=hE1.tail (q2w ho)
    have HRD:Hid (∀w2,Rd gr lv tk l (k1+1) d (ps++opP kk::acc) w2->Calls Tryz.prog 157 #[.pointer (some ⟨gr,0,none⟩), .int .i64 ((m:Int)+1)] w2 (RdR gr lv tk l d (ps++opP kk::acc) w2 (pRd f2 (m+1) d [] q))):=hZq (fun w2 hr2=>by
     have:=uQ HIH f2 (by omega) gr lv tk l (k1+1) d (ps++opP kk::acc) w2 (m+1) hr2 (by omega) (by rw[hc1];exact hE2) hd (by rw[hc1,zF,List.length_cons];omega) (by rw[hc1,q0Q (by omega)];omega)
     rw[hc1]at this
     exact this)
    obtain ⟨ok1,ok2⟩:=q2z f2 (m+1) d [] q hE2
    rw[if_pos (by omega)]at ok1
    have ok2:=ok2 (by omega)
    have HST:Hid (∀e w2 w3,Below gr wr w2->RdR gr lv tk l d (ps++opP kk::acc) w2 (pRd f2 (m+1) d [] q) e w3-> ∃b,e= .returned (.bool b)/\ChI gr lv tk l m d f (t::r).length ps W R b w3/\msC gr l.length (.bool b) w3<l.length+1-k1):=hZq (fun e w2 w3 hb2 h1=>by
     cases hA:pRd f2 (m+1) d [] q with
     |bad s=>
      rw[hA]at h1
      obtain ⟨rfl,⟨k2,ps2,a1,a2,a3⟩,a4⟩:=h1
      refine ⟨false,rfl,?_,by show 0<_;omega⟩
      unfold ChI
      rw[if_neg (by simp)]
      exact ⟨k2,ps2,by rw[<-hp1,qeD ho hA,a1],a2,a3,(hb1.trans hb2).trans a4⟩
     |good y s=>
      have hlt:=ok2 y s hA
      rw[hA]at h1 ok1
      obtain ⟨hEs,hl2,_⟩:=ok1
      obtain ⟨rfl,⟨k2,a1,a2,a3⟩,a4⟩:=h1
      have hkk:k1<k2:=by
       have e1:(l.drop k2).length=l.length-k2:=List.length_drop
       have e2:(l.drop (k1+1)).length=l.length-(k1+1):=List.length_drop
       rw[a1]at e1
       rw[hc1]at e2
       omega
      refine ⟨true,rfl,?_,by show l.length+1-nxW gr w3<_;rw[q9U a3];omega⟩
      unfold ChI
      rw[if_pos rfl]
      refine ⟨f2,opP kk::(acc++y),k2,by omega,by rw[List.append_assoc,List.cons_append]at a3;exact a3,by rw[a1];exact hEs,?_,by rw[a1,List.length_cons,zF];omega,by rw[a1, <-hp1,qeE ho hA],(hb1.trans hb2).trans a4⟩
      rw[a1]
      unfold mRd
      rw[if_neg (by omega)]
      omega)
    clear hr1 hE1 hm1 hp1 hb1 hms ho hc hc1 HI HI0 hE2 ok1 ok2
    go_wp2_with fail
    refine (uQ TO).mono ?_
    rintro e w2 ⟨rfl,b1,b2⟩
    rw[q9G]at b1
    have RD2:=hZq (uQ HRD w2 b1)
    have HB2:=hZq b2
    clear b1 b2 TO HRD
    go_wp2_with fail
    refine (uQ RD2).mono ?_
    intro e w3 hR3
    obtain ⟨b3,rfl,hI3,hms3⟩:=uQ HST e w2 w3 (uQ HB2) hR3
    have HI3:=hZq hI3
    have HM3:=hZq hms3
    clear hR3 hI3 hms3 RD2 HST HB2
    go_wp2
    go_roundw
    case rel=>exact ⟨b3,rfl,HI3⟩
    case measure=>rw[uQ HMS];exact uQ HM3
end Go.Proofs.YtfgkikeeadlcfaaGreatDoor
namespace Go.Proofs.YtfgkikeeadlcfaaGreatDoor
open Go.RowKit Go.Shelf
attribute [local irreducible] opsV
theorem q0Y {gr:Nat}{lv tk:Value}{l:List Tk}{k d:Nat}{ps:List Pt}{W:World}(h:Rd gr lv tk l k d ps W)(m:Nat)(hm:m<7){P:PR}
  (hen: ∀args w,(callFunc (lvF m) args).run Tryz.prog w= .ok (.enter (lvF m) args) w)
  (HC:Calls Tryz.prog (lvF m) #[.pointer (some ⟨gr,0,none⟩), .int .i64 (m:Int)] W (RdR gr lv tk l d ps W P)):
  Calls Tryz.prog 157 #[.pointer (some ⟨gr,0,none⟩), .int .i64 (m:Int)] W (RdR gr lv tk l d ps W P):=by
 obtain ⟨pv,hb,_⟩:=h.box
 have c0:=hb.cell (qct lv tk k d pv)
 obtain ⟨gl,hlv,_,hc⟩:=h.env.lvs
 have c1:=(hc m hm).1
 rw[hlv]at c0
 have HCC:=hZq HC
 have HEN:=hZq hen
 clear h hb hc hlv HC hen
 generalize lvF m=FN at *
 go_enter Tryz.func157,Tryz.ntmps157
 go_wp2_with fail
 rw[uQ HEN,Oper.upon_enter]
 refine (uQ HCC).mono ?_
 intro e w1 hR
 obtain rfl:=hR.ret
 have HF:=hZq hR
 clear hR HCC HEN c0 c1
 generalize P.ok=b at *
 dsimp only
 go_wp2
 refine bodyPost_ret (results_tmp rfl _ _ _) rfl ?_
 exact uQ HF
theorem qeJ: ∀f,RdOK f:=by
 intro f
 induction f using Nat.strongRecOn with
 |ind f ih=>
  intro gr lv tk l k d ps W m h hm hE hd hps hf
  cases hts:l.drop k with
  |nil=>exact absurd hts hE.ne
  |cons t r=>
   rw[hts]at hE hps hf
   cases f with
   |zero=>
    exfalso
    rw[q0Q hm,List.length_cons]at hf
    omega
   |succ f=>
    have IH: ∀f',f'<=f->RdOK f':=fun f' hf'=>ih f' (by omega)
    rcases (show m=0\/m=1\/m=2\/m=3\/m=4\/m=5\/m=6 by omega)with rfl|rfl|rfl|rfl|rfl|rfl|rfl
    ·exact q0Y h 0 (by omega) (enters_of Tryz.func176 (by kernel_rfl) rfl) (q28 IH h hts 0 (by omega) hE hd hps hf)
    ·exact q0Y h 1 (by omega) (enters_of Tryz.func176 (by kernel_rfl) rfl) (q28 IH h hts 1 (by omega) hE hd hps hf)
    ·exact q0Y h 2 (by omega) (enters_of Tryz.func177 (by kernel_rfl) rfl) (q8m (IH f (zM _)) h hts hE hd hps hf)
    ·exact q0Y h 3 (by omega) (enters_of Tryz.func178 (by kernel_rfl) rfl) (qbG (IH f (zM _)) h hts hE hd hps hf)
    ·exact q0Y h 4 (by omega) (enters_of Tryz.func176 (by kernel_rfl) rfl) (q28 IH h hts 4 (by omega) hE hd hps hf)
    ·exact q0Y h 5 (by omega) (enters_of Tryz.func176 (by kernel_rfl) rfl) (q28 IH h hts 5 (by omega) hE hd hps hf)
    ·exact q0Y h 6 (by omega) (enters_of Tryz.func179 (by kernel_rfl) rfl) (qbB (IH f (zM _)) h hts hE hd hps hf)
end Go.Proofs.YtfgkikeeadlcfaaGreatDoor
namespace Go.Proofs.YtfgkikeeadlcfaaGreatDoor
open Go.RowKit Go.Shelf
theorem q2y {B b:Nat}{W:World}{os:List Int}(h:CBox b (os.map (Value.int .i64)).toArray 3 W)(hlt:b<B):OpsLow B W (.slice (some ⟨b,0,none⟩) os.length os.length) os:=Or.inr ⟨b,rfl,hlt,fun i hi=>h.cell (by simp[hi])⟩
theorem qbk (w:World):LvsLow (((((((w.alloc (.cells #[.int .i64 12] 3)).alloc (.cells #[.int .i64 11] 3)).alloc (.cells #[.int .i64 13] 3)).alloc (.cells #[.int .i64 7, .int .i64 8, .int .i64 9, .int .i64 10] 3)).alloc (.cells #[.int .i64 4, .int .i64 5] 3)).alloc (.cells #[.int .i64 6] 3)).alloc (.cells #[.func (.func 176) #[] #[], .slice (some ⟨w.heap.size,0,none⟩) 1 1, .func (.func 176) #[] #[], .slice (some ⟨w.heap.size+1,0,none⟩) 1 1, .func (.func 177) #[] #[], .slice (some ⟨w.heap.size+1+1,0,none⟩) 1 1, .func (.func 178) #[] #[], .slice (some ⟨w.heap.size+1+1+1,0,none⟩) 4 4, .func (.func 176) #[] #[], .slice (some ⟨w.heap.size+1+1+1+1,0,none⟩) 2 2, .func (.func 176) #[] #[], .slice (some ⟨w.heap.size+1+1+1+1+1,0,none⟩) 1 1, .func (.func 179) #[] #[], .slice none 0 0] 275)).heap.size (((((((w.alloc (.cells #[.int .i64 12] 3)).alloc (.cells #[.int .i64 11] 3)).alloc (.cells #[.int .i64 13] 3)).alloc (.cells #[.int .i64 7, .int .i64 8, .int .i64 9, .int .i64 10] 3)).alloc (.cells #[.int .i64 4, .int .i64 5] 3)).alloc (.cells #[.int .i64 6] 3)).alloc (.cells #[.func (.func 176) #[] #[], .slice (some ⟨w.heap.size,0,none⟩) 1 1, .func (.func 176) #[] #[], .slice (some ⟨w.heap.size+1,0,none⟩) 1 1, .func (.func 177) #[] #[], .slice (some ⟨w.heap.size+1+1,0,none⟩) 1 1, .func (.func 178) #[] #[], .slice (some ⟨w.heap.size+1+1+1,0,none⟩) 4 4, .func (.func 176) #[] #[], .slice (some ⟨w.heap.size+1+1+1+1,0,none⟩) 2 2, .func (.func 176) #[] #[], .slice (some ⟨w.heap.size+1+1+1+1+1,0,none⟩) 1 1, .func (.func 179) #[] #[], .slice none 0 0] 275)) (.slice (some ⟨w.heap.size+1+1+1+1+1+1,0,none⟩) 7 7)/\Kp [] w (((((((w.alloc (.cells #[.int .i64 12] 3)).alloc (.cells #[.int .i64 11] 3)).alloc (.cells #[.int .i64 13] 3)).alloc (.cells #[.int .i64 7, .int .i64 8, .int .i64 9, .int .i64 10] 3)).alloc (.cells #[.int .i64 4, .int .i64 5] 3)).alloc (.cells #[.int .i64 6] 3)).alloc (.cells #[.func (.func 176) #[] #[], .slice (some ⟨w.heap.size,0,none⟩) 1 1, .func (.func 176) #[] #[], .slice (some ⟨w.heap.size+1,0,none⟩) 1 1, .func (.func 177) #[] #[], .slice (some ⟨w.heap.size+1+1,0,none⟩) 1 1, .func (.func 178) #[] #[], .slice (some ⟨w.heap.size+1+1+1,0,none⟩) 4 4, .func (.func 176) #[] #[], .slice (some ⟨w.heap.size+1+1+1+1,0,none⟩) 2 2, .func (.func 176) #[] #[], .slice (some ⟨w.heap.size+1+1+1+1+1,0,none⟩) 1 1, .func (.func 179) #[] #[], .slice none 0 0] 275)):=by
 obtain ⟨w1,e1⟩: ∃w1,w1=w.alloc (.cells #[.int .i64 12] 3):=⟨_,rfl⟩
 rw[<-e1]
 obtain ⟨w2,e2⟩: ∃w2,w2=w1.alloc (.cells #[.int .i64 11] 3):=⟨_,rfl⟩
 rw[<-e2]
 obtain ⟨w3,e3⟩: ∃w3,w3=w2.alloc (.cells #[.int .i64 13] 3):=⟨_,rfl⟩
 rw[<-e3]
 obtain ⟨w4,e4⟩: ∃w4,w4=w3.alloc (.cells #[.int .i64 7, .int .i64 8, .int .i64 9, .int .i64 10] 3):=⟨_,rfl⟩
 rw[<-e4]
 obtain ⟨w5,e5⟩: ∃w5,w5=w4.alloc (.cells #[.int .i64 4, .int .i64 5] 3):=⟨_,rfl⟩
 rw[<-e5]
 obtain ⟨w6,e6⟩: ∃w6,w6=w5.alloc (.cells #[.int .i64 6] 3):=⟨_,rfl⟩
 rw[<-e6]
 obtain ⟨w7,e7⟩: ∃w7,w7=w6.alloc (.cells #[.func (.func 176) #[] #[], .slice (some ⟨w.heap.size,0,none⟩) 1 1, .func (.func 176) #[] #[], .slice (some ⟨w.heap.size+1,0,none⟩) 1 1, .func (.func 177) #[] #[], .slice (some ⟨w.heap.size+1+1,0,none⟩) 1 1, .func (.func 178) #[] #[], .slice (some ⟨w.heap.size+1+1+1,0,none⟩) 4 4, .func (.func 176) #[] #[], .slice (some ⟨w.heap.size+1+1+1+1,0,none⟩) 2 2, .func (.func 176) #[] #[], .slice (some ⟨w.heap.size+1+1+1+1+1,0,none⟩) 1 1, .func (.func 179) #[] #[], .slice none 0 0] 275):=⟨_,rfl⟩
 rw[<-e7]
 have k1:Kp [] w w1:=by rw[e1];exact Kp.alloc _ _
 have s1:w1.heap.size=w.heap.size+1:=by rw[e1];simp
 have b0:CBox (w.heap.size) #[.int .i64 12] 3 w1:=by have:=CBox.new w #[.int .i64 12] 3;rw[<-e1]at this;exact this
 have k2:Kp [] w1 w2:=by rw[e2];exact Kp.alloc _ _
 have s2:w2.heap.size=w.heap.size+1+1:=by rw[e2];simp[s1]
 have b1:CBox (w.heap.size+1) #[.int .i64 11] 3 w2:=by have:=CBox.new w1 #[.int .i64 11] 3;rw[<-e2,s1]at this;exact this
 have k3:Kp [] w2 w3:=by rw[e3];exact Kp.alloc _ _
 have s3:w3.heap.size=w.heap.size+1+1+1:=by rw[e3];simp[s2]
 have b2:CBox (w.heap.size+1+1) #[.int .i64 13] 3 w3:=by have:=CBox.new w2 #[.int .i64 13] 3;rw[<-e3,s2]at this;exact this
 have k4:Kp [] w3 w4:=by rw[e4];exact Kp.alloc _ _
 have s4:w4.heap.size=w.heap.size+1+1+1+1:=by rw[e4];simp[s3]
 have b3:CBox (w.heap.size+1+1+1) #[.int .i64 7, .int .i64 8, .int .i64 9, .int .i64 10] 3 w4:=by have:=CBox.new w3 #[.int .i64 7, .int .i64 8, .int .i64 9, .int .i64 10] 3;rw[<-e4,s3]at this;exact this
 have k5:Kp [] w4 w5:=by rw[e5];exact Kp.alloc _ _
 have s5:w5.heap.size=w.heap.size+1+1+1+1+1:=by rw[e5];simp[s4]
 have b4:CBox (w.heap.size+1+1+1+1) #[.int .i64 4, .int .i64 5] 3 w5:=by have:=CBox.new w4 #[.int .i64 4, .int .i64 5] 3;rw[<-e5,s4]at this;exact this
 have k6:Kp [] w5 w6:=by rw[e6];exact Kp.alloc _ _
 have s6:w6.heap.size=w.heap.size+1+1+1+1+1+1:=by rw[e6];simp[s5]
 have b5:CBox (w.heap.size+1+1+1+1+1) #[.int .i64 6] 3 w6:=by have:=CBox.new w5 #[.int .i64 6] 3;rw[<-e6,s5]at this;exact this
 have k7:Kp [] w6 w7:=by rw[e7];exact Kp.alloc _ _
 have s7:w7.heap.size=w.heap.size+1+1+1+1+1+1+1:=by rw[e7];simp[s6]
 have b6:CBox (w.heap.size+1+1+1+1+1+1) #[.func (.func 176) #[] #[], .slice (some ⟨w.heap.size,0,none⟩) 1 1, .func (.func 176) #[] #[], .slice (some ⟨w.heap.size+1,0,none⟩) 1 1, .func (.func 177) #[] #[], .slice (some ⟨w.heap.size+1+1,0,none⟩) 1 1, .func (.func 178) #[] #[], .slice (some ⟨w.heap.size+1+1+1,0,none⟩) 4 4, .func (.func 176) #[] #[], .slice (some ⟨w.heap.size+1+1+1+1,0,none⟩) 2 2, .func (.func 176) #[] #[], .slice (some ⟨w.heap.size+1+1+1+1+1,0,none⟩) 1 1, .func (.func 179) #[] #[], .slice none 0 0] 275 w7:=by have:=CBox.new w6 #[.func (.func 176) #[] #[], .slice (some ⟨w.heap.size,0,none⟩) 1 1, .func (.func 176) #[] #[], .slice (some ⟨w.heap.size+1,0,none⟩) 1 1, .func (.func 177) #[] #[], .slice (some ⟨w.heap.size+1+1,0,none⟩) 1 1, .func (.func 178) #[] #[], .slice (some ⟨w.heap.size+1+1+1,0,none⟩) 4 4, .func (.func 176) #[] #[], .slice (some ⟨w.heap.size+1+1+1+1,0,none⟩) 2 2, .func (.func 176) #[] #[], .slice (some ⟨w.heap.size+1+1+1+1+1,0,none⟩) 1 1, .func (.func 179) #[] #[], .slice none 0 0] 275;rw[<-e7,s6]at this;exact this
 have c0:=((((((b0.kp k2 (by simp)).kp k3 (by simp)).kp k4 (by simp)).kp k5 (by simp)).kp k6 (by simp)).kp k7 (by simp))
 have c1:=(((((b1.kp k3 (by simp)).kp k4 (by simp)).kp k5 (by simp)).kp k6 (by simp)).kp k7 (by simp))
 have c2:=((((b2.kp k4 (by simp)).kp k5 (by simp)).kp k6 (by simp)).kp k7 (by simp))
 have c3:=(((b3.kp k5 (by simp)).kp k6 (by simp)).kp k7 (by simp))
 have c4:=((b4.kp k6 (by simp)).kp k7 (by simp))
 have c5:=(b5.kp k7 (by simp))
 refine ⟨⟨w.heap.size+1+1+1+1+1+1,rfl,by rw[s7];omega,fun n hn=>?_⟩,?_⟩
 ·rcases (show n=0\/n=1\/n=2\/n=3\/n=4\/n=5\/n=6 by omega)with rfl|rfl|rfl|rfl|rfl|rfl|rfl
  ·exact ⟨b6.cell rfl,_,b6.cell rfl,q2y (os:=[12]) c0 (by rw[s7];omega)⟩
  ·exact ⟨b6.cell rfl,_,b6.cell rfl,q2y (os:=[11]) c1 (by rw[s7];omega)⟩
  ·exact ⟨b6.cell rfl,_,b6.cell rfl,q2y (os:=[13]) c2 (by rw[s7];omega)⟩
  ·exact ⟨b6.cell rfl,_,b6.cell rfl,q2y (os:=[7,8,9,10]) c3 (by rw[s7];omega)⟩
  ·exact ⟨b6.cell rfl,_,b6.cell rfl,q2y (os:=[4,5]) c4 (by rw[s7];omega)⟩
  ·exact ⟨b6.cell rfl,_,b6.cell rfl,q2y (os:=[6]) c5 (by rw[s7];omega)⟩
  ·exact ⟨b6.cell rfl,_,b6.cell rfl,Or.inl ⟨rfl,rfl⟩⟩
 ·exact ((((((k1.trans k2 (by simp)).trans k3 (by simp)).trans k4 (by simp)).trans k5 (by simp)).trans k6 (by simp)).trans k7 (by simp))
theorem q70 (w:World):Calls Tryz.prog 156 #[] w fun e w'=> ∃lv,e= .returned lv/\LvsLow w'.heap.size w' lv/\Kp [] w w':=by
 go_enter Tryz.func156,Tryz.ntmps156
 go_wp2
 refine bodyPost_ret (results_tmp rfl _ _ _) rfl ⟨_,rfl,?_⟩
 exact qbk w
def Tk.ok (a:Tk):Prop:=(-9223372036854775808<=a.kd/\a.kd<=9223372036854775807)/\a.s.size<=9223372036854775807/\(-9223372036854775808<=a.n/\a.n<=9223372036854775807)/\(-9223372036854775808<=a.pl/\a.pl<=9223372036854775807)
def TksAt (w:World)(ad:Option Addr)(l:List Tk):Prop:=
 l≠[]-> ∃b off,ad=some ⟨b,off,none⟩/\b<w.heap.size/\ ∀i (h:i<l.length),w.cell? ⟨b,off+i * 4,none⟩=some (.int .i64 l[i].kd)/\w.cell? ⟨b,off+i * 4+1,none⟩=some (.string l[i].s)/\w.cell? ⟨b,off+i * 4+2,none⟩=some (.int .i64 l[i].n)/\w.cell? ⟨b,off+i * 4+3,none⟩=some (.int .i64 l[i].pl)
theorem TksAt.kp {w w':World}{ad:Option Addr}{l:List Tk}(h:TksAt w ad l)(hk:Kp [] w w'):TksAt w' ad l:=fun hl=>by
 obtain ⟨b,off,e,hlt,hc⟩:=h hl
 refine ⟨b,off,e,Nat.lt_of_lt_of_le hlt hk.size,fun i hi=>?_⟩
 obtain ⟨c0,c1,c2,c3⟩:=hc i hi
 exact ⟨hk.cell c0 (by simp),hk.cell c1 (by simp),hk.cell c2 (by simp),hk.cell c3 (by simp)⟩
theorem TksAt.at {w:World}{ad:Option Addr}{l:List Tk}(h:TksAt w ad l)(i:Nat)(hi:i<l.length): ∃b off,ad=some ⟨b,off,none⟩/\b<w.heap.size/\w.cell? ⟨b,off+i * 4,none⟩=some (.int .i64 l[i].kd)/\w.cell? ⟨b,off+i * 4+1,none⟩=some (.string l[i].s)/\w.cell? ⟨b,off+i * 4+2,none⟩=some (.int .i64 l[i].n)/\w.cell? ⟨b,off+i * 4+3,none⟩=some (.int .i64 l[i].pl):=by
 obtain ⟨b,off,e,hlt,hc⟩:=h (by intro e;subst e;simp at hi)
 exact ⟨b,off,e,hlt,hc i hi⟩
theorem qdQ (l:List Tk)(i:Nat)(h:i<l.length):(tkC l)[i * 4]?=some (.int .i64 l[i].kd)/\(tkC l)[i * 4+1]?=some (.string l[i].s)/\(tkC l)[i * 4+2]?=some (.int .i64 l[i].n)/\(tkC l)[i * 4+3]?=some (.int .i64 l[i].pl):=by
 induction l generalizing i with
 |nil=>simp at h
 |cons x r ih=>
  have e:tkC (x::r)=[.int .i64 x.kd, .string x.s, .int .i64 x.n, .int .i64 x.pl]++tkC r:=by unfold tkC;rw[List.flatMap_cons]
  cases i with
  |zero=>rw[e];simp
  |succ i=>
   have hi:i<r.length:=by simpa using h
   obtain ⟨a,b,c,d⟩:=ih i hi
   rw[e]
   simp only[List.getElem_cons_succ]
   refine ⟨?_,?_,?_,?_⟩
   ·rw[List.getElem?_append_right (by simp;omega)];rw[<-a];congr 1;simp;omega
   ·rw[List.getElem?_append_right (by simp;omega)];rw[<-b];congr 1;simp;omega
   ·rw[List.getElem?_append_right (by simp;omega)];rw[<-c];congr 1;simp;omega
   ·rw[List.getElem?_append_right (by simp;omega)];rw[<-d];congr 1;simp;omega
theorem OwnsK.at {B:Nat}{w:World}{v:Value}{l:List Tk}(h:OwnsK B w v l): ∃ad cp,v= .slice ad l.length cp/\TksAt w ad l/\l.length<=cp:=by
 obtain ⟨_,⟨rfl,h0⟩|⟨g,cp,cur,rfl,_,_,hcap,_⟩⟩:=id h
 ·refine ⟨none,0,by rw[h0],fun hne=>?_,by omega⟩
  exact absurd (List.eq_nil_of_length_eq_zero h0) hne
 ·have hl:=World.ownsRow.lt h g rfl
  refine ⟨_,_,rfl,fun _=>⟨g,0,rfl,hl.2,fun i hi=>?_⟩,hcap⟩
  obtain ⟨a,b,c,d⟩:=qdQ l i hi
  simp only[Nat.zero_add]
  refine ⟨?_,?_,?_,?_⟩
  ·rw[World.ownsRow.cellAt h (i * 4) (by omega)];exact a
  ·rw[World.ownsRow.cellAt h (i * 4+1) (by omega)];exact b
  ·rw[World.ownsRow.cellAt h (i * 4+2) (by omega)];exact c
  ·rw[World.ownsRow.cellAt h (i * 4+3) (by omega)];exact d
theorem qca (l:List UInt8)(k c:Nat)(ts:List Tk)(h:toks l k c= .good ts)(hk:k+l.length<=9223372036854775807): ∀t∈ts,t.ok:=by
 revert ts
 refine q26 (P:=fun l k c=> ∀ts,toks l k c= .good ts->k+l.length<=9223372036854775807-> ∀t∈ts,t.ok) ?_ ?_ ?_ ?_ ?_ l k c |> fun g ts h=>g ts h hk
 ·intro k c ts h hk
  rw[q1D]at h
  cases h
  simp
 ·intro b r k c hb ih ts h hk
  rw[q12 hb]at h
  exact ih ts h (by simp at hk;omega)
 ·intro l k c h0 hb hn ts h
  rw[q1n hn h0 hb]at h
  cases h
 ·intro l k t n hn ts h
  rw[q1m hn]at h
  cases h
 ·intro l k c t n hn hc4 ih ts h hk
  rw[q13 hn hc4]at h
  obtain ⟨r,hr,rfl⟩:=q2N h
  obtain ⟨g1,g2,g3,g4,g5,g6,g7,g8,g9,_⟩:=q0o hn
  intro u hu
  simp at hu
  rcases hu with rfl|hu
  ·unfold Tk.ok Tk.out
   dsimp only
   omega
  ·exact ih r hr (by rw[List.length_drop];omega) u hu
theorem qcc (s:ByteArray):(∃ts,tsR s= .good ts/\toks s.data.toList 0 0= .good ts/\s.size<=262144)\/(tsL s.size (tsR s)=[]/\ ¬ tsC (tsR s)=0):=by
 unfold tsR
 split
 ·exact Or.inr ⟨rfl,by simp[tsC]⟩
 ·cases hR:toks s.data.toList 0 0 with
  |good ts=>exact Or.inl ⟨ts,rfl,rfl,by omega⟩
  |bad k c=>
   refine Or.inr ⟨rfl,?_⟩
   have key: ∀l k c p q,toks l k c= .bad p q->q≠0:=by
    intro l k c
    refine q26 (P:=fun l k c=> ∀p q,toks l k c= .bad p q->q≠0) ?_ ?_ ?_ ?_ ?_ l k c
    ·intro k c p q h;cases h
    ·intro b r k c hb ih p q h;rw[q12 hb]at h;exact ih p q h
    ·intro l k c h0 hb hn p q h;rw[q1n hn h0 hb]at h;cases h;omega
    ·intro l k t n hn p q h;rw[q1m hn]at h;cases h;omega
    ·intro l k c t n hn hc ih p q h;rw[q13 hn hc]at h;exact ih p q (qdC h)
   exact key _ _ _ _ _ hR
def psR (l:List Tk):PR:=pRd (mRd 0 l) 0 0 [] l
def hdPl:List Tk->Int
 |[]=>0
 |t::_=>t.pl
def hdKd:List Tk->Int
 |[]=>0
 |t::_=>t.kd
def PR.fits:PR->Prop
 | .bad _=>True
 | .good x _=> ∀p∈x,p.ok
theorem e0:(txt []).size=0:=rfl
theorem qep {k:Int}(h: -100<=k/\k<=100):(opP k).ok:=by
 unfold opP Pt.ok
 dsimp only
 rw[e0]
 omega
theorem q6a {n:Nat}{s:List UInt8}{k:Int}(h:opA n s=some k):(opP k).ok:=by
 have h1:=(q6b h).1
 apply qep
 unfold lvO at h1
 repeat' split at h1
 all_goals first|(simp at h1;omega)|simp at h1
theorem q9q (s:List UInt8): -1<=q0n s/\q0n s<=5:=by
 unfold q0n
 repeat' split
 all_goals omega
theorem q5I (st:ByteArray)(hst:st.size<=9223372036854775807)(ts:List Tk):(fdE st ts).fits:=by
 cases ts with
 |nil=>trivial
 |cons c r=>
  rw[fdE]
  split
  ·intro p hp
   simp only[zD]at hp
   subst hp
   have:=q9q (wdT c)
   unfold Pt.ok
   dsimp only
   rw[e0]
   omega
  ·trivial
theorem qb0 (t:Tk)(ht:t.ok)(r:List Tk):(fdR t r).fits:=by
 unfold fdR
 split
 ·cases r with
  |nil=>trivial
  |cons c q=>
   dsimp only
   split
   ·exact q5I t.s (by unfold Tk.ok at ht;omega) q
   ·trivial
 ·exact q5I (txt []) (by rw[e0];omega) _
theorem qag (x:List Pt)(hx: ∀p∈x,p.ok)(q:List Tk):(shut x q).fits:=by
 cases q with
 |nil=>trivial
 |cons c q=>
  rw[shut]
  split
  ·exact hx
  ·trivial
theorem q88 {a b:List Tk}(h:a<:+b){Q:Tk->Prop}(hb: ∀t∈b,Q t): ∀t∈a,Q t:=fun t ht=>hb t (h.mem ht)
theorem q4x {k:Int}{x:List Pt}(h:(opP k).ok)(hx: ∀p∈x,p.ok): ∀p∈opP k::x,p.ok:=by
 intro p hp
 rcases zH.1 hp with rfl|hp
 ·exact h
 ·exact hx p hp
theorem q90 {x y:List Pt}(hx: ∀p∈x,p.ok)(hy: ∀p∈y,p.ok): ∀p∈x++y,p.ok:=by
 intro p hp
 rcases zG.1 hp with hp|hp
 ·exact hx p hp
 ·exact hy p hp
theorem q6m (f:Nat): ∀(m d:Nat) (acc:List Pt) (ts:List Tk),(∀t∈ts,t.ok)->(∀p∈acc,p.ok)->(pRd f m d acc ts).fits:=by
 induction f with
 |zero=>intro m d acc ts _ _;rw[pRd];trivial
 |succ f ih=>
  intro m d acc ts hts hacc
  have ih': ∀(m d:Nat) (acc:List Pt) (ts':List Tk),ts'<:+ts->(∀p∈acc,p.ok)->(pRd f m d acc ts').fits:=fun m d acc ts' hs ha=>ih m d acc ts' (q88 hs hts) ha
  have suf:=fun (m d:Nat) (acc:List Pt) (ts':List Tk)=>q7V f m d acc ts'
  have nil: ∀p∈([]:List Pt),p.ok:=fun p hp=>by cases hp
  cases ts with
  |nil=>rw[pRd];trivial
  |cons t r=>
   have ht:=hts t (by simp)
   have hr:r<:+t::r:=List.suffix_cons t r
   have hrf:t::r<:+t::r:=List.suffix_refl _
   rw[pRd]
   by_cases h6:m=6
   ·rw[if_pos h6]
    split
    ·intro p hp
     simp only[zD]at hp
     subst hp
     unfold Tk.ok at ht
     unfold Pt.ok
     dsimp only
     rw[e0]
     omega
    ·split
     ·intro p hp
      simp only[zD]at hp
      subst hp
      unfold Tk.ok at ht
      unfold Pt.ok
      dsimp only
      rw[e0]
      omega
     ·split
      ·exact qb0 t ht r
      ·split
       ·split
        ·have h1:=ih' 0 (d+1) [] r hr nil
         cases hE:pRd f 0 (d+1) [] r with
         |bad q=>trivial
         |good x q=>rw[hE]at h1;exact qag x h1 q
        ·trivial
       ·trivial
   ·rw[if_neg h6]
    split
    ·split
     ·rename_i kk hk
      split
      ·have h1:=ih' 2 (d+1) [] r hr nil
       cases hE:pRd f 2 (d+1) [] r with
       |bad q=>trivial
       |good x q=>rw[hE]at h1;exact q4x (q6a hk) h1
      ·trivial
     ·exact ih' 3 d [] (t::r) hrf nil
    ·split
     ·have h1:=ih' 4 d [] (t::r) hrf nil
      have s1:=suf 4 d [] (t::r)
      cases hE:pRd f 4 d [] (t::r)with
      |bad q=>trivial
      |good x q=>
       rw[hE]at h1 s1
       cases q with
       |nil=>trivial
       |cons c q'=>
        dsimp only
        split
        ·exact h1
        ·rename_i kk hk
         have h2:=ih' 4 d [] q' ((List.suffix_cons c q').trans s1) nil
         cases hE2:pRd f 4 d [] q' with
         |bad s=>trivial
         |good y s=>rw[hE2]at h2;exact q4x (q6a hk) (q90 h1 h2)
     ·split
      ·have h1:=ih' (m+1) d [] (t::r) hrf nil
       have s1:=suf (m+1) d [] (t::r)
       cases hE:pRd f (m+1) d [] (t::r)with
       |bad q=>trivial
       |good x q=>rw[hE]at h1 s1;exact ih' (m+10) d x q s1 h1
      ·split
       ·exact hacc
       ·rename_i kk hk
        have h1:=ih' (m-10+1) d [] r hr nil
        have s1:=suf (m-10+1) d [] r
        cases hE:pRd f (m-10+1) d [] r with
        |bad q=>trivial
        |good y q=>rw[hE]at h1 s1;exact ih' m d _ q (s1.trans hr) (q4x (q6a hk) (q90 hacc h1))
theorem q9g (ts:List Tk)(n:Nat):Endd (ts++[endZ n]):=⟨ts,endZ n,rfl,rfl⟩
structure Stg where
 nm:ByteArray
 hw:Int
 mn:Bool
 cd:List Pt
structure Ptn where
 ss:List Stg
 wi:Int
def noP:Ptn:=⟨[],0⟩
def cdOk (x:List Pt)(ah:List ByteArray):Bool:=decide (ckK x=3) && (stgS x).all (hasN ah)
def hwOk (h:Int)(n:Nat):Bool:=decide (0<=h) && (decide (h<=3) && (decide (h=0)==decide (n=0)))
def stOk (s:Stg)(ah:List ByteArray):Bool:=isSg s.nm && (!hasN ah s.nm && (hwOk s.hw ah.length && cdOk s.cd ah))
def q00 (l:List Stg):List ByteArray:=l.map (·.nm)
def bad1:List Stg->List ByteArray->Nat->Option Nat
 |[],_,_=>none
 |s::r,ah,i=>if stOk s ah then bad1 r (ah++[s.nm]) (i+1) else some i
def wiOk (n:Int):Bool:=decide (1<=n) && decide (n<=256)
def pcR (p:Ptn):Int × Int:=if p.ss.length<1\/8<p.ss.length then (0,120) else match bad1 p.ss [] 0 with
 |some i=>((i:Int),120)
 |none=>if wiOk p.wi then (0,0) else ((p.ss.length:Int),120)
theorem q94 {l:List Stg}{k:Nat}(h:k<l.length):bad1 (l.drop k) (q00 (l.take k)) k=if stOk l[k] (q00 (l.take k)) then bad1 (l.drop (k+1)) (q00 (l.take (k+1))) (k+1) else some k:=by
 rw[List.drop_eq_getElem_cons h,bad1,List.take_succ_eq_append_getElem h]
 unfold q00
 rw[List.map_append]
 rfl
theorem qaI (l:List Stg):bad1 (l.drop l.length) (q00 (l.take l.length)) l.length=none:=by rw[List.drop_length];rfl
theorem q0F (l:List Stg):(q00 l).length=l.length:=by unfold q00;rw[zI]
theorem q49 {l:List Stg}{k:Nat}(h:k<l.length):q00 (l.take (k+1))=q00 (l.take k)++[l[k].nm]:=by
 unfold q00
 rw[List.take_succ_eq_append_getElem h,List.map_append]
 rfl
theorem qdt (s:ByteArray):ckK [⟨3,0,⟨#[]⟩,s,0⟩]=if q05 s=true\/isSg s=true then 1 else 0:=by
 have h1:fdX shp [⟨3,0,⟨#[]⟩,s,0⟩]=some ⟨lfK ⟨3,0,⟨#[]⟩,s,0⟩,1⟩:=rfl
 unfold ckK
 rw[if_neg (by simp),h1]
 dsimp only
 rw[if_neg (by omega)]
 unfold lfK
 rw[if_neg (by dsimp only;omega),if_neg (by dsimp only;omega)]
 dsimp only
 have e0:q05 (⟨#[]⟩:ByteArray)=true:=rfl
 by_cases h:q05 s=true\/isSg s=true
 ·rw[if_pos ⟨rfl,rfl,e0,h⟩,if_pos h]
  rfl
 ·rw[if_neg (fun hh=>h hh.2.2.2),if_neg h]
theorem qfo {s:ByteArray}(h:isSg s=true):q05 s=false:=by
 have:=(q3c h).1
 unfold q05
 rw[beq_eq_false_iff_ne]
 omega
theorem qdu (s:ByteArray):isSg s=(!q05 s && decide ((if ckK [⟨3,0,⟨#[]⟩,s,0⟩]=0 then (110:Int) else 0)=0)):=by
 rw[qdt]
 cases h:isSg s with
 |true=>rw[qfo h];simp
 |false=>
  cases h2:q05 s with
  |true=>rfl
  |false=>simp
def wdL:List Tk->List UInt8
 |[]=>[]
 |t::_=>wdT t
def wdM:List Tk->ByteArray
 |[]=>⟨#[]⟩
 |t::_=>wdS t
def hwOf (s:List UInt8):Option Int:=if s=[97,110,121] then some 3 else if s=[116,104,101,110] then some 2 else if s=[110,101,120,116] then some 1 else if s=[115,116,97,114,116] then some 0 else none
inductive SRd where
 |bad (a c:Int)
 |good (s:Stg) (r:List Tk)
def cdR (h:Int)(nm:ByteArray)(m:Bool)(l:List Tk):SRd:=match psR l with
 | .bad q=> .bad (hdPl q) 110
 | .good x q=>if ckK x=0 then .bad 0 110 else if wdL q=[59] then .good ⟨nm,h,m,x⟩ (q.drop 1) else .bad (hdPl q) 120
def clR (h:Int)(nm:ByteArray)(m:Bool)(l:List Tk):SRd:=if wdL l=[58] then cdR h nm m (l.drop 1) else .bad (hdPl l) 120
def mnR (h:Int)(nm:ByteArray)(l:List Tk):SRd:=if wdL l=[43] then clR h nm true (l.drop 1) else clR h nm false l
def nmR (h:Int)(l:List Tk):SRd:=if isSg (wdM l) then mnR h (wdM l) (l.drop 1) else .bad (hdPl l) 120
def stgR (l:List Tk):SRd:=match hwOf (wdL l)with
 |none=> .bad (hdPl l) 120
 |some h=>nmR h (l.drop 1)
def witW:List UInt8:=[119,105,116,104,105,110]
inductive PRd where
 |bad (a c:Int)
 |good (p:Ptn)
def nbR (acc:List Stg):List Tk->PRd
 |[]=> .bad 0 120
 |t::r=>if t.kd=2 then (if hdKd r=0 then .good ⟨acc,if 257<t.n then 257 else t.n⟩ else .bad (hdPl r) 120) else .bad (hdPl (t::r)) 120
def ptR:Nat->List Stg->List Tk->PRd
 |0,_,l=> .bad (hdPl l) 120
 |f+1,acc,l=>if wdL l=witW then nbR acc (l.drop 1) else if acc.length=8 then .bad (hdPl l) 120 else match stgR l with
  | .bad a c=> .bad a c
  | .good s r=>ptR f (acc++[s]) r
structure PO where
 p:Ptn
 at_:Int
 c:Int
def rdPG (n:Nat)(ts:List Tk):PO:=match ptR 9 [] (ts++[endZ n])with
 | .bad a c=>⟨noP,a,c⟩
 | .good p=>if (pcR p).2=0 then ⟨p,0,0⟩ else ⟨noP,0,120⟩
def rdP (s:ByteArray):PO:=match tsR s with
 | .bad p q=>⟨noP,(p:Int),q⟩
 | .good ts=>rdPG s.size ts
structure Nd where
 st:Int
 lp:Bool
 tk:Bool
def Nd.c (n:Nd):Array Value:=#[.int .i64 n.st, .bool n.lp, .bool n.tk]
def zN:Nd:=⟨0,false,false⟩
def ndE (a b:Nd):Bool:=decide (a.st=b.st) && (a.lp==b.lp && a.tk==b.tk)
def mnAt (l:List Stg)(i:Nat):Bool:=match l[i]? with
 |some s=>s.mn
 |none=>false
def hwAt (l:List Stg)(i:Nat):Int:=match l[i]? with
 |some s=>s.hw
 |none=>0
theorem qbE {l:List Stg}{i:Nat}(h:i<l.length):mnAt l i=l[i].mn:=by unfold mnAt;rw[zE h]
theorem q5S {l:List Stg}{i:Nat}(h:i<l.length):hwAt l i=l[i].hw:=by unfold hwAt;rw[zE h]
def bgN (l:List Stg)(s:Nat):Nd:=⟨(s:Int),mnAt l (s-1),decide (s<l.length)⟩
def isS (l:List Stg)(s:Int):Bool:=decide (1<=s) && decide (s<=(l.length:Int))
def mayN (l:List Stg)(n:Nd):Bool:=isS l n.st && ((mnAt l (n.st.toNat-1)|| !n.lp) && (decide (n.st.toNat<l.length)|| !n.tk))
def stay (h:Int)(b:Bool):Bool:=decide (h=3)||(decide (h=2) && !b)
def psN (l:List Stg)(n:Nd)(lo ta:Bool):Nd:=⟨n.st,n.lp && stay (hwAt l (n.st.toNat-1)) lo,n.tk && stay (hwAt l n.st.toNat) ta⟩
def Nd.live (n:Nd):Bool:=n.lp||n.tk
structure Sps where
 lp:Nd
 tk:Nd
 wt:Nd
 cl:Bool
 ct:Bool
 cw:Bool
def Sps.c (s:Sps):Array Value:=#[.int .i64 s.lp.st, .bool s.lp.lp, .bool s.lp.tk, .int .i64 s.tk.st, .bool s.tk.lp, .bool s.tk.tk, .int .i64 s.wt.st, .bool s.wt.lp, .bool s.wt.tk, .bool s.cl, .bool s.ct, .bool s.cw]
def zS:Sps:=⟨zN,zN,zN,false,false,false⟩
def stpN (l:List Stg)(n:Nd)(lo ta:Bool):Sps:=
 ⟨if (n.lp && lo)=true then bgN l n.st.toNat else zN,if (n.tk && ta)=true then bgN l (n.st.toNat+1) else zN,if (psN l n lo ta).live=true then psN l n lo ta else zN,n.lp && lo,n.tk && ta,(psN l n lo ta).live⟩
theorem isS_iff {l:List Stg}{s:Int}:isS l s=true↔1<=s/\s<=(l.length:Int):=by unfold isS;simp
theorem q51 {l:List Stg}{n:Nd}(h:mayN l n=true):isS l n.st=true/\(n.lp=true->mnAt l (n.st.toNat-1)=true)/\(n.tk=true->n.st.toNat<l.length):=by
 unfold mayN at h
 simp only[Bool.and_eq_true,Bool.or_eq_true,Bool.not_eq_true',decide_eq_true_eq]at h
 refine ⟨h.1,fun e=>?_,fun e=>?_⟩
 ·rcases h.2.1 with h'|h'
  ·exact h'
  ·rw[e]at h';cases h'
 ·rcases h.2.2 with h'|h'
  ·exact h'
  ·rw[e]at h';cases h'
end Go.Proofs.YtfgkikeeadlcfaaGreatDoor
namespace Go.Proofs.YtfgkikeeadlcfaaGreatDoor.Mt
def lasE (es:List Ev)(L:List Nat):List Ev:=L.map fun q=>es.getD q evZ
def Hp (p:Ptn)(es:List Ev)(t:Nat)(L:List Nat)(q:Nat):Bool:=match p.ss[t]? with
 |some s=>hdB s.cd ⟨es.getD q evZ,(q00 p.ss).take t,lasE es L⟩
 |none=>false
def pm (p:Ptn)(es:List Ev):Pm:=⟨p.ss.length,mnAt p.ss,hwAt p.ss,es.length,Hp p es⟩
def askP (p:Ptn)(t i:Nat):Bool:=match p.ss[t]?,(q00 p.ss)[i]? with
 |some s,some n=>hasN (stgS s.cd) n
 |_,_=>false
theorem qdb {x:List Pt}{e:Ev}{ns:List ByteArray}{la lb:List Ev}(hl:la.length=lb.length)(h:la.length=ns.length-> ∀s∈stgS x,la.getD (fstN s ns) evZ=lb.getD (fstN s ns) evZ):hdB x ⟨e,ns,la⟩=hdB x ⟨e,ns,lb⟩:=by
 unfold hdB
 have he:hdE x ⟨e,ns,la⟩=hdE x ⟨e,ns,lb⟩:=by unfold hdE;dsimp only;rw[hl]
 rw[he]
 by_cases h0:hdE x ⟨e,ns,lb⟩=0
 ·have h3:ckK x=3:=by
   unfold hdE at h0
   by_cases hc:ckK x=3
   ·exact hc
   ·rw[if_pos hc]at h0;cases h0
  have hln:la.length=ns.length:=by
   unfold hdE at h0
   rw[if_neg (by rw[h3];simp)]at h0
   dsimp only at h0
   by_cases hc:ns.length=lb.length
   ·omega
   ·rw[if_pos (Or.inl hc)]at h0;cases h0
  have:fdX (vlv ⟨e,ns,la⟩) x=fdX (vlv ⟨e,ns,lb⟩) x:=q9j x (fun p hp l=>by
   match l with
   |[]=>
    show lfV _ p=lfV _ p
    unfold lfV
    have:(⟨e,ns,la⟩:Mo).at p.st=(⟨e,ns,lb⟩:Mo).at p.st:=by
     unfold Mo.at
     cases hem:q05 p.st with
     |true=>rfl
     |false=>
      simp only[Bool.false_eq_true,if_false]
      refine h hln p.st ?_
      rw[qdO h3]
      rcases (q5h x []).2 p hp with h1|h1
      ·rw[hem]at h1;cases h1
      ·exact h1
    rw[this]
   |[a]=>rfl
   |a::b::r=>rfl)
  rw[this]
 ·rw[if_pos h0,if_pos h0]
theorem asks_pm (p:Ptn)(es:List Ev):Asks (pm p es) (askP p):=by
 intro t l l' q hl ha
 show Hp p es t l q=Hp p es t l' q
 unfold Hp
 cases hs:p.ss[t]? with
 |none=>rfl
 |some s=>
  dsimp only
  refine qdb (by unfold lasE;rw[zI,zI,hl]) (fun hln n hn=>?_)
  have hll:l.length=((q00 p.ss).take t).length:=by unfold lasE at hln;rwa [zI]at hln
  generalize hk:fstN n ((q00 p.ss).take t)=k
  have e:l[k]?=l'[k]?:=by
   by_cases hlt:k<((q00 p.ss).take t).length
   ·have hat:=q1y (s:=n) (l:=(q00 p.ss).take t) (by rw[hk];exact hlt)
    refine ha k ?_
    unfold askP
    rw[hs]
    have hn2:(q00 p.ss)[k]?=some n:=by
     have h1:((q00 p.ss).take t)[k]?=some n:=by
      rw[zE hlt]
      have h2:=hat.1
      subst hk
      rw[h2]
     rw[List.getElem?_take]at h1
     split at h1
     ·exact h1
     ·cases h1
    rw[hn2]
    exact (q1z _ _).2 hn
   ·rw[List.getElem?_eq_none (by omega),List.getElem?_eq_none (by omega)]
  unfold lasE
  rw[List.getD_eq_getElem?_getD,List.getD_eq_getElem?_getD,List.getElem?_map,List.getElem?_map,e]
end Go.Proofs.YtfgkikeeadlcfaaGreatDoor.Mt
namespace Go.Proofs.YtfgkikeeadlcfaaGreatDoor
open Go.RowKit Go.Shelf
attribute [local go_sem] Oper.semAt_some
variable {M:Mo} {gm:Nat}
def vlE (a:Vl):List Value:=[.int .i64 a.n, .string a.s, .bool a.t]
theorem q4S (a:Vl):(vlE a).length=3:=rfl
theorem q9D:(Tryz.prog.info? 165).map (fun i=>(i.zero,i.size,i.bytes))=some (some (.agg #[.int .i64 0, .string { data:=#[] }, .bool false]),3,32):=by kernel_rfl
theorem mkV (W:World):(Instr.makeSlice 216 (.int .i64 0) (.int .i64 16)).run Tryz.prog W= .ok (.slice (some ⟨W.heap.size,0,none⟩) 0 16) (W.alloc (.cells (madeCells #[.int .i64 0, .string { data:=#[] }, .bool false] (16 * 3)) 165)):=by
 obtain ⟨i0,hi,hz0,hz1,hz2⟩:=info_parts q9D
 have:=run_make (P:=Tryz.prog) W 216 165 i0 (.agg #[.int .i64 0, .string { data:=#[] }, .bool false]) Tryz.underlying216 hi hz0 .i64 .i64 0 16 (by omega) (by omega) (by rw[hz2];omega) (by omega)
 rw[hz1]at this
 exact this
structure FIV (M:Mo)(fv:Value)(ad:Option Addr)(cap0:Nat)(w:World)(g7 g8:Nat)(xs:List Pt)(pre:List (Fin xs.length))(W:World):Prop where
 be:CBox w.heap.size #[fv] 168 W
 b1:CBox (w.heap.size+1) #[.int .i64 0, .string { data:=#[] }, .bool false] 165 W
 b2:CBox (w.heap.size+1+1) #[.bool false] 4 W
 b3:CBox (w.heap.size+1+1+1) #[.int .i64 0, .string { data:=#[] }, .bool false] 165 W
 bo:CBox g7 opsV 214 W
 row: ∃(l:List Vl) (g cap:Nat),stk (vlv M) ((pre.map fun i=>xs[i]).reverse)=some l/\CBox g8 #[.slice (some ⟨g,0,none⟩) l.length cap] 216 W/\W.ownsRow (w.heap.size+4) 165 3 (.slice (some ⟨g,0,none⟩) l.length cap) l.length (l.reverse.flatMap vlE)
 bel:Below w.heap.size w W
 bs:CBox (g7+1+1+1) #[.slice ad xs.length cap0] 86 W
 sz:g7+4<=W.heap.size
theorem FIV.own {fv:Value}{ad:Option Addr}{cap0:Nat}{w:World}{g7 g8 B:Nat}{xs:List Pt}(hB:w.heap.size<=B):OwnFrom B (FIV M fv ad cap0 w g7 g8 xs):=fun pre W W' row h hg hr=>by
 have hr2:=fun r e=>(hr r e).2
 obtain ⟨l,g,cap,h1,h2,h3⟩:=h.row
 exact ⟨q0b h.be hg hr2,q0b h.b1 hg hr2,q0b h.b2 hg hr2,q0b h.b3 hg hr2,q0b h.bo hg hr2,⟨l,g,cap,h1,q0b h2 hg hr2,q81 h3 hg hr2⟩,ownFrom_below (β:=Unit) (zM _) hB () W W' row h.bel hg hr,q0b h.bs hg hr2,Nat.le_trans h.sz hg.size⟩
structure FXV (M:Mo)(w:World)(xs:List Pt)(pre:List (Fin xs.length))(W:World):Prop where
 no:stk (vlv M) ((pre.map fun i=>xs[i]).reverse)=none
 b1:CBox (w.heap.size+1) #[.int .i64 0, .string { data:=#[] }, .bool false] 165 W
 b2:CBox (w.heap.size+1+1) #[.bool false] 4 W
 bel:Below w.heap.size w W
theorem FXV.own {w:World}{B:Nat}{xs:List Pt}(hB:w.heap.size<=B)(c:Code):OwnFrom B (fun pre W=>c= .ret/\FXV M w xs pre W):=fun pre W W' row h hg hr=>by
 have hr2:=fun r e=>(hr r e).2
 exact ⟨h.1,h.2.no,q0b h.2.b1 hg hr2,q0b h.2.b2 hg hr2,ownFrom_below (β:=Unit) (zM _) hB () W W' row h.2.bel hg hr⟩
def foRV:Option Vl->Value
 |some a=> .tuple #[.agg (vlE a).toArray, .bool true]
 |none=> .tuple #[.agg #[.int .i64 0, .string { data:=#[] }, .bool false], .bool false]
def sdCV:List Vl->Array Value
 |[]=>#[.int .i64 0, .string { data:=#[] }, .bool false, .int .i64 0, .string { data:=#[] }, .bool false]
 |[a]=>(vlE a++([.int .i64 0, .string { data:=#[] }, .bool false]:List Value)).toArray
 |a::b::_=>(vlE a++vlE b).toArray
theorem q9u {fv:Value}{w w1:World}{ad:Option Addr}{cap:Nat}{xs:List Pt}(hk:Kp [] ((((w.alloc (.cells #[fv] 168)).alloc (.cells #[.int .i64 0, .string { data:=#[] }, .bool false] 165)).alloc (.cells #[.bool false] 4)).alloc (.cells #[.int .i64 0, .string { data:=#[] }, .bool false] 165)) w1):
  FIV M fv ad cap w w1.heap.size (w1.heap.size+1+1) xs [] ((((w1.alloc (.cells opsV 214)).alloc (.cells (madeCells #[.int .i64 0, .string { data:=#[] }, .bool false] (16 * 3)) 165)).alloc (.cells #[.slice (some ⟨w1.heap.size+1,0,none⟩) 0 16] 216)).alloc (.cells #[.slice ad xs.length cap] 86))/\
  ((((w1.alloc (.cells opsV 214)).alloc (.cells (madeCells #[.int .i64 0, .string { data:=#[] }, .bool false] (16 * 3)) 165)).alloc (.cells #[.slice (some ⟨w1.heap.size+1,0,none⟩) 0 16] 216)).alloc (.cells #[.slice ad xs.length cap] 86)).cell? ⟨w1.heap.size+1+1+1,0,none⟩=some (.slice ad xs.length cap)/\
  Below w.heap.size w ((((w1.alloc (.cells opsV 214)).alloc (.cells (madeCells #[.int .i64 0, .string { data:=#[] }, .bool false] (16 * 3)) 165)).alloc (.cells #[.slice (some ⟨w1.heap.size+1,0,none⟩) 0 16] 216)).alloc (.cells #[.slice ad xs.length cap] 86))/\
  ((((w1.alloc (.cells opsV 214)).alloc (.cells (madeCells #[.int .i64 0, .string { data:=#[] }, .bool false] (16 * 3)) 165)).alloc (.cells #[.slice (some ⟨w1.heap.size+1,0,none⟩) 0 16] 216)).alloc (.cells #[.slice ad xs.length cap] 86)).heap.size=w1.heap.size+4/\w.heap.size+4<=w1.heap.size:=by
 have hs:=hk.size
 simp at hs
 have hb:Below w.heap.size w w1:=(((((Below.refl _ _).alloc (zM _) _).alloc (by simp) _).alloc (by simp;omega) _).alloc (by simp;omega) _).trans (hk.below (by simp;omega) (by simp))
 have up: ∀{A B C D:Obj},Kp [] w1 ((((w1.alloc A).alloc B).alloc C).alloc D):=fun {A B C D}=>(((Kp.alloc _ _).trans (Kp.alloc _ _) (by simp)).trans (Kp.alloc _ _) (by simp)).trans (Kp.alloc _ _) (by simp)
 have old: ∀{g:Nat} {cs:Array Value} {t:TypeId} {A B C D:Obj},CBox g cs t ((((w.alloc (.cells #[fv] 168)).alloc (.cells #[.int .i64 0, .string { data:=#[] }, .bool false] 165)).alloc (.cells #[.bool false] 4)).alloc (.cells #[.int .i64 0, .string { data:=#[] }, .bool false] 165))->CBox g cs t ((((w1.alloc A).alloc B).alloc C).alloc D):=fun h=>(h.kp hk (by simp)).kp up (by simp)
 have n7:CBox w1.heap.size opsV 214 ((((w1.alloc (.cells opsV 214)).alloc (.cells (madeCells #[.int .i64 0, .string { data:=#[] }, .bool false] (16 * 3)) 165)).alloc (.cells #[.slice (some ⟨w1.heap.size+1,0,none⟩) 0 16] 216)).alloc (.cells #[.slice ad xs.length cap] 86)):=(CBox.new w1 _ _).kp (((Kp.alloc _ _).trans (Kp.alloc _ _) (by simp)).trans (Kp.alloc _ _) (by simp)) (by simp)
 have n8:=(CBox.new ((w1.alloc (.cells opsV 214)).alloc (.cells (madeCells #[.int .i64 0, .string { data:=#[] }, .bool false] (16 * 3)) 165)) #[.slice (some ⟨w1.heap.size+1,0,none⟩) 0 16] 216).kp (Kp.alloc _ (.cells #[.slice ad xs.length cap] 86)) (by simp)
 have n9:=CBox.new (((w1.alloc (.cells opsV 214)).alloc (.cells (madeCells #[.int .i64 0, .string { data:=#[] }, .bool false] (16 * 3)) 165)).alloc (.cells #[.slice (some ⟨w1.heap.size+1,0,none⟩) 0 16] 216)) #[.slice ad xs.length cap] 86
 have r0:=World.ownsRow_made (base:=w.heap.size+4) (e:=165) (size:=3) (w1.alloc (.cells opsV 214)) (madeCells #[.int .i64 0, .string { data:=#[] }, .bool false] (16 * 3)) 16 (by simp;omega) (by unfold maxLen;omega) (size_madeCells _ _)
 simp only[World.size_alloc]at n8 n9 r0
 have m1:=CBox.new w #[fv] 168
 have m2:=CBox.new (w.alloc (.cells #[fv] 168)) #[.int .i64 0, .string { data:=#[] }, .bool false] 165
 have m3:=CBox.new ((w.alloc (.cells #[fv] 168)).alloc (.cells #[.int .i64 0, .string { data:=#[] }, .bool false] 165)) #[.bool false] 4
 have m4:=CBox.new (((w.alloc (.cells #[fv] 168)).alloc (.cells #[.int .i64 0, .string { data:=#[] }, .bool false] 165)).alloc (.cells #[.bool false] 4)) #[.int .i64 0, .string { data:=#[] }, .bool false] 165
 simp only[World.size_alloc]at m2 m3 m4
 refine ⟨⟨old (m1.kp (((Kp.alloc _ _).trans (Kp.alloc _ _) (by simp)).trans (Kp.alloc _ _) (by simp)) (by simp)),old (m2.kp ((Kp.alloc _ _).trans (Kp.alloc _ _) (by simp)) (by simp)),old (m3.kp (Kp.alloc _ _) (by simp)),old m4,n7,⟨[],w1.heap.size+1,16,rfl,n8,?_⟩,?_,n9,by simp⟩,n9.cell rfl,?_,by simp,by omega⟩
 ·exact q03 r0 ((Kp.alloc _ _).trans (Kp.alloc _ _) (by simp)) (by simp)
 ·exact hb.trans ((((((Below.refl _ _).alloc (zM _) _).alloc (by simp) _).alloc (by simp;omega) _).alloc (by simp;omega) _).mono hb.size)
 ·exact hb.trans ((((((Below.refl _ _).alloc (zM _) _).alloc (by simp) _).alloc (by simp;omega) _).alloc (by simp;omega) _).mono hb.size)
theorem qd5 {fv:Value}{ad:Option Addr}{cap0:Nat}{w W w2:World}{g7 g8 g L cp:Nat}{xs:List Pt}{pre:List (Fin xs.length)}{S:ByteArray}{N:Nat}{O I:Int}{F:Value}(h:FIV M fv ad cap0 w g7 g8 xs pre W)(b8:CBox g8 #[.slice (some ⟨g,0,none⟩) L cp] 216 W)(hk:Kp [] W w2):
  (w2.alloc (.cells #[.string S, .int .i64 (N:Int), .int .u64 O, .int .i64 I,F] 212)).cell? ⟨g8,0,none⟩=some (.slice (some ⟨g,0,none⟩) L cp)/\CBox (w.heap.size+1) #[.int .i64 0, .string { data:=#[] }, .bool false] 165 (w2.alloc (.cells #[.string S, .int .i64 (N:Int), .int .u64 O, .int .i64 I,F] 212))/\CBox (w.heap.size+1+1) #[.bool false] 4 (w2.alloc (.cells #[.string S, .int .i64 (N:Int), .int .u64 O, .int .i64 I,F] 212))/\CBox (w.heap.size+1+1+1) #[.int .i64 0, .string { data:=#[] }, .bool false] 165 (w2.alloc (.cells #[.string S, .int .i64 (N:Int), .int .u64 O, .int .i64 I,F] 212))/\Kp [] W (w2.alloc (.cells #[.string S, .int .i64 (N:Int), .int .u64 O, .int .i64 I,F] 212))/\CBox w2.heap.size #[.string S, .int .i64 (N:Int), .int .u64 O, .int .i64 I,F] 212 (w2.alloc (.cells #[.string S, .int .i64 (N:Int), .int .u64 O, .int .i64 I,F] 212))/\W.heap.size<=w2.heap.size/\CBox g8 #[.slice (some ⟨g,0,none⟩) L cp] 216 (w2.alloc (.cells #[.string S, .int .i64 (N:Int), .int .u64 O, .int .i64 I,F] 212)):=by
 have hk2:Kp [] W (w2.alloc (.cells #[.string S, .int .i64 (N:Int), .int .u64 O, .int .i64 I,F] 212)):=hk.trans (Kp.alloc _ _) (by simp)
 exact ⟨(b8.kp hk2 (by simp)).cell rfl,h.b1.kp hk2 (by simp),h.b2.kp hk2 (by simp),h.b3.kp hk2 (by simp),hk2,CBox.new _ _ _,hk.size,b8.kp hk2 (by simp)⟩
theorem qd3 {w W W3:World}{B:Nat}{xs:List Pt}{pre:List (Fin xs.length)}(hb:Below w.heap.size w W)(hk:Kp [] W W3)(h1:CBox (w.heap.size+1) #[.int .i64 0, .string { data:=#[] }, .bool false] 165 W3)(h2:CBox (w.heap.size+1+1) #[.bool false] 4 W3)(hn:stk (vlv M) ((pre.map fun i=>xs[i]).reverse)=none):
  KeepsFrom B W ((((W3.setCell ⟨w.heap.size+1,0,none⟩ (.int .i64 0)).setCell ⟨w.heap.size+1,1,none⟩ (.string { data:=#[] })).setCell ⟨w.heap.size+1,2,none⟩ (.bool false)).setCell ⟨w.heap.size+1+1,0,none⟩ (.bool false))/\Code.ret=Code.ret/\FXV M w xs pre ((((W3.setCell ⟨w.heap.size+1,0,none⟩ (.int .i64 0)).setCell ⟨w.heap.size+1,1,none⟩ (.string { data:=#[] })).setCell ⟨w.heap.size+1,2,none⟩ (.bool false)).setCell ⟨w.heap.size+1+1,0,none⟩ (.bool false)):=by
 have q1:CBox (w.heap.size+1) #[.int .i64 0, .string { data:=#[] }, .bool false] 165 ((((W3.setCell ⟨w.heap.size+1,0,none⟩ (.int .i64 0)).setCell ⟨w.heap.size+1,1,none⟩ (.string { data:=#[] })).setCell ⟨w.heap.size+1,2,none⟩ (.bool false))):=(CBox.set (CBox.set (CBox.set h1 0 _) 1 _) 2 _)
 have q2:CBox (w.heap.size+1+1) #[.bool false] 4 ((((W3.setCell ⟨w.heap.size+1,0,none⟩ (.int .i64 0)).setCell ⟨w.heap.size+1,1,none⟩ (.string { data:=#[] })).setCell ⟨w.heap.size+1,2,none⟩ (.bool false))):=(CBox.kp (CBox.kp (CBox.kp h2 (Kp.set _ _ _ _) (by simp)) (Kp.set _ _ _ _) (by simp)) (Kp.set _ _ _ _) (by simp))
 have k1:KeepsOthers W3 ((((W3.setCell ⟨w.heap.size+1,0,none⟩ (.int .i64 0)).setCell ⟨w.heap.size+1,1,none⟩ (.string { data:=#[] })).setCell ⟨w.heap.size+1,2,none⟩ (.bool false))):=((((KeepsOthers.refl _).trans (KeepsOthers.setCell _ _ _)).trans (KeepsOthers.setCell _ _ _)).trans (KeepsOthers.setCell _ _ _))
 have l1:Below w.heap.size w ((((W3.setCell ⟨w.heap.size+1,0,none⟩ (.int .i64 0)).setCell ⟨w.heap.size+1,1,none⟩ (.string { data:=#[] })).setCell ⟨w.heap.size+1,2,none⟩ (.bool false))):=(Below.setCell (p:=⟨w.heap.size+1,2,none⟩) (Below.setCell (p:=⟨w.heap.size+1,1,none⟩) (Below.setCell (p:=⟨w.heap.size+1,0,none⟩) (hb.trans (hk.below hb.size (by simp))) (by show w.heap.size<=w.heap.size+1;omega) _) (by show w.heap.size<=w.heap.size+1;omega) _) (by show w.heap.size<=w.heap.size+1;omega) _)
 exact ⟨((KeepsOthers.ofKp hk).trans (k1.trans (KeepsOthers.setCell _ _ _))).from _,rfl,hn,q1.kp (Kp.set _ _ _ _) (by simp),q2.set 0 _,l1.setCell (p:=⟨w.heap.size+1+1,0,none⟩) (by show w.heap.size<=w.heap.size+1+1;omega) _⟩
theorem qbb {lst:List Vl}(h:0<lst.length): ∃a r,lst=a::r:=by
 cases lst with
 |nil=>simp at h
 |cons a r=>exact ⟨a,r,rfl⟩
theorem q9s {lst:List Vl}(h:1<lst.length): ∃a b r,lst=a::b::r:=by
 match lst,h with
 |[_],h=>simp at h
 |a::b::r,_=>exact ⟨a,b,r,rfl⟩
structure FLV (fv:Value)(w W Wl:World)(g7 g8 g L cp Bx gop:Nat)(p:Pt)(row:Array Value)(lst:List Vl):Prop where
 kp:Kp [] W Wl
 b8:CBox g8 #[.slice (some ⟨g,0,none⟩) L cp] 216 Wl
 bsd:CBox (gop+1) #[.int .i64 0, .string { data:=#[] }, .bool false, .int .i64 0, .string { data:=#[] }, .bool false] 221 Wl
 bop:CBox gop row 212 Wl
 bx:CBox Bx #[.int .i64 p.kd, .int .i64 p.n, .string p.s, .string p.st, .int .i64 p.fl] 178 Wl
 be:CBox w.heap.size #[fv] 168 Wl
 row:Wl.ownsRow (w.heap.size+4) 165 3 (.slice (some ⟨g,0,none⟩) L cp) L (lst.reverse.flatMap vlE)
 le:W.heap.size<=gop
 g78:g7+1+1=g8
 gl:g<W.heap.size
 n1:g≠g8
 n2:Bx≠g8
 n3:Bx<W.heap.size
 n4:g8<W.heap.size
 n5:w.heap.size+4<=g7
 n6:g≠Bx
 n7:w.heap.size+4<=g
theorem qbh {fv:Value}{ad:Option Addr}{cap0:Nat}{w W w2 W0:World}{g7 g cp Bx:Nat}{p:Pt}{xs:List Pt}{pre:List (Fin xs.length)}{lst:List Vl}{S:ByteArray}{N:Nat}{O I:Int}{F:Value}(h:FIV M fv ad cap0 w g7 (g7+1+1) xs pre W)(b8:CBox (g7+1+1) #[.slice (some ⟨g,0,none⟩) lst.length cp] 216 W)(hrow:W.ownsRow (w.heap.size+4) 165 3 (.slice (some ⟨g,0,none⟩) lst.length cp) lst.length (lst.reverse.flatMap vlE))(bX:CBox Bx #[.int .i64 p.kd, .int .i64 p.n, .string p.s, .string p.st, .int .i64 p.fl] 178 W)(hk:Kp [] W w2)(hBx:W0.heap.size<=Bx)(h0:W0.heap.size=g7+4)(hG7:w.heap.size+4<=g7):
  FLV fv w W ((w2.alloc (.cells #[.string S, .int .i64 (N:Int), .int .u64 O, .int .i64 I,F] 212)).alloc (.cells #[.int .i64 0, .string { data:=#[] }, .bool false, .int .i64 0, .string { data:=#[] }, .bool false] 221)) g7 (g7+1+1) g lst.length cp Bx w2.heap.size p #[.string S, .int .i64 (N:Int), .int .u64 O, .int .i64 I,F] lst:=by
 have k2:Kp [] W ((w2.alloc (.cells #[.string S, .int .i64 (N:Int), .int .u64 O, .int .i64 I,F] 212)).alloc (.cells #[.int .i64 0, .string { data:=#[] }, .bool false, .int .i64 0, .string { data:=#[] }, .bool false] 221)):=(hk.trans (Kp.alloc _ _) (by simp)).trans (Kp.alloc _ _) (by simp)
 have ns:=CBox.new (w2.alloc (.cells #[.string S, .int .i64 (N:Int), .int .u64 O, .int .i64 I,F] 212)) #[.int .i64 0, .string { data:=#[] }, .bool false, .int .i64 0, .string { data:=#[] }, .bool false] 221
 simp only[World.size_alloc]at ns
 have no:=(CBox.new w2 #[.string S, .int .i64 (N:Int), .int .u64 O, .int .i64 I,F] 212).kp (Kp.alloc _ (.cells #[.int .i64 0, .string { data:=#[] }, .bool false, .int .i64 0, .string { data:=#[] }, .bool false] 221)) (by simp)
 have hlt:=hrow.lt g rfl
 have hB:=(zB.1 bX).1
 have h8:=(zB.1 b8).1
 have h7:=(zB.1 h.bo).1
 have hz:=h.sz
 have hne: ∀{x:Nat} {cs:Array Value} {t:TypeId},CBox x cs t W->t≠165->g≠x:=fun hb ht e=>q0d hrow hb ht (by rw[<-e];rfl)
 exact ⟨k2,b8.kp k2 (by simp),ns,no,bX.kp k2 (by simp),h.be.kp k2 (by simp),q03 hrow k2 (by simp),hk.size,rfl,hlt.2,hne b8 (by decide),by omega,hB,h8,by omega,hne bX (by decide),hlt.1⟩
theorem q4W {fv:Value}{w W Wl wr:World}{g7 g8 g cp Bx gop:Nat}{p:Pt}{rw_:Array Value}{lst:List Vl}(h:FLV fv w W Wl g7 g8 g lst.length cp Bx gop p rw_ lst)(hk:Kp [g8,gop+1] Wl wr){k:Nat}(hkl:k<lst.length):
  wr.cell? ⟨g,(lst.length-1-k) * 3,none⟩=some (.int .i64 lst[k].n)/\wr.cell? ⟨g,(lst.length-1-k) * 3+1,none⟩=some (.string lst[k].s)/\wr.cell? ⟨g,(lst.length-1-k) * 3+2,none⟩=some (.bool lst[k].t):=by
 have hr:wr.ownsRow (w.heap.size+4) 165 3 (.slice (some ⟨g,0,none⟩) lst.length cp) lst.length (lst.reverse.flatMap vlE):=q03 h.row hk (fun x e=>by
  simp[Value.ownBlock]at e
  subst e
  have h1:=h.n1
  have h2:=h.gl
  have h3:=h.le
  simp
  omega)
 have e0:(lst.reverse)[lst.length-1-k]'(by simp;omega)=lst[k]:=by
  rw[List.getElem_reverse]
  congr 1
  omega
 have key:=fun i hi=>q0t (enc:=vlE) (sz:=3) q4S (l:=lst.reverse) (by rw[List.length_reverse];exact hr) (lst.length-1-k) i (by simp;omega) hi
 simp only[e0]at key
 exact ⟨key 0 (by omega),key 1 (by omega),key 2 (by omega)⟩
theorem q7J {fv:Value}{w W Wl:World}{g7 g8 g L cp Bx gop:Nat}{p:Pt}{rw_:Array Value}{lst:List Vl}(h:FLV fv w W Wl g7 g8 g L cp Bx gop p rw_ lst):L<=cp:=by
 obtain ⟨_,⟨e,_⟩|⟨g',cp',cur,e,_,_,h5,_⟩⟩:=h.row
 ·cases e
 ·cases e
  exact h5
theorem q7L {w':World}{g8 gs g M cp:Nat}{v0 v1 v2:Value}(h8:g8≠gs)(hg:g≠gs)(c:w'.cell? ⟨g8,0,none⟩=some (.slice (some ⟨g,0,none⟩) (M+1) cp))(o:Nat)(q0:w'.cell? ⟨g,M * 3,none⟩=some v0)(q1:w'.cell? ⟨g,M * 3+1,none⟩=some v1)(q2:w'.cell? ⟨g,M * 3+2,none⟩=some v2):
  (((w'.setCell ⟨gs,o,none⟩ v0).setCell ⟨gs,o+1,none⟩ v1).setCell ⟨gs,o+2,none⟩ v2).cell? ⟨g8,0,none⟩=some (.slice (some ⟨g,0,none⟩) (M+1) cp)/\(((w'.setCell ⟨gs,o,none⟩ v0).setCell ⟨gs,o+1,none⟩ v1).setCell ⟨gs,o+2,none⟩ v2).cell? ⟨g,M * 3,none⟩=some v0/\(((w'.setCell ⟨gs,o,none⟩ v0).setCell ⟨gs,o+1,none⟩ v1).setCell ⟨gs,o+2,none⟩ v2).cell? ⟨g,M * 3+1,none⟩=some v1/\(((w'.setCell ⟨gs,o,none⟩ v0).setCell ⟨gs,o+1,none⟩ v1).setCell ⟨gs,o+2,none⟩ v2).cell? ⟨g,M * 3+2,none⟩=some v2:=by
 have k: ∀(p:Addr) (v:Value),p.block≠gs->w'.cell? p=some v->(((w'.setCell ⟨gs,o,none⟩ v0).setCell ⟨gs,o+1,none⟩ v1).setCell ⟨gs,o+2,none⟩ v2).cell? p=some v:=fun p v hp h=>
  (World.cell?_of_block (by rw[Below.heap_setCell _ _ _ _ hp,Below.heap_setCell _ _ _ _ hp,Below.heap_setCell _ _ _ _ hp])).trans h
 exact ⟨k _ _ h8 c,k _ _ hg q0,k _ _ hg q1,k _ _ hg q2⟩
theorem q8q {g8 gs M cp g:Nat}{a:Vl}{r:List Vl}{wr Wl:World}(h:CBox g8 #[.slice (some ⟨g,0,none⟩) (M+1) cp] 216 wr/\CBox gs (sdCV ((a::r).take 0)) 221 wr/\Kp [g8,gs] Wl wr)(hn:g8≠gs):
  CBox g8 #[.slice (some ⟨g,0,none⟩) M cp] 216 ((((wr.drew.setCell ⟨gs,0,none⟩ (.int .i64 a.n)).setCell ⟨gs,1,none⟩ (.string a.s)).setCell ⟨gs,2,none⟩ (.bool a.t)).setCell ⟨g8,0,none⟩ (.slice (some ⟨g,0,none⟩) M cp))/\CBox gs (sdCV ((a::r).take 1)) 221 ((((wr.drew.setCell ⟨gs,0,none⟩ (.int .i64 a.n)).setCell ⟨gs,1,none⟩ (.string a.s)).setCell ⟨gs,2,none⟩ (.bool a.t)).setCell ⟨g8,0,none⟩ (.slice (some ⟨g,0,none⟩) M cp))/\Kp [g8,gs] Wl ((((wr.drew.setCell ⟨gs,0,none⟩ (.int .i64 a.n)).setCell ⟨gs,1,none⟩ (.string a.s)).setCell ⟨gs,2,none⟩ (.bool a.t)).setCell ⟨g8,0,none⟩ (.slice (some ⟨g,0,none⟩) M cp)):=by
 obtain ⟨h1,h2,h3⟩:=h
 have kd:Kp [g8,gs] wr ((((wr.drew.setCell ⟨gs,0,none⟩ (.int .i64 a.n)).setCell ⟨gs,1,none⟩ (.string a.s)).setCell ⟨gs,2,none⟩ (.bool a.t))):=((((Kp.drew wr |>.mono (by simp)).trans (Kp.set _ _ _ _) (by simp)).trans (Kp.set _ _ _ _) (by simp)).trans (Kp.set _ _ _ _) (by simp))
 have c2:CBox gs (sdCV ((a::r).take 1)) 221 ((((wr.drew.setCell ⟨gs,0,none⟩ (.int .i64 a.n)).setCell ⟨gs,1,none⟩ (.string a.s)).setCell ⟨gs,2,none⟩ (.bool a.t))):=(CBox.set (CBox.set (CBox.set (CBox.kp h2 (Kp.drew _) (by simp)) 0 _) 1 _) 2 _)
 have c1:CBox g8 #[.slice (some ⟨g,0,none⟩) (M+1) cp] 216 ((((wr.drew.setCell ⟨gs,0,none⟩ (.int .i64 a.n)).setCell ⟨gs,1,none⟩ (.string a.s)).setCell ⟨gs,2,none⟩ (.bool a.t))):=(CBox.kp (CBox.kp (CBox.kp (CBox.kp h1 (Kp.drew _) (by simp)) (Kp.set _ _ _ _) (by simpa using hn)) (Kp.set _ _ _ _) (by simpa using hn)) (Kp.set _ _ _ _) (by simpa using hn))
 exact ⟨c1.set 0 _,c2.kp (Kp.set _ _ _ _) (by simp;omega),(h3.trans kd (fun _ hx=>Or.inl hx)).trans (Kp.set _ _ _ _) (by simp)⟩
theorem q8r {g8 gs M cp g:Nat}{a0 a:Vl}{r:List Vl}{wr Wl:World}(h:CBox g8 #[.slice (some ⟨g,0,none⟩) (M+1) cp] 216 wr/\CBox gs (sdCV ((a0::a::r).take 1)) 221 wr/\Kp [g8,gs] Wl wr)(hn:g8≠gs):
  CBox g8 #[.slice (some ⟨g,0,none⟩) M cp] 216 ((((wr.drew.setCell ⟨gs,3,none⟩ (.int .i64 a.n)).setCell ⟨gs,4,none⟩ (.string a.s)).setCell ⟨gs,5,none⟩ (.bool a.t)).setCell ⟨g8,0,none⟩ (.slice (some ⟨g,0,none⟩) M cp))/\CBox gs (sdCV ((a0::a::r).take 2)) 221 ((((wr.drew.setCell ⟨gs,3,none⟩ (.int .i64 a.n)).setCell ⟨gs,4,none⟩ (.string a.s)).setCell ⟨gs,5,none⟩ (.bool a.t)).setCell ⟨g8,0,none⟩ (.slice (some ⟨g,0,none⟩) M cp))/\Kp [g8,gs] Wl ((((wr.drew.setCell ⟨gs,3,none⟩ (.int .i64 a.n)).setCell ⟨gs,4,none⟩ (.string a.s)).setCell ⟨gs,5,none⟩ (.bool a.t)).setCell ⟨g8,0,none⟩ (.slice (some ⟨g,0,none⟩) M cp)):=by
 obtain ⟨h1,h2,h3⟩:=h
 have kd:Kp [g8,gs] wr ((((wr.drew.setCell ⟨gs,3,none⟩ (.int .i64 a.n)).setCell ⟨gs,4,none⟩ (.string a.s)).setCell ⟨gs,5,none⟩ (.bool a.t))):=((((Kp.drew wr |>.mono (by simp)).trans (Kp.set _ _ _ _) (by simp)).trans (Kp.set _ _ _ _) (by simp)).trans (Kp.set _ _ _ _) (by simp))
 have c2:CBox gs (sdCV ((a0::a::r).take 2)) 221 ((((wr.drew.setCell ⟨gs,3,none⟩ (.int .i64 a.n)).setCell ⟨gs,4,none⟩ (.string a.s)).setCell ⟨gs,5,none⟩ (.bool a.t))):=(CBox.set (CBox.set (CBox.set (CBox.kp h2 (Kp.drew _) (by simp)) 3 _) 4 _) 5 _)
 have c1:CBox g8 #[.slice (some ⟨g,0,none⟩) (M+1) cp] 216 ((((wr.drew.setCell ⟨gs,3,none⟩ (.int .i64 a.n)).setCell ⟨gs,4,none⟩ (.string a.s)).setCell ⟨gs,5,none⟩ (.bool a.t))):=(CBox.kp (CBox.kp (CBox.kp (CBox.kp h1 (Kp.drew _) (by simp)) (Kp.set _ _ _ _) (by simpa using hn)) (Kp.set _ _ _ _) (by simpa using hn)) (Kp.set _ _ _ _) (by simpa using hn))
 exact ⟨c1.set 0 _,c2.kp (Kp.set _ _ _ _) (by simp;omega),(h3.trans kd (fun _ hx=>Or.inl hx)).trans (Kp.set _ _ _ _) (by simp)⟩
theorem qej (l:List Vl): ∃s0 s1 s2 s3 s4 s5,sdCV l=#[s0,s1,s2,s3,s4,s5]:=by
 match l with
 |[]=>exact ⟨_,_,_,_,_,_,rfl⟩
 |[a]=>exact ⟨_,_,_,_,_,_,rfl⟩
 |a::b::_=>exact ⟨_,_,_,_,_,_,rfl⟩
theorem qd9 {fv:Value}{w W Wl wr:World}{g7 g8 g L cp Bx gop k:Nat}{p:Pt}{S:ByteArray}{N:Nat}{O I:Int}{F:Value}{lst:List Vl}{s0 s1 s2 s3 s4 s5:Value}(h:FLV fv w W Wl g7 g8 g L cp Bx gop p #[.string S, .int .i64 (N:Int), .int .u64 O, .int .i64 I,F] lst)(hr:CBox g8 #[.slice (some ⟨g,0,none⟩) (lst.length-k) cp] 216 wr/\CBox (gop+1) (sdCV (lst.take k)) 221 wr/\Kp [g8,gop+1] Wl wr)(hsd:sdCV (lst.take k)=#[s0,s1,s2,s3,s4,s5]):
  ∀W',Kp [g] wr W'->W'.cell? ⟨g8,0,none⟩=some (.slice (some ⟨g,0,none⟩) (lst.length-k) cp)/\W'.cell? ⟨w.heap.size,0,none⟩=some fv/\W'.cell? ⟨Bx,0,none⟩=some (.int .i64 p.kd)/\W'.cell? ⟨Bx,1,none⟩=some (.int .i64 p.n)/\W'.cell? ⟨Bx,2,none⟩=some (.string p.s)/\W'.cell? ⟨Bx,3,none⟩=some (.string p.st)/\W'.cell? ⟨Bx,4,none⟩=some (.int .i64 p.fl)/\W'.cell? ⟨gop,0,none⟩=some (.string S)/\W'.cell? ⟨gop,1,none⟩=some (.int .i64 (N:Int))/\W'.cell? ⟨gop,2,none⟩=some (.int .u64 O)/\W'.cell? ⟨gop,3,none⟩=some (.int .i64 I)/\W'.cell? ⟨gop,4,none⟩=some (F)/\W'.cell? ⟨gop+1,0,none⟩=some s0/\W'.cell? ⟨gop+1,1,none⟩=some s1/\W'.cell? ⟨gop+1,2,none⟩=some s2/\W'.cell? ⟨gop+1,3,none⟩=some s3/\W'.cell? ⟨gop+1,4,none⟩=some s4/\W'.cell? ⟨gop+1,5,none⟩=some s5:=fun W' hk=>by
 obtain ⟨h1,h2,h3⟩:=hr
 rw[hsd]at h2
 have a1:=h.le
 have a2:=h.gl
 have a3:=h.n1
 have a4:=h.n2
 have a5:=h.n3
 have a6:=h.n4
 have a7:=h.n5
 have a8:=h.n6
 have a9:=h.n7
 have a10:=h.g78
 have q8:=h1.kp hk (by simp;omega)
 have qs:=h2.kp hk (by simp;omega)
 have qe:=(h.be.kp h3 (by simp;omega)).kp hk (by simp;omega)
 have qx:=(h.bx.kp h3 (by simp;omega)).kp hk (by simp;omega)
 have qo:=(h.bop.kp h3 (by simp;omega)).kp hk (by simp;omega)
 exact ⟨q8.cell rfl,qe.cell rfl,qx.cell rfl,qx.cell rfl,qx.cell rfl,qx.cell rfl,qx.cell rfl,qo.cell rfl,qo.cell rfl,qo.cell rfl,qo.cell rfl,qo.cell rfl,qs.cell rfl,qs.cell rfl,qs.cell rfl,qs.cell rfl,qs.cell rfl,qs.cell rfl⟩
theorem qbd {EF:Nat}{fv:Value}{ad:Option Addr}{cap0:Nat}{w W Wl wr:World}{g7 g8 g L cp Bx gop k N:Nat}{p:Pt}{xs:List Pt}{x:Fin xs.length}{pre:List (Fin xs.length)}{S:ByteArray}{O I:Int}{F:Value}{lst:List Vl}{s0 s1 s2 s3 s4 s5:Value}
  (HE: ∀(p:Pt) (ts:List Ex) (W:World),p∈xs->(∀t∈ts,t.wf/\ ∀q∈t.flat,q∈xs)->(ts.flatMap Ex.flat).length+1<=xs.length->ts.length=sds p.kd->Below w.heap.size w W->
   Calls Tryz.prog EF #[.pointer (some ⟨gm,0,none⟩),p.v, .agg (rowC p.kd), .agg (sdCV (ts.map (Ex.val (vlv M))))] W fun e w'=>e= .returned (.agg (vlE ((vlv M) p (ts.map (Ex.val (vlv M))))).toArray)/\Below W.heap.size W w')
  (hx:p∈xs/\((pre++[x]).map fun i=>xs[i]).reverse=p::((pre.map fun i=>xs[i]).reverse)/\(∀q∈(pre.map fun i=>xs[i]).reverse,q∈xs)/\(pre.map fun i=>xs[i]).reverse.length<xs.length)
  (hi:FIV M fv ad cap0 w g7 g8 xs pre W/\stk (vlv M) ((pre.map fun i=>xs[i]).reverse)=some lst/\CBox g8 #[.slice (some ⟨g,0,none⟩) lst.length cp] 216 W/\W.ownsRow (w.heap.size+4) 165 3 (.slice (some ⟨g,0,none⟩) lst.length cp) lst.length (lst.reverse.flatMap vlE)/\CBox Bx #[.int .i64 p.kd, .int .i64 p.n, .string p.s, .string p.st, .int .i64 p.fl] 178 W)
  (h:FLV fv w W Wl g7 g8 g L cp Bx gop p #[.string S, .int .i64 (N:Int), .int .u64 O, .int .i64 I,F] lst) (hr:CBox g8 #[.slice (some ⟨g,0,none⟩) (lst.length-k) cp] 216 wr/\CBox (gop+1) (sdCV (lst.take k)) 221 wr/\Kp [g8,gop+1] Wl wr) (hN:sds p.kd=k) (hrc:rowC p.kd=#[.string S, .int .i64 (N:Int), .int .u64 O, .int .i64 I,F]) (hsd:sdCV (lst.take k)=#[s0,s1,s2,s3,s4,s5]) (hk:k<=lst.length):
  Calls Tryz.prog EF #[.pointer (some ⟨gm,0,none⟩), .agg #[.int .i64 p.kd, .int .i64 p.n, .string p.s, .string p.st, .int .i64 p.fl], .agg #[.string S, .int .i64 (N:Int), .int .u64 O, .int .i64 I,F], .agg #[s0,s1,s2,s3,s4,s5]] wr.drew fun e w'=>e= .returned (.agg #[.int .i64 ((vlv M) p (lst.take k)).n, .string ((vlv M) p (lst.take k)).s, .bool ((vlv M) p (lst.take k)).t])/\Below wr.drew.heap.size wr.drew w':=by
 obtain ⟨ts,t1,t2,t3⟩:=q2S (vlv M) _ lst hi.2.1
 have e1:(ts.take k).map (Ex.val (vlv M))=lst.take k:=by rw[t3,List.map_take]
 have hl:lst.length=ts.length:=by rw[t3,zI]
 have hb:Below w.heap.size w wr.drew:=by
  have a0:=hi.1.bel.size
  have a1:=h.le
  have a7:=h.n5
  have a10:=h.g78
  exact ((hi.1.bel.trans (h.kp.below a0 (by simp))).trans (hr.2.2.below (Nat.le_trans a0 h.kp.size) (by simp;omega))).trans ((Kp.drew wr).below (Nat.le_trans (Nat.le_trans a0 h.kp.size) hr.2.2.size) (by simp))
 have:=HE p (ts.take k) wr.drew hx.1 (fun t ht=>⟨t1 t (List.mem_of_mem_take ht),fun q hq=>hx.2.2.1 q (by rw[t2];exact List.mem_flatMap.2 ⟨t,List.mem_of_mem_take ht,hq⟩)⟩) (by have h1:=q3a ts k;have h2:=hx.2.2.2;rw[t2]at h2;omega) (by rw[zL,hN];omega) hb
 rw[e1,hsd,hrc]at this
 exact this
theorem qd7 {fv:Value}{w W Wl wr:World}{g7 g8 g cp Bx gop k:Nat}{p:Pt}{row:Array Value}{lst:List Vl}(h:FLV fv w W Wl g7 g8 g lst.length cp Bx gop p row lst)(hr:CBox g8 #[.slice (some ⟨g,0,none⟩) (lst.length-k) cp] 216 wr/\CBox (gop+1) (sdCV (lst.take k)) 221 wr/\Kp [g8,gop+1] Wl wr)(hk:k<=lst.length):
  wr.ownsRow (w.heap.size+4) 165 3 (.slice (some ⟨g,0,none⟩) (lst.length-k) cp) (lst.length-k) ((lst.drop k).reverse.flatMap vlE):=by
 have a1:=h.le
 have a2:=h.gl
 have a3:=h.n1
 have h1:=q03 h.row hr.2.2 (fun y e=>by simp[Value.ownBlock]at e;subst e;simp;omega)
 have h2:=q6l h1 (lst.length-k) (by omega)
 rw[q2a vlE 3 q4S,show lst.reverse.take (lst.length-k)=(lst.drop k).reverse by rw[List.reverse_drop]]at h2
 exact h2
theorem qbf {fv:Value}{ad:Option Addr}{cap0:Nat}{w W Wl wr:World}{g7 g8 g L cp Bx gop k:Nat}{p:Pt}{xs:List Pt}{x:Fin xs.length}{pre:List (Fin xs.length)}{row:Array Value}{lst:List Vl}(hi:FIV M fv ad cap0 w g7 g8 xs pre W)(h:FLV fv w W Wl g7 g8 g L cp Bx gop p row lst)(hb8:CBox g8 #[.slice (some ⟨g,0,none⟩) (lst.length-k) cp] 216 wr)(hk:Kp [g8,gop+1] Wl wr):
  ∀(w7:World) (g7' cap7 n:Nat) (l':List Vl),Kp [g] wr w7->(g7'=g\/wr.heap.size<=g7')->stk (vlv M) (((pre++[x]).map fun i=>xs[i]).reverse)=some l'->n=l'.length->w7.ownsRow (w.heap.size+4) 165 3 (.slice (some ⟨g7',0,none⟩) n cap7) n (l'.reverse.flatMap vlE)-> ∀B,
   KeepsFrom B W (w7.setCell ⟨g8,0,none⟩ (.slice (some ⟨g7',0,none⟩) n cap7))/\KpB w.heap.size (g7+1+1+1) W (w7.setCell ⟨g8,0,none⟩ (.slice (some ⟨g7',0,none⟩) n cap7))/\FIV M fv ad cap0 w g7 g8 xs (pre++[x]) (w7.setCell ⟨g8,0,none⟩ (.slice (some ⟨g7',0,none⟩) n cap7)):=fun w7 g7' cap7 n l' k7 hg hst hn hown B=>by
 subst hn
 have a1:=h.le
 have a2:=h.gl
 have a3:=h.n1
 have a6:=h.n4
 have a7:=h.n5
 have a9:=h.n7
 have a10:=h.g78
 have s1:=hk.size
 have s2:=h.kp.size
 have kW:Kp [g8,g] W (w7.setCell ⟨g8,0,none⟩ (.slice (some ⟨g7',0,none⟩) l'.length cap7)):=by
  refine ⟨?_,?_,?_,?_,fun j hj hn=>?_⟩
  ·exact ((Kp.set w7 g8 0 _).os.trans k7.os).trans (hk.os.trans h.kp.os)
  ·exact ((Kp.set w7 g8 0 _).tape.trans k7.tape).trans (hk.tape.trans h.kp.tape)
  ·exact ((Kp.set w7 g8 0 _).output.trans k7.output).trans (hk.output.trans h.kp.output)
  ·exact Nat.le_trans (Nat.le_trans s2 s1) (Nat.le_trans k7.size (Kp.set w7 g8 0 _).size)
  ·simp only[zH,List.not_mem_nil,or_false,not_or]at hn
   rw[(Kp.set w7 g8 0 _).block j (by have:=k7.size;omega) (by simpa using hn.1),k7.block j (by omega) (by simpa using hn.2),hk.block j (by omega) (by simp;omega),h.kp.block j hj (by simp)]
 have ne: ∀{y:Nat} {cs:Array Value} {t:TypeId},CBox y cs t W->y≠g8->y≠g->CBox y cs t (w7.setCell ⟨g8,0,none⟩ (.slice (some ⟨g7',0,none⟩) l'.length cap7)):=fun hb h1 h2=>hb.kp kW (by simp;omega)
 obtain ⟨l0,g0,c0,r1,r2,r3⟩:=hi.row
 have hgt: ∀{y:Nat} {cs:Array Value} {t:TypeId},CBox y cs t W->t≠165->y≠g:=fun hb ht e=>by
  have:=q0d h.row (hb.kp h.kp (by simp)) ht
  exact this (by rw[e];rfl)
 have c8:CBox g8 #[.slice (some ⟨g7',0,none⟩) l'.length cap7] 216 (w7.setCell ⟨g8,0,none⟩ (.slice (some ⟨g7',0,none⟩) l'.length cap7)):=by
  exact (hb8.kp k7 (by simp;omega)).set 0 _
 refine ⟨?_,⟨kW.below hi.bel.size (by simp;omega),kW.block _ (by have:=hi.sz;omega) (by simp;exact ⟨by omega,hgt hi.bs (by decide)⟩)⟩,⟨ne hi.be (by omega) (by omega),ne hi.b1 (by omega) (by omega),ne hi.b2 (by omega) (by omega),ne hi.b3 (by omega) (by omega),ne hi.bo (by omega) (hgt hi.bo (by decide)),⟨l',g7',cap7,hst,c8,q03 hown (Kp.set _ _ _ _) (fun y e=>by simp[Value.ownBlock]at e;subst e;simp;omega)⟩,hi.bel.trans (kW.below hi.bel.size (by simp;omega)),ne hi.bs (by omega) (hgt hi.bs (by decide)),Nat.le_trans hi.sz kW.size⟩⟩
 refine (KeepsOthers.ofCells kW (fun y hy=>?_)).from B
 simp only[zH,List.not_mem_nil,or_false]at hy
 rcases hy with rfl|rfl
 ·exact ⟨_,_,r2⟩
 ·obtain ⟨_,⟨e,_⟩|⟨g',cp',cur,e,_,h4,_⟩⟩:=h.row
  ·cases e
  ·cases e
   exact ⟨cur,165,(h.kp.block y a2 (by simp)).symm.trans h4⟩
theorem qbj (EF:Nat)(ad:Option Addr)(cap:Nat)(xs:List Pt)(hsz:xs.length<=200)(w:World)(hc:PtsLow w.heap.size w ad xs)
  (hen: ∀args W,(callFunc EF args).run Tryz.prog W= .ok (.enter EF args) W)
  (HE: ∀(p:Pt) (ts:List Ex) (W:World),p∈xs->(∀t∈ts,t.wf/\ ∀q∈t.flat,q∈xs)->(ts.flatMap Ex.flat).length+1<=xs.length->ts.length=sds p.kd->Below w.heap.size w W->
   Calls Tryz.prog EF #[.pointer (some ⟨gm,0,none⟩),p.v, .agg (rowC p.kd), .agg (sdCV (ts.map (Ex.val (vlv M))))] W fun e w'=>e= .returned (.agg (vlE ((vlv M) p (ts.map (Ex.val (vlv M))))).toArray)/\Below W.heap.size W w'):
  CallsIn Fence.wide 9 Tryz.prog 98 #[.slice ad xs.length cap, .func (.func EF) #[.pointer (some ⟨gm,0,none⟩)] #[]] w fun e w'=>e= .returned (foRV (fdX (vlv M) xs))/\Below w.heap.size w w':=by
 refine callsIn_of_wp_marks Tryz.func98 rfl trivial ?_ rfl
 simp only[Tryz.ntmps98,List.size_toArray,List.length_cons,List.length_nil,Nat.reduceAdd,Nat.reduceSub,Array.replicate_succ,Array.replicate_zero,List.push_toArray,List.append_toArray,List.nil_append,List.cons_append]
 have hs70:=q0x
 have E1:Hid (∀W,CallsIn Fence.wide 8 Tryz.prog 120 #[] W fun e w'=>e= .returned (.agg opsV)/\Kp [] W w'):=hZq (fun W=>callsIn_wide.2 (q1B W))
 have HHE:=hZq HE
 have HEN:=hZq hen
 have HC:=hZq hc
 clear HE hen hc
 gi_wp2_with (first
  |(refine ⟨trivial,?_⟩;gi_at_call 120;refine (uQ E1 _).mono ?_;rintro e w1 ⟨rfl,hk1⟩;have st:=q89 w1;have mk:=mkV)
  |(refine ⟨trivial,?_⟩;gi_at_call 121;refine (q7r _ _ _ _ _).mono ?_;rintro e w2 ⟨rfl,rfl⟩))
 have FI0:=q9u (M:=M) (ad:=ad) (cap:=cap) (xs:=xs) hk1
 obtain ⟨hI0,hbs,hbl,hsz0⟩:=FI0
 clear E1 st mk hk1
 generalize (((w1.alloc (.cells opsV 214)).alloc (.cells (madeCells #[.int .i64 0, .string { data:=#[] }, .bool false] (16 * 3)) 165)).alloc (.cells #[.slice (some ⟨w1.heap.size+1,0,none⟩) 0 16] 216)).alloc (.cells #[.slice ad xs.length cap] 86)=W0 at *
 have hbo0:Below w.heap.size w W0:=hbl
 refine wpIn_rangeFunc_ownH rfl (by omega) (gf:=144) (lb:=#[.pointer (some ⟨w1.heap.size+1+1+1,0,none⟩)]) rfl trivial (enters_of Tryz.func144 (by kernel_rfl) rfl)
  (q41 8 (w1.heap.size+1+1+1) w.heap.size cap ad xs (by omega) W0 hbl.size hbs ((uQ HC).below hbl)) KpB.trans (KpB.put hbl.size (by omega)) (Below.refl _ _) (fun _=>rfl)
  (FIV M (.func (.func EF) #[.pointer (some ⟨gm,0,none⟩)] #[]) ad cap w w1.heap.size (w1.heap.size+1+1) xs) (fun c pre W=>c= .ret/\FXV M w xs pre W) (FIV.own hbl.size) (fun c=>FXV.own hbl.size c) hI0
  (fun x a' W=> ∃Bx,W0.heap.size<=Bx/\CBox Bx (xs[x]).c 178 W/\a'={ tmps:=#[.slice ad xs.length cap, .func (.func EF) #[.pointer (some ⟨gm,0,none⟩)] #[],undef, .pointer (some ⟨w.heap.size,0,none⟩), .pointer (some ⟨w.heap.size+1,0,none⟩), .pointer (some ⟨w.heap.size+1+1,0,none⟩), .pointer (some ⟨w.heap.size+1+1+1,0,none⟩), .pointer (some ⟨w1.heap.size,0,none⟩), .pointer (some ⟨w1.heap.size+1+1,0,none⟩),undef, .pointer (some ⟨Bx,0,none⟩),undef,undef,undef,undef, .agg opsV, .slice (some ⟨w1.heap.size+1,0,none⟩) 0 16, .slice ad xs.length cap, .func (.func 144) #[] #[.pointer (some ⟨w1.heap.size+1+1+1,0,none⟩)], .int .i64 (x.val:Int),(xs[x]).v,undef,undef,undef,undef,undef,undef,undef,undef,undef,undef,undef,undef,undef,undef,undef,undef,undef,undef,undef,undef,undef,undef,undef,undef,undef,undef,undef,undef,undef,undef,undef,undef,undef,undef,undef,undef,undef,undef,undef,undef,undef,undef],defers:=[] })
  (fun x a' _ X Y row hs hg hr=>by obtain ⟨Bx,h1,h2,h3⟩:=hs;exact ⟨Bx,h1,q0b h2 hg (fun r e=>(hr r e).2),h3⟩) ?assign ?body ?done ?stop
 case assign=>
  rintro l pre x W K hi hK
  have HI:=hZq hi
  have hWs:=hZq hi.bel.size
  clear hi HHE HEN HC hI0 hbs hbl
  have hq:xs[x].v= .agg #[.int .i64 xs[x].kd, .int .i64 xs[x].n, .string xs[x].s, .string xs[x].st, .int .i64 xs[x].fl]:=rfl
  have hq2:xs[x].c=#[.int .i64 xs[x].kd, .int .i64 xs[x].n, .string xs[x].s, .string xs[x].st, .int .i64 xs[x].fl]:=rfl
  rw[hq]at hK ⊢
  rw[hq2]at hK
  generalize xs[x]=q at *
  obtain ⟨qk,qn,qs,qt,qf⟩:=q
  dsimp only at *
  gi_wp2
  have hiW:=uQ HI
  obtain ⟨l0,g0,c0,r1,r2,r3⟩:=hiW.row
  have ka:=Kp.alloc W (.cells #[.int .i64 qk, .int .i64 qn, .string qs, .string qt, .int .i64 qf] 178)
  refine hK _ _ ((KeepsOthers.alloc _ _).from _) ⟨(Below.refl _ W).alloc (uQ hWs) _,Below.heap_alloc _ _ _ (by have:=hiW.sz;omega)⟩ ⟨hiW.be.kp ka (by simp),hiW.b1.kp ka (by simp),hiW.b2.kp ka (by simp),hiW.b3.kp ka (by simp),hiW.bo.kp ka (by simp),⟨l0,g0,c0,r1,r2.kp ka (by simp),q03 r3 ka (by simp)⟩,hiW.bel.alloc hiW.bel.size _,hiW.bs.kp ka (by simp),by have:=hiW.sz;simp;omega⟩ ⟨W.heap.size,by have:=hiW.sz;omega,CBox.new W _ _,rfl⟩
 case body=>
  rintro l pre x a' W hl _ hi ⟨Bx,hBx,bX,rfl⟩ hlt
  have hpx:xs[x]∈xs:=zJ x.isLt
  have hnx:((pre++[x]).map fun i=>xs[i]).reverse=xs[x]::((pre.map fun i=>xs[i]).reverse):=by simp
  have hmem: ∀q∈(pre.map fun i=>xs[i]).reverse,q∈xs:=fun q hq=>by
   simp only[List.mem_reverse,List.mem_map]at hq
   obtain ⟨i,_,rfl⟩:=hq
   exact zJ i.isLt
  have hlen:(pre.map fun i=>xs[i]).reverse.length<xs.length:=by simpa using hlt
  have HSZ:Hid (W0.heap.size=w1.heap.size+4/\w.heap.size+4<=w1.heap.size):=hZq hsz0
  have HXP:=hZq (And.intro hpx (And.intro hnx (And.intro hmem hlen)))
  clear hpx hnx hmem hlen
  have hq:xs[x].v= .agg #[.int .i64 xs[x].kd, .int .i64 xs[x].n, .string xs[x].s, .string xs[x].st, .int .i64 xs[x].fl]:=rfl
  have hq2:xs[x].c=#[.int .i64 xs[x].kd, .int .i64 xs[x].n, .string xs[x].s, .string xs[x].st, .int .i64 xs[x].fl]:=rfl
  rw[hq]
  rw[hq2]at bX
  clear hq hq2
  generalize hpe:xs[x]=p at *
  have HPE:=hZq hpe
  clear hpe
  have RW:=hZq (CallsIn.inRound (n:=6) l (callsIn_wide.2 (q80 w1.heap.size p.kd W hi.bo)))
  have hone:=q1U p.kd
  have hrc:rowC p.kd=#[.string (txt (sgO p.kd)), .int .i64 (sds p.kd:Nat), .int .u64 (ofO p.kd), .int .i64 (isO p.kd),fnO p.kd]:=rfl
  have hcs:=bX.cell (i:=0) (v:= .int .i64 p.kd) rfl
  have hsd2:=q22 p.kd
  have HRC:=hZq hrc
  rw[hrc]at RW
  clear hrc
  generalize fnO p.kd=F at *
  generalize txt (sgO p.kd)=S at *
  generalize ofO p.kd=O at *
  generalize isO p.kd=I at *
  obtain ⟨N,hN⟩: ∃N,sds p.kd=N:=⟨_,rfl⟩
  rw[hN]at RW HRC hsd2
  have HN:=hZq hN
  clear hN
  have sF: ∀W a m,(store a F m).run Tryz.prog W=stored Tryz.prog W a F m:=fun W a m=>run_store Tryz.prog W a F m hone
  obtain ⟨lst,g,cp,hst,b8,hrow⟩:=hi.row
  have HI:=hZq (And.intro hi (And.intro hst (And.intro b8 (And.intro hrow bX))))
  have PF:=hZq (fun w2 (hk:Kp [] W w2)=>qd5 (S:=S) (N:=N) (O:=O) (I:=I) (F:=F) hi b8 hk)
  clear hi hst b8 hrow bX hbs hI0 hbl hbo0
  gi_wp2_with fail
  refine ⟨trivial,?_⟩
  refine (uQ RW).mono ?_
  rintro e w2 ⟨rfl,hk2⟩
  obtain ⟨c8,z1,z2,z3,z4,z5,z6,z7⟩:=uQ PF w2 hk2
  by_cases hLN:lst.length<N
  ·have hl1:((lst.length:Int)<(N:Int))=True:=by simp;omega
   have x10:=z1.cell (i:=0) (v:= .int .i64 0) rfl
   have x30:=z3.cell (i:=0) (v:= .int .i64 0) rfl
   have x11:=z1.cell (i:=1) (v:= .string { data:=#[] }) rfl
   have x31:=z3.cell (i:=1) (v:= .string { data:=#[] }) rfl
   have x12:=z1.cell (i:=2) (v:= .bool false) rfl
   have x32:=z3.cell (i:=2) (v:= .bool false) rfl
   have y2:=z2.cell (i:=0) (v:= .bool false) rfl
   have f1:=z1.froz
   have f2:=z2.froz
   have HD:=hZq (And.intro z1 (And.intro z2 (And.intro z4 z6)))
   clear z1 z2 z3 z4 z5 z6 z7 PF RW hk2 hone hcs
   gi_wp2
   obtain ⟨u1,u2,u4,u6⟩:=uQ HD
   obtain ⟨hi,hst,b8,hrow,bX⟩:=uQ HI
   obtain ⟨hpx,hnx,hmem,hlen⟩:=uQ HXP
   exact qd3 hi.bel u4 u1 u2 (by rw[hnx,stk,hst];dsimp only;rw[uQ HN,if_pos hLN])
  ·have hl1:((lst.length:Int)<(N:Int))=False:=by simp;omega
   have HLP:=hZq (qbh (uQ HI).1 (uQ HI).2.2.1 (uQ HI).2.2.2.1 (uQ HI).2.2.2.2 hk2 (S:=S) (N:=N) (O:=O) (I:=I) (F:=F) hBx (uQ HSZ).1 (uQ HSZ).2)
   clear z1 z2 z3 z4 z5 z6 z7 PF RW hk2 hone hcs
   gi_wp2
   generalize (w2.alloc (.cells #[.string S, .int .i64 (N:Int), .int .u64 O, .int .i64 I,F] 212)).alloc (.cells #[.int .i64 0, .string { data:=#[] }, .bool false, .int .i64 0, .string { data:=#[] }, .bool false] 221)=Wl at *
   clear c8 hl1
   gi_loopw [32] (fun i wr=> ∃k:Nat,k<=N/\i= .int .i64 (k:Int)/\Hid (CBox (w1.heap.size+1+1) #[.slice (some ⟨g,0,none⟩) (lst.length-k) cp] 216 wr/\CBox (w2.heap.size+1) (sdCV (lst.take k)) 221 wr/\Kp [w1.heap.size+1+1,w2.heap.size+1] Wl wr)) (fun i _=>N-(intOf i).toNat)
   case atStart=>exact ⟨0,Nat.zero_le _,rfl,hZq ⟨(uQ HLP).b8,(uQ HLP).bsd,Kp.refl _ _⟩⟩
   case round=>
    obtain ⟨k,hk,rfl,HR⟩:=hrel
    have HLN:Hid (lst.length<=200):=hZq (by have h1:=q3x (uQ HI).2.1;have h2:=(uQ HXP).2.2.2;omega)
    by_cases hkN:k<N
    ·rcases (show k=0\/k=1 by omega)with rfl|rfl
     ·obtain ⟨a,r,rfl⟩: ∃a r,lst=a::r:=qbb (by omega)
      obtain ⟨u8,us,uk⟩:=uQ HR
      have hRC:=hZq (q4W (uQ HLP) uk (k:=0) (by simp))
      have hlr:(a::r).length-0=r.length+1:=by simp
      rw[hlr]at u8
      obtain ⟨q0,q1,q2⟩:=uQ hRC
      have c8:=u8.cell (i:=0) (v:= .slice (some ⟨g,0,none⟩) (r.length+1) cp) rfl
      have fs:=us.froz
      have f8:=u8.froz
      have t0:=us.cell (i:=0) (v:= .int .i64 0) rfl
      have t1:=us.cell (i:=1) (v:= .string { data:=#[] }) rfl
      have t2:=us.cell (i:=2) (v:= .bool false) rfl
      have hn8:w1.heap.size+1+1≠w2.heap.size+1:=by have:=(uQ HLP).n4;have:=(uQ HLP).le;omega
      have hng:g≠w2.heap.size+1:=by have:=(uQ HLP).gl;have:=(uQ HLP).le;omega
      have HU:=hZq (And.intro u8 (And.intro us uk))
      clear u8 us uk hRC HR hlr
      obtain ⟨M,hM⟩: ∃M,r.length=M:=⟨_,rfl⟩
      have p0:wr.cell? ⟨g,M * 3,none⟩=some (.int .i64 a.n):=by have:=q0;subst hM;simpa using this
      have p1:wr.cell? ⟨g,M * 3+1,none⟩=some (.string a.s):=by have:=q1;subst hM;simpa using this
      have p2:wr.cell? ⟨g,M * 3+2,none⟩=some (.bool a.t):=by have:=q2;subst hM;simpa using this
      clear q0 q1 q2
      rw[hM]at c8 HU
      have HMM:=hZq hM
      clear hM
      have hM2:M<=1000000:=by have:=uQ HMM;have:=uQ HLN;simp at this;omega
      have hb1:((M:Int)<(M:Int)+1)=True:=by simp;omega
      have hb2:((M:Int)<=(M:Int)+1)=True:=by simp;omega
      have hcp:M<=cp:=by have h1:=q7J (uQ HLP);have h2:=uQ HMM;simp at h1;omega
      have hcp2:((M:Int)<=(cp:Int))=True:=by simp;omega
      have hS14:(fun W'=>W'.cell? ⟨w1.heap.size+1+1,0,none⟩=some (.slice (some ⟨g,0,none⟩) (M+1) cp)/\W'.cell? ⟨g,M * 3,none⟩=some (.int .i64 a.n)/\W'.cell? ⟨g,M * 3+1,none⟩=some (.string a.s)/\W'.cell? ⟨g,M * 3+2,none⟩=some (.bool a.t)) wr.drew:=⟨c8,p0,p1,p2⟩
      have hS15:(fun W'=>W'.cell? ⟨w1.heap.size+1+1,0,none⟩=some (.slice (some ⟨g,0,none⟩) (M+1) cp)/\W'.cell? ⟨g,M * 3,none⟩=some (.int .i64 a.n)/\W'.cell? ⟨g,M * 3+1,none⟩=some (.string a.s)/\W'.cell? ⟨g,M * 3+2,none⟩=some (.bool a.t)) (((wr.drew.setCell ⟨w2.heap.size+1,0,none⟩ (.int .i64 a.n)).setCell ⟨w2.heap.size+1,1,none⟩ (.string a.s)).setCell ⟨w2.heap.size+1,2,none⟩ (.bool a.t)):=q7L hn8 hng c8 0 p0 p1 p2
      have HEND:=hZq (q8q (uQ HU) hn8)
      gi_wp2
      refine q0l (fun W'=>W'.cell? ⟨w1.heap.size+1+1,0,none⟩=some (.slice (some ⟨g,0,none⟩) (M+1) cp)/\W'.cell? ⟨g,M * 3,none⟩=some (.int .i64 a.n)/\W'.cell? ⟨g,M * 3+1,none⟩=some (.string a.s)/\W'.cell? ⟨g,M * 3+2,none⟩=some (.bool a.t)) 10 (by kernel_rfl) (by kernel_rfl) (fun ⟨_,_,h⟩=>h) ?_
      show q0a _ _ _ _ _ _ 11 (Array.replicate 11 false) _ _
      refine zzL (i:=0) (v:=?_) rfl (Or.inl ⟨by rfl,?_⟩) hS14 ?_
      rotate_left
      ·intro w0 s9;(try dsimp only at s9);go_simp;(try with_reducible rfl)
      try simp only[Act.put,zz1,zz2,zz3]
      refine zzL (i:=1) (v:=?_) rfl (Or.inl ⟨by rfl,?_⟩) hS14 ?_
      rotate_left
      ·intro w0 s9;(try dsimp only at s9);go_simp;(try with_reducible rfl)
      try simp only[Act.put,zz1,zz2,zz3]
      refine zzL (i:=2) (v:=?_) rfl (Or.inl ⟨by rfl,?_⟩) hS14 ?_
      rotate_left
      ·intro w0 s9;(try dsimp only at s9);go_simp;(try with_reducible rfl)
      try simp only[Act.put,zz1,zz2,zz3]
      refine zzL (i:=3) (v:=?_) rfl (Or.inl ⟨by rfl,?_⟩) hS14 ?_
      rotate_left
      ·intro w0 s9;(try dsimp only at s9);go_simp;(try with_reducible rfl)
      try simp only[Act.put,zz1,zz2,zz3]
      refine zzL (i:=4) (v:=?_) rfl (Or.inl ⟨by rfl,?_⟩) hS14 ?_
      rotate_left
      ·intro w0 s9;(try dsimp only at s9);go_simp;(try with_reducible rfl)
      try simp only[Act.put,zz1,zz2,zz3]
      refine zzL (i:=5) (v:=?_) rfl (Or.inl ⟨by rfl,?_⟩) hS14 ?_
      rotate_left
      ·intro w0 s9;(try dsimp only at s9);go_simp;(try with_reducible rfl)
      try simp only[Act.put,zz1,zz2,zz3]
      refine zzL (i:=6) (v:=?_) rfl (Or.inl ⟨by rfl,?_⟩) hS14 ?_
      rotate_left
      ·intro w0 s9;(try dsimp only at s9);go_simp;(try with_reducible rfl)
      try simp only[Act.put,zz1,zz2,zz3]
      refine zzL (i:=7) (v:=?_) rfl (Or.inl ⟨by rfl,?_⟩) hS14 ?_
      rotate_left
      ·intro w0 s9;(try dsimp only at s9);go_simp;(try with_reducible rfl)
      try simp only[Act.put,zz1,zz2,zz3]
      refine zzL (i:=8) (v:=?_) rfl (Or.inl ⟨by rfl,?_⟩) hS14 ?_
      rotate_left
      ·intro w0 s9;(try dsimp only at s9);go_simp;(try with_reducible rfl)
      try simp only[Act.put,zz1,zz2,zz3]
      refine q01 (i:=9) rfl (by kernel_rfl) (fun K hK=>?_)
      go_simp
      refine hK _ _ (Or.inr hS15) ?_
      refine q01 (i:=10) rfl (by kernel_rfl) (fun K hK=>?_)
      go_simp
      refine hK _ _ (Or.inl rfl) ?_
      refine q0c (by kernel_rfl) ?_ _
      gi_wp2
      go_roundw
      case rel=>exact ⟨_,_,_,⟨1,by omega,rfl,hZq (by have e:=uQ HEND;have hm:=uQ HMM;subst hm;exact e)⟩,rfl,rfl,rfl⟩
      case measure=>simp[intOf];omega
     ·obtain ⟨a0,a,r,rfl⟩: ∃a0 a r,lst=a0::a::r:=q9s (by omega)
      obtain ⟨u8,us,uk⟩:=uQ HR
      have hRC:=hZq (q4W (uQ HLP) uk (k:=1) (by simp))
      have hlr:(a0::a::r).length-1=r.length+1:=by simp
      rw[hlr]at u8
      obtain ⟨q0,q1,q2⟩:=uQ hRC
      have c8:=u8.cell (i:=0) (v:= .slice (some ⟨g,0,none⟩) (r.length+1) cp) rfl
      have fs:=us.froz
      have f8:=u8.froz
      have t0:=us.cell (i:=3) (v:= .int .i64 0) rfl
      have t1:=us.cell (i:=4) (v:= .string { data:=#[] }) rfl
      have t2:=us.cell (i:=5) (v:= .bool false) rfl
      have hn8:w1.heap.size+1+1≠w2.heap.size+1:=by have:=(uQ HLP).n4;have:=(uQ HLP).le;omega
      have hng:g≠w2.heap.size+1:=by have:=(uQ HLP).gl;have:=(uQ HLP).le;omega
      have HU:=hZq (And.intro u8 (And.intro us uk))
      clear u8 us uk hRC HR hlr
      obtain ⟨M,hM⟩: ∃M,r.length=M:=⟨_,rfl⟩
      have p0:wr.cell? ⟨g,M * 3,none⟩=some (.int .i64 a.n):=by have:=q0;subst hM;simpa using this
      have p1:wr.cell? ⟨g,M * 3+1,none⟩=some (.string a.s):=by have:=q1;subst hM;simpa using this
      have p2:wr.cell? ⟨g,M * 3+2,none⟩=some (.bool a.t):=by have:=q2;subst hM;simpa using this
      clear q0 q1 q2
      rw[hM]at c8 HU
      have HMM:=hZq hM
      clear hM
      have hM2:M<=1000000:=by have:=uQ HMM;have:=uQ HLN;simp at this;omega
      have hb1:((M:Int)<(M:Int)+1)=True:=by simp;omega
      have hb2:((M:Int)<=(M:Int)+1)=True:=by simp;omega
      have hcp:M<=cp:=by have h1:=q7J (uQ HLP);have h2:=uQ HMM;simp at h1;omega
      have hcp2:((M:Int)<=(cp:Int))=True:=by simp;omega
      have hS14:(fun W'=>W'.cell? ⟨w1.heap.size+1+1,0,none⟩=some (.slice (some ⟨g,0,none⟩) (M+1) cp)/\W'.cell? ⟨g,M * 3,none⟩=some (.int .i64 a.n)/\W'.cell? ⟨g,M * 3+1,none⟩=some (.string a.s)/\W'.cell? ⟨g,M * 3+2,none⟩=some (.bool a.t)) wr.drew:=⟨c8,p0,p1,p2⟩
      have hS15:(fun W'=>W'.cell? ⟨w1.heap.size+1+1,0,none⟩=some (.slice (some ⟨g,0,none⟩) (M+1) cp)/\W'.cell? ⟨g,M * 3,none⟩=some (.int .i64 a.n)/\W'.cell? ⟨g,M * 3+1,none⟩=some (.string a.s)/\W'.cell? ⟨g,M * 3+2,none⟩=some (.bool a.t)) (((wr.drew.setCell ⟨w2.heap.size+1,3,none⟩ (.int .i64 a.n)).setCell ⟨w2.heap.size+1,4,none⟩ (.string a.s)).setCell ⟨w2.heap.size+1,5,none⟩ (.bool a.t)):=q7L hn8 hng c8 3 p0 p1 p2
      have HEND:=hZq (q8r (uQ HU) hn8)
      gi_wp2
      refine q0l (fun W'=>W'.cell? ⟨w1.heap.size+1+1,0,none⟩=some (.slice (some ⟨g,0,none⟩) (M+1) cp)/\W'.cell? ⟨g,M * 3,none⟩=some (.int .i64 a.n)/\W'.cell? ⟨g,M * 3+1,none⟩=some (.string a.s)/\W'.cell? ⟨g,M * 3+2,none⟩=some (.bool a.t)) 10 (by kernel_rfl) (by kernel_rfl) (fun ⟨_,_,h⟩=>h) ?_
      show q0a _ _ _ _ _ _ 11 (Array.replicate 11 false) _ _
      refine zzL (i:=0) (v:=?_) rfl (Or.inl ⟨by rfl,?_⟩) hS14 ?_
      rotate_left
      ·intro w0 s9;(try dsimp only at s9);go_simp;(try with_reducible rfl)
      try simp only[Act.put,zz1,zz2,zz3]
      refine zzL (i:=1) (v:=?_) rfl (Or.inl ⟨by rfl,?_⟩) hS14 ?_
      rotate_left
      ·intro w0 s9;(try dsimp only at s9);go_simp;(try with_reducible rfl)
      try simp only[Act.put,zz1,zz2,zz3]
      refine zzL (i:=2) (v:=?_) rfl (Or.inl ⟨by rfl,?_⟩) hS14 ?_
      rotate_left
      ·intro w0 s9;(try dsimp only at s9);go_simp;(try with_reducible rfl)
      try simp only[Act.put,zz1,zz2,zz3]
      refine zzL (i:=3) (v:=?_) rfl (Or.inl ⟨by rfl,?_⟩) hS14 ?_
      rotate_left
      ·intro w0 s9;(try dsimp only at s9);go_simp;(try with_reducible rfl)
      try simp only[Act.put,zz1,zz2,zz3]
      refine zzL (i:=4) (v:=?_) rfl (Or.inl ⟨by rfl,?_⟩) hS14 ?_
      rotate_left
      ·intro w0 s9;(try dsimp only at s9);go_simp;(try with_reducible rfl)
      try simp only[Act.put,zz1,zz2,zz3]
      refine zzL (i:=5) (v:=?_) rfl (Or.inl ⟨by rfl,?_⟩) hS14 ?_
      rotate_left
      ·intro w0 s9;(try dsimp only at s9);go_simp;(try with_reducible rfl)
      try simp only[Act.put,zz1,zz2,zz3]
      refine zzL (i:=6) (v:=?_) rfl (Or.inl ⟨by rfl,?_⟩) hS14 ?_
      rotate_left
      ·intro w0 s9;(try dsimp only at s9);go_simp;(try with_reducible rfl)
      try simp only[Act.put,zz1,zz2,zz3]
      refine zzL (i:=7) (v:=?_) rfl (Or.inl ⟨by rfl,?_⟩) hS14 ?_
      rotate_left
      ·intro w0 s9;(try dsimp only at s9);go_simp;(try with_reducible rfl)
      try simp only[Act.put,zz1,zz2,zz3]
      refine zzL (i:=8) (v:=?_) rfl (Or.inl ⟨by rfl,?_⟩) hS14 ?_
      rotate_left
      ·intro w0 s9;(try dsimp only at s9);go_simp;(try with_reducible rfl)
      try simp only[Act.put,zz1,zz2,zz3]
      refine q01 (i:=9) rfl (by kernel_rfl) (fun K hK=>?_)
      go_simp
      refine hK _ _ (Or.inr hS15) ?_
      refine q01 (i:=10) rfl (by kernel_rfl) (fun K hK=>?_)
      go_simp
      refine hK _ _ (Or.inl rfl) ?_
      refine q0c (by kernel_rfl) ?_ _
      gi_wp2
      go_roundw
      case rel=>exact ⟨_,_,_,⟨2,by omega,rfl,hZq (by have e:=uQ HEND;have hm:=uQ HMM;subst hm;exact e)⟩,rfl,rfl,rfl⟩
      case measure=>simp[intOf];omega
    ·obtain rfl:k=N:=by omega
     obtain ⟨s0,s1,s2,s3,s4,s5,hsd⟩:=qej (lst.take k)
     have HSL:=hZq (qd9 (uQ HLP) (uQ HR) hsd)
     have c8:=(uQ HR).1.cell (i:=0) (v:= .slice (some ⟨g,0,none⟩) (lst.length-k) cp) rfl
     have HCT:=hZq (qbd (uQ HHE) (uQ HXP) (uQ HI) (uQ HLP) (uQ HR) (uQ HN) (uQ HRC) hsd (by omega))
     have HOW:=hZq (qd7 (uQ HLP) (uQ HR) (by omega))
     have HFI:=hZq (qbf (x:=x) (uQ HI).1 (uQ HLP) (uQ HR).1 (uQ HR).2.2)
     have HST2:Hid (stk (vlv M) (((pre++[x]).map fun i=>xs[i]).reverse)=some ((vlv M) p (lst.take k)::lst.drop k)):=hZq (by
      rw[(uQ HXP).2.1,stk,(uQ HI).2.1]
      dsimp only
      rw[uQ HN,if_neg (by omega)])
     have HLL:Hid ((lst.drop k).length=lst.length-k):=hZq (by simp)
     obtain ⟨LL,hLL⟩: ∃LL,lst.length-k=LL:=⟨_,rfl⟩
     have HB8:=hZq (uQ HR).1
     have HKR:=hZq (uQ HR).2.2
     rw[hLL]at c8 HSL HOW HLL HB8
     have hLB:LL<=200:=by have:=uQ HLN;omega
     clear hLL HR
     have hS16:=uQ HSL wr.drew (Kp.drew wr |>.mono (by simp))
     gi_wp2
     refine q0l (fun W'=>W'.cell? ⟨w1.heap.size+1+1,0,none⟩=some (.slice (some ⟨g,0,none⟩) LL cp)/\W'.cell? ⟨w.heap.size,0,none⟩=some (.func (.func EF) #[.pointer (some ⟨gm,0,none⟩)] #[])/\W'.cell? ⟨Bx,0,none⟩=some (.int .i64 p.kd)/\W'.cell? ⟨Bx,1,none⟩=some (.int .i64 p.n)/\W'.cell? ⟨Bx,2,none⟩=some (.string p.s)/\W'.cell? ⟨Bx,3,none⟩=some (.string p.st)/\W'.cell? ⟨Bx,4,none⟩=some (.int .i64 p.fl)/\W'.cell? ⟨w2.heap.size,0,none⟩=some (.string S)/\W'.cell? ⟨w2.heap.size,1,none⟩=some (.int .i64 (k:Int))/\W'.cell? ⟨w2.heap.size,2,none⟩=some (.int .u64 O)/\W'.cell? ⟨w2.heap.size,3,none⟩=some (.int .i64 I)/\W'.cell? ⟨w2.heap.size,4,none⟩=some (F)/\W'.cell? ⟨w2.heap.size+1,0,none⟩=some s0/\W'.cell? ⟨w2.heap.size+1,1,none⟩=some s1/\W'.cell? ⟨w2.heap.size+1,2,none⟩=some s2/\W'.cell? ⟨w2.heap.size+1,3,none⟩=some s3/\W'.cell? ⟨w2.heap.size+1,4,none⟩=some s4/\W'.cell? ⟨w2.heap.size+1,5,none⟩=some s5) 8 (by kernel_rfl) (by kernel_rfl) (fun ⟨_,_,h⟩=>h) ?_
     show q0a _ _ _ _ _ _ 9 (Array.replicate 9 false) _ _
     refine zzL (i:=0) (v:=?_) rfl (Or.inl ⟨by rfl,?_⟩) hS16 ?_
     rotate_left
     ·intro w0 s9;(try dsimp only at s9);go_simp;(try with_reducible rfl)
     try simp only[Act.put,zz1,zz2,zz3]
     refine zzL (i:=1) (v:=?_) rfl (Or.inl ⟨by rfl,?_⟩) hS16 ?_
     rotate_left
     ·intro w0 s9;(try dsimp only at s9);go_simp;(try with_reducible rfl)
     try simp only[Act.put,zz1,zz2,zz3]
     refine zzL (i:=2) (v:=?_) rfl (Or.inl ⟨by rfl,?_⟩) hS16 ?_
     rotate_left
     ·intro w0 s9;(try dsimp only at s9);go_simp;(try with_reducible rfl)
     try simp only[Act.put,zz1,zz2,zz3]
     refine zzL (i:=3) (v:=?_) rfl (Or.inl ⟨by rfl,?_⟩) hS16 ?_
     rotate_left
     ·intro w0 s9;(try dsimp only at s9);go_simp;(try with_reducible rfl)
     try simp only[Act.put,zz1,zz2,zz3]
     refine zzL (i:=4) (v:=?_) rfl (Or.inl ⟨by rfl,?_⟩) hS16 ?_
     rotate_left
     ·intro w0 s9;(try dsimp only at s9);go_simp;(try with_reducible rfl)
     try simp only[Act.put,zz1,zz2,zz3]
     refine q01 (i:=5) rfl (by kernel_rfl) (fun K hK=>?_)
     go_simp
     rw[uQ HEN,Oper.upon_enter]
     refine (uQ HCT).mono ?_
     rintro e w3 ⟨rfl,hb3⟩
     dsimp only
     have kp3:Kp [] wr w3:=(Kp.drew wr).trans (Kp.ofBelow hb3) (by simp)
     refine hK _ _ (Or.inr (uQ HSL w3 (kp3.mono (by simp)))) ?_
     try simp only[Act.put,zz1,zz2,zz3]
     refine q01 (i:=6) rfl (by kernel_rfl) (fun K hK=>?_)
     go_simp
     have kp4:Kp [] wr (w3.alloc (.cells #[.int .i64 ((vlv M) p (lst.take k)).n, .string ((vlv M) p (lst.take k)).s, .bool ((vlv M) p (lst.take k)).t] 165)):=kp3.trans (Kp.alloc _ _) (by simp)
     have nc:=q52 w3 [.int .i64 ((vlv M) p (lst.take k)).n, .string ((vlv M) p (lst.take k)).s, .bool ((vlv M) p (lst.take k)).t] 165
     refine hK _ _ (Or.inr (uQ HSL _ (kp4.mono (by simp)))) ?_
     have hown:=q03 (uQ HOW) kp4 (by simp)
     have hlow:w.heap.size+4<=(w3.alloc (.cells #[.int .i64 ((vlv M) p (lst.take k)).n, .string ((vlv M) p (lst.take k)).s, .bool ((vlv M) p (lst.take k)).t] 165)).heap.size:=by have h1:=(uQ HI).1.bel.size;have h2:=(uQ HI).1.sz;have h3:=kp4.size;have h4:=(uQ HSZ).2;have h5:=(uQ HLP).kp.size;have h6:=(uQ HKR).size;omega
     obtain ⟨i0,hi0,hz0,hz1,hz2⟩:=info_parts q9D
     refine q01 (i:=7) rfl (by kernel_rfl) (fun K hK=>?_)
     refine q0O rfl (.tmp 48) (.tmp 54) 216 rfl (w.heap.size+4) 165 i0 (.agg #[.int .i64 0, .string { data:=#[] }, .bool false]) 3 32 Tryz.underlying216 hi0 hz0 hz1 hz2 rfl (by decide) (.slice (some ⟨g,0,none⟩) LL cp) LL _ rfl hown ⟨w3.heap.size,0,none⟩ 1 1 [.int .i64 ((vlv M) p (lst.take k)).n, .string ((vlv M) p (lst.take k)).s, .bool ((vlv M) p (lst.take k)).t] rfl rfl nc (by simp[Value.oneCell']) (by decide) (by simp[maxLen];omega) (by omega) hlow ?_
     rintro g5 cap5 w5 hw5 hgr hg5
     have kp5:Kp [g] wr w5:=(kp4.mono (by simp)).trans (Kp.of hgr) (by simp[Value.ownBlock])
     have hb5:=(uQ HB8).kp kp5 (by simp;have:=(uQ HLP).n1;omega)
     have c5:=hb5.cell (i:=0) rfl
     have f5:=hb5.froz
     have hge:g5=g\/wr.heap.size<=g5:=by
      rcases hg5 with h|h
      ·simp[Value.ownBlock]at h
       exact Or.inl h.symm
      ·exact Or.inr (by have:=kp4.size;omega)
     have hfin:=uQ HFI w5 g5 cap5 (LL+1) _ kp5 hge (uQ HST2) (by rw[List.length_cons,uQ HLL]) (by rw[List.reverse_cons,List.flatMap_append];exact hw5)
     refine hK _ _ (Or.inr (uQ HSL _ kp5)) ?_
     try simp only[Act.put,zz1,zz2,zz3]
     refine q01 (i:=8) rfl (by kernel_rfl) (fun K hK=>?_)
     go_simp
     refine hK _ _ (Or.inl rfl) ?_
     refine q0c (by kernel_rfl) ?_ _
     exact hfin W0.heap.size
 case done=>
  rintro D ys W hD rfl hi hK
  obtain ⟨l,g,cp,hst,b8,hrow⟩:=hi.row
  rw[q3n xs xs.length (zM _),Nat.sub_self,List.drop_zero]at hst
  have HI:=hZq hi
  have c8:=b8.cell (i:=0) (v:= .slice (some ⟨g,0,none⟩) l.length cp) rfl
  have y2:=hi.b2.cell (i:=0) (v:= .bool false) rfl
  have f1:=hi.b1.froz
  have f2:=hi.b2.froz
  have hb:=hi.bel
  have x10:=hi.b1.cell (i:=0) (v:= .int .i64 0) rfl
  have x30:=hi.b3.cell (i:=0) (v:= .int .i64 0) rfl
  have x11:=hi.b1.cell (i:=1) (v:= .string { data:=#[] }) rfl
  have x31:=hi.b3.cell (i:=1) (v:= .string { data:=#[] }) rfl
  have x12:=hi.b1.cell (i:=2) (v:= .bool false) rfl
  have x32:=hi.b3.cell (i:=2) (v:= .bool false) rfl
  have hln:l.length<=200:=Nat.le_trans (q3x hst) hsz
  have HB:=hZq (And.intro hi.b1 hi.b2)
  clear HHE HEN HC hI0 hbs hbl hi hbo0
  by_cases h1:l.length=1
  ·obtain ⟨a,rfl⟩:=List.length_eq_one_iff.1 h1
   have hc:=fun i hi=>q0t (enc:=vlE) (sz:=3) q4S (l:=[a]) hrow 0 i (by simp) hi
   have e0:W.cell? ⟨g,0,none⟩=some (.int .i64 a.n):=hc 0 (by omega)
   have e1:W.cell? ⟨g,1,none⟩=some (.string a.s):=hc 1 (by omega)
   have e2:W.cell? ⟨g,2,none⟩=some (.bool a.t):=hc 2 (by omega)
   clear hc hrow
   have HFD:Hid (fdX (vlv M) xs=some a):=hZq (by unfold fdX;rw[hst])
   clear hst b8
   gi_wp2
   obtain ⟨u1,u2⟩:=uQ HB
   have kd:Kp [w.heap.size+1,w.heap.size+1+1] W ((((W.setCell ⟨w.heap.size+1,0,none⟩ (.int .i64 a.n)).setCell ⟨w.heap.size+1,1,none⟩ (.string a.s)).setCell ⟨w.heap.size+1,2,none⟩ (.bool a.t)).setCell ⟨w.heap.size+1+1,0,none⟩ (.bool true)):=(((((Kp.refl _ W).trans (Kp.set _ _ _ _) (by simp)).trans (Kp.set _ _ _ _) (by simp)).trans (Kp.set _ _ _ _) (by simp)).trans (Kp.set _ _ _ _) (by simp))
   refine q2u (b:=true) rfl rfl rfl Tryz.underlying165 rfl ((kd.block D (zB.1 hK).1 (by simp;omega)).trans hK) (CBox.kp (CBox.set (CBox.set (CBox.set u1 0 _) 1 _) 2 _) (Kp.set _ _ _ _) (by simp)) (CBox.set (CBox.kp (CBox.kp (CBox.kp u2 (Kp.set _ _ _ _) (by simp)) (Kp.set _ _ _ _) (by simp)) (Kp.set _ _ _ _) (by simp)) 0 _) (hb.trans (kd.below hb.size (by simp;omega))) (by omega) (fun W' hW'=>⟨?_,hW'⟩)
   rw[uQ HFD]
   rfl
  ·have HFD:Hid (fdX (vlv M) xs=none):=hZq (by
    unfold fdX
    rw[hst]
    match l,h1 with
    |[],_=>rfl
    |_::_::_,_=>rfl)
   have h2:((l.length:Int)=1)=False:=by simp;omega
   clear hst b8 hrow
   gi_wp2
   obtain ⟨u1,u2⟩:=uQ HB
   have kd:Kp [w.heap.size+1,w.heap.size+1+1] W ((((W.setCell ⟨w.heap.size+1,0,none⟩ (.int .i64 0)).setCell ⟨w.heap.size+1,1,none⟩ (.string { data:=#[] })).setCell ⟨w.heap.size+1,2,none⟩ (.bool false)).setCell ⟨w.heap.size+1+1,0,none⟩ (.bool false)):=(((((Kp.refl _ W).trans (Kp.set _ _ _ _) (by simp)).trans (Kp.set _ _ _ _) (by simp)).trans (Kp.set _ _ _ _) (by simp)).trans (Kp.set _ _ _ _) (by simp))
   refine q2u (b:=false) rfl rfl rfl Tryz.underlying165 rfl ((kd.block D (zB.1 hK).1 (by simp;omega)).trans hK) (CBox.kp (CBox.set (CBox.set (CBox.set u1 0 _) 1 _) 2 _) (Kp.set _ _ _ _) (by simp)) (CBox.set (CBox.kp (CBox.kp (CBox.kp u2 (Kp.set _ _ _ _) (by simp)) (Kp.set _ _ _ _) (by simp)) (Kp.set _ _ _ _) (by simp)) 0 _) (hb.trans (kd.below hb.size (by simp;omega))) (by omega) (fun W' hW'=>⟨?_,hW'⟩)
   rw[uQ HFD]
   rfl
 case stop=>
  rintro D c pre W hD ⟨k,hk,rfl⟩ ⟨rfl,hx⟩ hK
  have hno:=hx.no
  rw[q3n xs k hk]at hno
  have HFD:fdX (vlv M) xs=none:=by
   unfold fdX
   rw[<-List.take_append_drop (xs.length-k) xs,q4l (vlv M) _ _ hno]
  have HX:=hZq hx
  clear hx hno HHE HEN HC hI0 hbs
  gi_wp2
  have hx:=uQ HX
  refine q2u (b:=false) rfl rfl rfl Tryz.underlying165 rfl hK hx.b1 hx.b2 hx.bel (by have:=hbl.size;omega) (fun W' hW'=>⟨?_,hW'⟩)
  rw[HFD]
  rfl
end Go.Proofs.YtfgkikeeadlcfaaGreatDoor
