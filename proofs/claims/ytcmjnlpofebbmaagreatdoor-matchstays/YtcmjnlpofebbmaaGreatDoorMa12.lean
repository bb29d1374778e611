/-
  Walks and plain facts, made small.
-/
import Derived.Test.YtcmjnlpofebbmaaGreatDoorMa11
import Derived.Lib.AppendIntMem
set_option maxRecDepth 100000
set_option maxHeartbeats 8000000
set_option linter.unusedSimpArgs false
namespace Go.Proofs.YtcmjnlpofebbmaaGreatDoor
open Go.RowKit
def Tk.c (t:Tk):Array Value:=#[.int .i64 t.kd, .string t.s, .int .i64 t.n, .int .i64 t.pl]
def tkC (l:List Tk):List Value:=l.flatMap fun t=>[.int .i64 t.kd, .string t.s, .int .i64 t.n, .int .i64 t.pl]
theorem q4f (a b:List Tk):tkC (a++b)=tkC a++tkC b:=by unfold tkC;exact List.flatMap_append
theorem q7y:(Tryz.prog.info? 78).map (fun i=>(i.zero,i.size,i.bytes))=some (some (.agg #[.int .i64 0, .string ⟨#[]⟩, .int .i64 0, .int .i64 0]),4,40):=by kernel_rfl
def OwnsK (B:Nat)(w:World)(v:Value)(l:List Tk):Prop:=w.ownsRow B 78 4 v l.length (tkC l)
theorem OwnsK.nil (B:Nat)(w:World):OwnsK B w (.slice none 0 0) []:=World.ownsRow_nil _ _ _ _
theorem OwnsK.alloc {B:Nat}{w:World}{v:Value}{l:List Tk}(h:OwnsK B w v l)(o:Obj):OwnsK B (w.alloc o) v l:=World.ownsRow.alloc h o
theorem OwnsK.drew {B:Nat}{w:World}{v:Value}{l:List Tk}(h:OwnsK B w v l):OwnsK B w.drew v l:=h
theorem OwnsK.form {B:Nat}{w:World}{v:Value}{l:List Tk}(h:OwnsK B w v l): ∃ad cp,v= .slice ad l.length cp:=by
 obtain ⟨_,⟨rfl,h0⟩|⟨g,cp,cur,rfl,_⟩⟩:=h
 ·exact ⟨_,_,by rw[h0]⟩
 ·exact ⟨_,_,rfl⟩
theorem OwnsK.below {B B':Nat}{w w':World}{v:Value}{l:List Tk}(h:OwnsK B w v l)(hb:Below B' w w')(hB:w.heap.size<=B'):OwnsK B w' v l:=by
 refine World.ownsRow.kept (row:=none) h ⟨hb.os,hb.tape,hb.output,hb.size,fun k hk _=>hb.block k (by omega)⟩ ?_
 cases v.ownBlock
 ·exact Or.inl rfl
 ·exact Or.inr (by simp)
theorem OwnsK.fault {k B:Nat}{w:World}{v:Value}{l:List Tk}(h:OwnsK B w v l)(hf:FBox k w)(a b:Value):OwnsK B ((w.setCell ⟨k,0,none⟩ a).setCell ⟨k,1,none⟩ b) v l:=by
 refine World.ownsRow.kept (row:=some k) h ⟨rfl,rfl,rfl,by simp,fun j hj hne=>?_⟩ ?_
 ·rw[Below.heap_setCell _ _ _ _ (fun e=>hne (by rw[e])),Below.heap_setCell _ _ _ _ (fun e=>hne (by rw[e]))]
 ·obtain ⟨_,⟨rfl,_⟩|⟨g,cp,cur,rfl,_,hh,_⟩⟩:=h
  ·exact Or.inl rfl
  ·refine Or.inr fun e=>?_
   simp[Value.ownBlock]at e
   subst e
   unfold FBox at hf
   rw[hh]at hf
   simp at hf
theorem q3V (g:Nat)(t:Tk)(w:World)(h:CBox g t.c 78 w): ∀(j:Nat) (u:Value),[Value.int .i64 t.kd, .string t.s, .int .i64 t.n, .int .i64 t.pl][j]?=some u->w.cell? ((⟨g,0,none⟩:Addr).add j)=some u:=fun j u hj=>by
 match j,hj with
 |0,hj=>simp at hj;subst hj;simpa [Addr.add] using h.cell (i:=0) (v:= .int .i64 t.kd) rfl
 |1,hj=>simp at hj;subst hj;simpa [Addr.add] using h.cell (i:=1) (v:= .string t.s) rfl
 |2,hj=>simp at hj;subst hj;simpa [Addr.add] using h.cell (i:=2) (v:= .int .i64 t.n) rfl
 |3,hj=>simp at hj;subst hj;simpa [Addr.add] using h.cell (i:=3) (v:= .int .i64 t.pl) rfl
theorem qbr {ops:Array Oper}{o:Oper}{a:Act}{w:World}{K:Act->World->Prop}{Q:Exit->Act->World->Prop}{E:Prop}
  (hg:o.guard=none) (s x:Operand) (hop:o.op=Op.call { callee:=Callee.builtin Builtin.append,args:=#[s,x],argTypes:=#[57,57] })
  (B:Nat) (v:Value) (l:List Tk) (t:Tk) (hs:a.eval s=v) (ho:OwnsK B w v l) (g:Nat) (hx:a.eval x= .slice (some ⟨g,0,none⟩) 1 1) (hc:CBox g t.c 78 w)
  (hl:l.length<=1000000) (hb:B<=w.heap.size)
  (hK: ∀v' w',OwnsK B w' v' (l++[t])->Fr B 78 w w'->w.grownBy w' v.ownBlock->K (a.put o.dst v') w'):
  if Region.wanted o (yielded ops a.tmps)=true then Oper.wp Tryz.prog o a w K Q else E:=by
 obtain ⟨i0,hi,hz0,hz1,hz2⟩:=info_parts q7y
 refine q4c hg s x 57 hop B 78 i0 (.agg #[.int .i64 0, .string ⟨#[]⟩, .int .i64 0, .int .i64 0]) 4 40 Tryz.underlying57 hi hz0 hz1 hz2 rfl (by decide) v l.length (tkC l) hs ho ⟨g,0,none⟩ 1 1 [.int .i64 t.kd, .string t.s, .int .i64 t.n, .int .i64 t.pl] hx rfl (q3V g t w hc) ?_ (by unfold maxLen;omega) (by omega) hb ?_
 ·intro u hu;simp at hu;rcases hu with rfl|rfl|rfl|rfl <;> rfl
 ·intro v' w' h1 h2
  refine hK v' w' ?_ ((Fr.refl _ _ _).grown ho h2 hb) h2
  unfold OwnsK
  rw[q4f,List.length_append]
  exact h1
theorem FBox.put {b:Nat}{w:World}(h:FBox b w)(x y:Value)(o:Obj):(((w.setCell ⟨b,0,none⟩ x).setCell ⟨b,1,none⟩ y).alloc o).cell? ⟨b,0,none⟩=some x/\(((w.setCell ⟨b,0,none⟩ x).setCell ⟨b,1,none⟩ y).alloc o).cell? ⟨b,1,none⟩=some y:=by
 have hl:=h.lt
 have hc:=h.cells
 constructor
 ·rw[World.cell?_alloc_past]
  ·simp[go_sem,hc]
  ·simpa using hl
 ·rw[World.cell?_alloc_past]
  ·simp[go_sem,hc]
  ·simpa using hl
theorem q3t {gb:Nat}{W:World}{a b c d:Value}(h:CBox gb #[a,b,c,d] 78 W):W.cell? ⟨gb,0,none⟩=some a/\W.cell? ⟨gb,1,none⟩=some b/\W.cell? ⟨gb,2,none⟩=some c:=⟨h.cell rfl,h.cell rfl,h.cell rfl⟩
theorem qbA {gb:Nat}{W w2:World}{a b c d:Value}{o:Obj}(h:CBox gb #[a,b,c,d] 78 W)(hb:Below W.drew.heap.size W.drew w2):(w2.alloc o).cell? ⟨gb,0,none⟩=some a/\(w2.alloc o).cell? ⟨gb,1,none⟩=some b/\(w2.alloc o).cell? ⟨gb,2,none⟩=some c:=
 q3t (CBox.kp (CBox.kp (CBox.kp h (Kp.drew _) (by simp)) (Kp.ofBelow hb) (by simp)) (Kp.alloc _ _) (by simp))
theorem qbz {gb:Nat}{W w2:World}{a b c d:Value}(h:CBox gb #[a,b,c,d] 78 W)(hb:Below W.drew.heap.size W.drew w2):w2.cell? ⟨gb,0,none⟩=some a/\w2.cell? ⟨gb,1,none⟩=some b/\w2.cell? ⟨gb,2,none⟩=some c:=
 q3t (CBox.kp (CBox.kp h (Kp.drew _) (by simp)) (Kp.ofBelow hb) (by simp))
theorem qbB {gb:Nat}{W w2 w3:World}{a b c d:Value}{o:Obj}{r:Option Nat}(h:CBox gb #[a,b,c,d] 78 W)(hb:Below W.drew.heap.size W.drew w2)(hg:(w2.alloc o).grownBy w3 r)(hr:r≠some gb):w3.cell? ⟨gb,0,none⟩=some a/\w3.cell? ⟨gb,1,none⟩=some b/\w3.cell? ⟨gb,2,none⟩=some c:=
 q3t (CBox.kp (CBox.kp (CBox.kp (CBox.kp h (Kp.drew _) (by simp)) (Kp.ofBelow hb) (by simp)) (Kp.alloc _ _) (by simp)) (Kp.of hg) (by cases r <;> simp_all;omega))
theorem qeK {B:Nat}{W w2:World}{v:Value}{l:List Tk}{o:Obj}(h:OwnsK B W v l)(hb:Below W.drew.heap.size W.drew w2):Hid (OwnsK B (w2.alloc o) v l):=hZq ((h.drew.below hb (Nat.le_refl _)).alloc _)
theorem qeL {B:Nat}{W w2:World}{o:Obj}(h:B<W.heap.size)(hb:Below W.drew.heap.size W.drew w2):Hid (B<=(w2.alloc o).heap.size):=hZq (by have:=hb.size;simp at this ⊢;omega)
def tsL (n:Nat):TR->List Tk
 | .bad _ _=>[]
 | .good l=>l++[⟨0,⟨#[]⟩,0,(n:Int)⟩]
def tsA:TR->Int
 | .bad k _=>(k:Int)
 | .good _=>0
def tsC:TR->Int
 | .bad _ c=>c
 | .good _=>0
def tsR (s:ByteArray):TR:=if 262144<s.size then .bad 0 2 else toks s.data.toList 0 0
theorem q4h (s:ByteArray)(w:World)(hT:TbW w)(hs:s.size<=9223372036854775807):
  Calls Tryz.prog 16 #[.string s] w fun e w'=> ∃v,e= .returned (.tuple #[v, .agg #[.int .i64 (tsA (tsR s)), .int .i64 (tsC (tsR s))]])/\OwnsK w.heap.size w' v (tsL s.size (tsR s))/\Below w.heap.size w w':=by
 generalize hR:tsR s=R
 unfold tsR at hR
 have hlow:=hT.low
 by_cases hbig:262144<s.size
 ·rw[if_pos hbig]at hR
  subst hR
  go_enter Tryz.func16,Tryz.ntmps16
  go_wp2
  exact bodyPost_ret (v:= .tuple #[.slice none 0 0, .agg #[.int .i64 0, .int .i64 2]]) (by simp[results,Tryz.results16,go_sem]) rfl ⟨_,rfl,OwnsK.nil _ _,(Below.refl _ _).alloc (Nat.le_refl _) _⟩
 ·rw[if_neg hbig]at hR
  have HR:=hZq hR
  clear hR
  obtain ⟨i0,hi,hz0,hz1,hz2⟩:=info_parts q7y
  have hsp:=q19 q09 s.data.toList
  rw[q0f]at hsp
  have HG:=hZq (q6B s.data.toList 0 0)
  have HG2:=hZq (q3M (p:=q09) (l:=s.data.toList))
  have SP:=fun W hW=>q22 s 1 q09 q7j W hW (by omega)
  generalize spn q09 s.data.toList=k0 at *
  rw[Nat.zero_add]at HG
  have HSP:=hZq SP
  clear SP
  go_enter Tryz.func16,Tryz.ntmps16
  go_wp2_with fail
  refine (uQ HSP _ (hT.alloc _)).mono ?_
  rintro e w1 ⟨rfl,rfl⟩
  go_wp2_with fail
  go_loopw [4,5] (fun v p wr=> ∃(k:Nat) (acc:List Tk),k<=s.size/\p= .int .i64 (k:Int)/\OwnsK w.heap.size wr v acc/\Below w.heap.size w wr/\FBox w.heap.size wr/\acc.length<=4096/\Hid (spn q09 (s.data.toList.drop k)=0/\(toks (s.data.toList.drop k) k acc.length).pre acc=R)) (fun _ p _=>s.size-(intOf p).toNat)
  case atStart=>exact ⟨k0,[],hsp,rfl,OwnsK.nil _ _,(Below.refl _ _).alloc (Nat.le_refl _) _,heap_alloc_new _ _,by simp,hZq ⟨uQ HG2,by rw[TR.pre_nil, <-uQ HR,uQ HG];rfl⟩⟩
  case round=>
   obtain ⟨k,acc,hk,rfl,hown,hbel,hfb,hacc,HD⟩:=hrel
   obtain ⟨av,cv,rfl⟩:=hown.form
   have hfl:=hfb.lt
   have hTr:TbW wr:=hT.below hbel (by omega)
   clear HR HG HG2 HSP hsp
   by_cases hlt:k<s.size
   ·have hne:s.data.toList.drop k≠[]:=fun e=>by
     have:=congrArg List.length e
     rw[List.length_drop,q0f]at this
     simp at this
     omega
    have RD:=q6o (s.extract k s.size) wr hTr (by rw[ByteArray.size_extract];omega)
    rw[show (s.extract k s.size).data.toList=s.data.toList.drop k by rw[q3A];rfl]at RD
    cases hQ:tkR (s.data.toList.drop k)with
    |none=>
     rw[hQ]at RD
     have hd:=(uQ HD).2
     rw[q1l hQ hne (uQ HD).1]at hd
     subst hd
     have HRD:Hid (Calls Tryz.prog 32 #[.string (s.extract k s.size)] wr fun e w'=>e= .returned (.tuple #[.agg #[.int .i64 0, .string ⟨#[]⟩, .int .i64 0, .int .i64 0], .int .i64 0])/\Below wr.heap.size wr w'):=hZq RD
     clear RD hQ HD hne
     go_wp2_with fail
     refine (uQ HRD).mono ?_
     rintro e w1 ⟨rfl,hb1⟩
     have hfb1:=hfb.below hb1 hfl
     have hfc1:=hfb1.cells
     have hfl1:=hfb1.lt
     have HBE:Hid (Below w.heap.size w w1):=hZq (hbel.trans (hb1.mono (Nat.le_of_lt hfl)))
     clear hfb hown hbel hb1
     go_wp2
     obtain ⟨z0,z1⟩:=hfb1.put (.int .i64 (k:Int)) (.int .i64 100) (.cells #[.int .i64 0, .string ⟨#[]⟩, .int .i64 0, .int .i64 0] 78)
     exact bodyPost_ret (v:= .tuple #[.slice none 0 0, .agg #[.int .i64 (k:Int), .int .i64 100]]) (by simp[results,Tryz.results16,go_sem,z0,z1]) rfl ⟨_,rfl,OwnsK.nil _ _,(((uQ HBE).setCell (Nat.le_refl _) _).setCell (Nat.le_refl _) _).alloc (by simp;omega) _⟩
    |some q=>
     obtain ⟨⟨tk,tt,tn,tp⟩,n⟩:=q
     rw[hQ]at RD
     have HRD:Hid (Calls Tryz.prog 32 #[.string (s.extract k s.size)] wr fun e w'=>e= .returned (.tuple #[.agg #[.int .i64 tk, .string tt, .int .i64 tn, .int .i64 tp], .int .i64 (n:Int)])/\Below wr.heap.size wr w'):=hZq RD
     clear RD
     have hX:=q0o hQ
     have hn0:=hX.1
     have hnl:=hX.2.1
     have hpl:tp=0:=hX.2.2.2.1
     have hts:tt.size<=256:=hX.2.2.2.2.2.2.1
     clear hX
     subst hpl
     rw[List.length_drop,q0f]at hnl
     have g0:((n:Int)==0)=false:=by simp;omega
     by_cases hful:acc.length=4096
     ·have hd:=(uQ HD).2
      rw[hful,q1k hQ]at hd
      subst hd
      have g1:((acc.length:Int)==4096)=true:=by simp;omega
      clear hQ HD hne hful
      go_wp2_with fail
      refine (uQ HRD).mono ?_
      rintro e w1 ⟨rfl,hb1⟩
      have hfb1:=hfb.below hb1 hfl
      have hfc1:=hfb1.cells
      have hfl1:=hfb1.lt
      have HBE:Hid (Below w.heap.size w w1):=hZq (hbel.trans (hb1.mono (Nat.le_of_lt hfl)))
      clear hfb hown hbel hb1
      go_wp2
      obtain ⟨z0,z1⟩:=hfb1.put (.int .i64 (k:Int)) (.int .i64 2) (.cells #[.int .i64 tk, .string tt, .int .i64 tn, .int .i64 0] 78)
      exact bodyPost_ret (v:= .tuple #[.slice none 0 0, .agg #[.int .i64 (k:Int), .int .i64 2]]) (by simp[results,Tryz.results16,go_sem,z0,z1]) rfl ⟨_,rfl,OwnsK.nil _ _,(((uQ HBE).setCell (Nat.le_refl _) _).setCell (Nat.le_refl _) _).alloc (by simp;omega) _⟩
     ·have hd:=(uQ HD).2
      rw[q13 hQ hful,TR.pre_pre,List.drop_drop,q6B]at hd
      have g1:((acc.length:Int)==4096)=false:=by simp;omega
      have hsp2:=q19 q09 (s.data.toList.drop (k+n))
      rw[List.length_drop,q0f]at hsp2
      have SP2:=fun W hW=>q22 (s.extract (k+n) s.size) 1 q09 q7j W hW (by rw[ByteArray.size_extract];omega)
      rw[show (s.extract (k+n) s.size).data.toList=s.data.toList.drop (k+n) by rw[q3A];rfl]at SP2
      have hz:=q3M (p:=q09) (l:=s.data.toList.drop (k+n))
      generalize spn q09 (s.data.toList.drop (k+n))=m at *
      rw[List.drop_drop]at hd hz
      have HD2:Hid (spn q09 (s.data.toList.drop (k+n+m))=0/\(toks (s.data.toList.drop (k+n+m)) (k+n+m) (acc.length+1)).pre (acc++[⟨tk,tt,tn,(k:Int)⟩])=R):=hZq ⟨hz,hd⟩
      have HSP2:=hZq SP2
      clear hQ HD hne hd hz SP2
      have hacc2:acc.length<4096:=by omega
      clear hful
      go_wp2_with fail
      refine (uQ HRD).mono ?_
      rintro e w1 ⟨rfl,hb1⟩
      have hfb1:=hfb.below hb1 hfl
      have hfl1:=hfb1.lt
      have hbel1:Below w.heap.size w w1:=hbel.trans (hb1.mono (Nat.le_of_lt hfl))
      have hown1:=hown.below hb1 (Nat.le_refl _)
      clear hfb hown hbel hb1 hTr
      go_wp2_with fail
      have hbx:CBox w1.heap.size #[.int .i64 tk, .string tt, .int .i64 tn, .int .i64 0] 78 (w1.alloc (.cells #[.int .i64 tk, .string tt, .int .i64 tn, .int .i64 0] 78)):=CBox.new w1 _ _
      have HNE:Hid ((Value.slice av acc.length cv).ownBlock≠some w1.heap.size):=hZq (fun e=>by have:=(World.ownsRow.lt hown1 _ e).2;omega)
      have hown2:OwnsK w.heap.size (w1.alloc (.cells #[.int .i64 tk, .string tt, .int .i64 tn, .int .i64 0] 78)) (.slice av acc.length cv) acc:=hown1.alloc _
      have hfb2:FBox w.heap.size (w1.alloc (.cells #[.int .i64 tk, .string tt, .int .i64 tn, .int .i64 0] 78)):=CBox.kp hfb1 (Kp.alloc _ _) (by simp)
      have hbel2:Below w.heap.size w (w1.alloc (.cells #[.int .i64 tk, .string tt, .int .i64 tn, .int .i64 0] 78)):=hbel1.alloc (Nat.le_of_lt hfl1) _
      have hfl2:=hfb2.lt
      clear hown1 hfb1 hbel1
      generalize w1.alloc (.cells #[.int .i64 tk, .string tt, .int .i64 tn, .int .i64 0] 78)=W at *
      generalize w1.heap.size=gb at *
      have CL:=q1E tt W.drew (by omega)
      have HCL:=hZq CL
      have HOW:=hZq hown2
      clear CL hown2
      go_region_held3 (fun w'=>w'.cell? ⟨gb,0,none⟩=some (.int .i64 tk)/\w'.cell? ⟨gb,1,none⟩=some (.string tt)/\w'.cell? ⟨gb,2,none⟩=some (.int .i64 tn)) (first|with_reducible exact qbB hbx (uQ HB2) (uQ HG3) (uQ HNE)|with_reducible exact qbA hbx (uQ HB2)|with_reducible exact qbz hbx (uQ HB2)|with_reducible exact q3t hbx)
       (first
        |(refine qbr rfl (.tmp 34) (.tmp 44) rfl w.heap.size (.slice av acc.length cv) acc ⟨tk,tt,tn,(k:Int)⟩ rfl (uQ HO2) w2.heap.size rfl (CBox.new w2 _ _) (by omega) (uQ HS2) ?_;intro v3 w3 ho3 fr3 hg3;have HG3:=hZq hg3)
        |(go_at_call 13;refine (uQ HCL).mono ?_;rintro e w2 ⟨rfl,hb2⟩;have HB2:=hZq hb2;have HO2:Hid (OwnsK w.heap.size (w2.alloc (.cells #[.int .i64 tk, .string tt, .int .i64 tn, .int .i64 (k:Int)] 78)) (.slice av acc.length cv) acc):=qeK (uQ HOW) hb2;have HS2:Hid (w.heap.size<=(w2.alloc (.cells #[.int .i64 tk, .string tt, .int .i64 tn, .int .i64 (k:Int)] 78)).heap.size):=qeL hfl2 hb2))
      have hb3:Below w.heap.size w w3:=(((hbel2.drew).trans ((uQ HB2).mono (Nat.le_of_lt hfl2))).alloc (by have:=uQ HS2;have:=(uQ HB2).size;simp at this;omega) _).trans fr3.below
      have hfb3:FBox w.heap.size w3:=fr3.keep (CBox.kp (CBox.kp (CBox.kp hfb2 (Kp.drew _) (by simp)) (Kp.ofBelow (uQ HB2)) (by simp)) (Kp.alloc _ _) (by simp)) (by decide)
      have hT3:TbW w3:=hT.below hb3 (by omega)
      have hown3:=ho3
      clear ho3 fr3 hg3 HG3 HO2 HS2 HB2 HOW HCL hbx hfb2 hbel2 hb2 HNE HRD
      go_wp2_with fail
      refine (uQ HSP2 _ hT3).mono ?_
      rintro e w4 ⟨rfl,rfl⟩
      go_wp2
      go_roundw
      case rel=>exact ⟨k+n+m,acc++[⟨tk,tt,tn,(k:Int)⟩],by omega,by go_num,hown3,hb3,hfb3,by simp;omega,by rw[List.length_append];exact HD2⟩
      case measure=>simp[intOf];omega
   ·have hd:=(uQ HD).2
    rw[List.drop_of_length_le (by rw[q0f];omega),q1A]at hd
    subst hd
    clear HD
    have HFB:=hZq hfb
    have hfc:=hfb.cells
    clear hfb hTr
    go_wp2_with (at_builtin;refine wpList_append_own _ rfl _ _ 57 rfl w.heap.size 78 i0 (.agg #[.int .i64 0, .string ⟨#[]⟩, .int .i64 0, .int .i64 0]) 4 40 Tryz.underlying57 hi hz0 hz1 hz2 rfl (by decide) _ _ _ rfl (hown.alloc _) ⟨wr.heap.size,0,none⟩ 1 1 [.int .i64 0, .string ⟨#[]⟩, .int .i64 0, .int .i64 (s.size:Int)] rfl rfl (q3V _ ⟨0,⟨#[]⟩,0,(s.size:Int)⟩ _ (CBox.new wr _ _)) ?c2 ?c3 ?c4 ?c5 ?_)
    case c2=>intro u hu;simp at hu;rcases hu with rfl|rfl|rfl|rfl <;> rfl
    case c3=>unfold maxLen;omega
    case c4=>omega
    case c5=>simp;omega
    intro v' w2 hown2 hgrow _
    have hfr:Fr w.heap.size 78 wr w2:=((Fr.refl _ _ wr).alloc (Nat.le_of_lt hfl) _).grown (hown.alloc _) hgrow (by simp;omega)
    have hfb2:FBox w.heap.size w2:=hfr.keep (uQ HFB) (by decide)
    have hfc2:=hfb2.cells
    have hown3:OwnsK w.heap.size w2 v' (acc++[⟨0,⟨#[]⟩,0,(s.size:Int)⟩]):=by
     unfold OwnsK
     rw[q4f,List.length_append]
     exact hown2
    have HB2:Hid (OwnsK w.heap.size w2 v' (acc++[⟨0,⟨#[]⟩,0,(s.size:Int)⟩])/\FBox w.heap.size w2/\Below w.heap.size w w2):=hZq ⟨hown3,hfb2,hbel.trans hfr.below⟩
    obtain ⟨a3,c3,rfl⟩:=hown3.form
    clear hown2 hgrow hown hfr hbel HFB hfb2 hown3 hfc
    go_wp2
    obtain ⟨o1,o2,o3⟩:=uQ HB2
    exact bodyPost_ret (v:= .tuple #[.slice a3 (acc++[(⟨0,⟨#[]⟩,0,(s.size:Int)⟩:Tk)]).length c3, .agg #[.int .i64 0, .int .i64 0]]) (by simp[results,Tryz.results16,go_sem,hfc2]) rfl ⟨_,rfl,by simpa [tsL,TR.pre] using o1.fault o2 _ _,(o3.setCell (Nat.le_refl _) _).setCell (Nat.le_refl _) _⟩
open Go.RowKit
theorem eqT (d:Nat)(a b:Tk)(w:World):(Op.equalIn (d+2) 78 a.v b.v).run Tryz.prog w= .ok (tkEq a b) w:=by
 obtain ⟨k,s,n,p⟩:=a
 obtain ⟨k',s',n',p'⟩:=b
 have hi:=fun (a b:Int) (w:World)=>run_equalIn_int (P:=Tryz.prog) w d 3 .i64 .i64 a b Tryz.underlying3
 have hi6:=fun (a b:Int) (w:World)=>run_equalIn_int (P:=Tryz.prog) w d 2 .i64 .i64 a b Tryz.underlying2
 have hs:=fun (a b:ByteArray) (w:World)=>run_equalIn_string (P:=Tryz.prog) w d 9 a b Tryz.underlying9
 unfold Op.equalIn Tk.v tkEq
 simp only[Sem.run_bind,run_underlying Tryz.underlying78,Result.andThen_ok]
 simp[part,Tryz.sizeOf3,Tryz.sizeOf2,Tryz.sizeOf9,go_sem,hi,hi6,hs,ByteArray.toList_eq]
 by_cases h0:k=k' <;> by_cases h1:s.data=s'.data <;> by_cases h2:n=n' <;> by_cases h3:p=p' <;> simp[h0,h1,h2,h3]
theorem qbd (s:ByteArray):(⟨#[39]⟩++s++⟨#[39]⟩:ByteArray)=txt (39::(s.data.toList++[39])):=by
 apply ByteArray.ext
 apply Array.ext'
 simp[txt]
theorem q8a (n:Int)(h0: -9223372036854775808<=n)(h1:n<=9223372036854775807)(w:World)(hT:TbW w):
  Calls Tryz.prog 195 #[.int .i64 n, .int .i64 10] w fun e w'=>e= .returned (.string (txt (Lib.itoa n)))/\Below w.heap.size w w':=by
 refine (Tryz.strconv_FormatInt_10 n h0 h1 w hT.pow).mono ?_
 rintro e w1 ⟨rfl,kk,os,rfl⟩
 exact ⟨rfl,Lib.below_grow _ _ (Nat.le_refl _) _ _⟩
open Go.RowKit Go.Shelf
def stgA (out:List ByteArray)(p:Pt):List ByteArray:=if q05 p.st||hasN out p.st then out else out++[p.st]
def stgL (x:List Pt):List ByteArray:=x.foldl stgA []
theorem q9W (x:List Pt)(k:Nat)(h:k<x.length):stgL (x.take (k+1))=stgA (stgL (x.take k)) x[k]:=by
 unfold stgL
 rw[List.take_succ_eq_append_getElem h,List.foldl_append]
 rfl
theorem qbs (out:List ByteArray)(p:Pt):(stgA out p).length<=out.length+1:=by
 unfold stgA
 split
 ·omega
 ·simp
theorem q5d (x:List Pt): ∀out:List ByteArray,(x.foldl stgA out).length<=out.length+x.length:=by
 induction x with
 |nil=>intro out;simp
 |cons p r ih=>
  intro out
  have h1:=ih (stgA out p)
  have h2:=qbs out p
  rw[List.foldl_cons,List.length_cons]
  omega
theorem q6y (x:List Pt):(stgL x).length<=x.length:=by
 have:=q5d x []
 simpa [stgL] using this
theorem Ex.fine_st (t:Ex)(h:t.fine): ∀q∈t.flat,q05 q.st=true\/isSg q.st=true:=by
 induction t with
 |lf p=>
  intro q hq
  simp only[Ex.flat,List.mem_singleton]at hq
  subst hq
  rcases q9p h with ⟨_,_,e⟩|⟨_,_,e⟩|⟨_,_,_,e,_⟩
  ·rw[e];exact Or.inl rfl
  ·rw[e];exact Or.inl rfl
  ·rcases e with e|e
   ·rw[e];exact Or.inl rfl
   ·exact Or.inr e
 |un p a ih=>
  intro q hq
  simp only[Ex.flat,List.mem_cons]at hq
  rcases hq with rfl|hq
  ·rw[h.2.1];exact Or.inl rfl
  ·exact ih h.2.2 q hq
 |bi p a b iha ihb=>
  intro q hq
  simp only[Ex.flat,List.mem_cons,List.mem_append]at hq
  rcases hq with rfl|hq|hq
  ·rw[h.2.2.1];exact Or.inl rfl
  ·exact iha h.2.2.2.1 q hq
  ·exact ihb h.2.2.2.2 q hq
theorem q38 {s:ByteArray}(h:isSg s=true):0<s.size/\s.size<=32:=by
 unfold isSg at h
 simp only[Bool.and_eq_true,decide_eq_true_eq]at h
 exact ⟨h.1.1.1.1,h.1.1.1.2⟩
theorem qen {x:List Pt}(h:ckK x≠0): ∀q∈x,(q05 q.st=true\/isSg q.st=true)/\q.st.size<=32:=by
 obtain ⟨t,_,h2,h3,_⟩:=q1o h
 intro q hq
 rw[h3]at hq
 have:=t.fine_st h2 q hq
 refine ⟨this,?_⟩
 rcases this with e|e
 ·unfold q05 at e;have:q.st.size=0:=by simpa using e
  omega
 ·exact (q38 e).2
def stgS (x:List Pt):List ByteArray:=if ckK x=0 then [] else stgL x
theorem q3O (x:List Pt):(stgS x).length<=200:=by
 unfold stgS
 split
 ·simp
 ·rename_i h
  obtain ⟨_,_,_,_,_,h5,_⟩:=q1o h
  have:=q6y x
  omega
def nmC (l:List ByteArray):List Value:=l.map Value.string
def OwnsW (B:Nat)(w:World)(v:Value)(l:List ByteArray):Prop:=w.ownsRow B 9 1 v l.length (nmC l)
theorem q5S:(Tryz.prog.info? 9).map (fun i=>(i.zero,i.size,i.bytes))=some (some (.string ⟨#[]⟩),1,16):=by kernel_rfl
theorem OwnsW.nil (B:Nat)(w:World):OwnsW B w (.slice none 0 0) []:=World.ownsRow_nil _ _ _ _
theorem OwnsW.kp {B:Nat}{w w':World}{v:Value}{l:List ByteArray}(h:OwnsW B w v l)(hk:Kp [] w w'):OwnsW B w' v l:=q02 h hk (by simp)
theorem OwnsW.at {B:Nat}{w:World}{v:Value}{l:List ByteArray}(h:OwnsW B w v l): ∃ad cp,v= .slice ad l.length cp/\NmsAt w ad l/\l.length<=cp:=by
 obtain ⟨_,⟨rfl,h0⟩|⟨g,cp,cur,rfl,_,_,hcap,_⟩⟩:=id h
 ·refine ⟨none,0,by rw[h0],fun hne=>?_,by omega⟩
  exact absurd (List.eq_nil_of_length_eq_zero h0) hne
 ·have hl:=World.ownsRow.lt h g rfl
  refine ⟨_,_,rfl,fun _=>⟨g,0,rfl,hl.2,fun i hi=>?_⟩,hcap⟩
  rw[Nat.zero_add,World.ownsRow.cellAt h i (by omega)]
  unfold nmC
  rw[List.getElem?_map,List.getElem?_eq_getElem hi]
  rfl
theorem OwnsW.app {B:Nat}{w:World}{v:Value}{l:List ByteArray}(ho:OwnsW B w v l)(hB:B<=w.heap.size)(s:ByteArray){g c:Nat}(hc:w.cell? ⟨g,0,none⟩=some (.string s))(hl:l.length+1<=1000000)(ty:TypeId):
  ∃g' cap w',(Builtin.append_ #[83,83] ty #[v, .slice (some ⟨g,0,none⟩) 1 c]).run Tryz.prog w= .ok (.slice (some ⟨g',0,none⟩) (l.length+1) cap) w'/\OwnsW B w' (.slice (some ⟨g',0,none⟩) (l.length+1) cap) (l++[s])/\Below B w w'/\w.grownBy w' v.ownBlock:=by
 obtain ⟨i0,hi,hz0,hz1,hz2⟩:=info_parts q5S
 obtain ⟨g',cap,w',hrun,r1,r2,_⟩:=run_append_lies (P:=Tryz.prog) (w:=w) 83 ty B 9 i0 (.string ⟨#[]⟩) 1 16 Tryz.underlying83 hi hz0 hz1 hz2 rfl (by decide) v l.length (nmC l) ho ⟨g,0,none⟩ 1 c [.string s] rfl (fun j u hj=>by
  match j,hj with
  |0,hj=>simp at hj;subst hj;exact hc) (by intro u hu;simp at hu;subst hu;rfl) (by omega) (by unfold maxLen;omega) (by omega) hB _ rfl
 refine ⟨g',cap,w',hrun,?_,(Kp.of r2).below hB (fun k hk=>?_),r2⟩
 ·unfold OwnsW nmC
  rw[List.length_append,List.map_append]
  exact r1
 ·have:v.ownBlock=some k:=by simpa using hk
  exact (World.ownsRow.lt ho k this).1
open Go.RowKit Go.Shelf
def evW (e:Ev):List Value:=[.string e.k, .string e.t, .int .i64 e.n0, .int .i64 e.n1, .int .i64 e.n2, .int .i64 e.n3, .string e.x]
theorem q1h (e:Ev):(evW e).length=7:=rfl
theorem q3B:(Tryz.prog.info? 29).map (fun i=>(i.zero,i.size,i.bytes))=some (some (.agg #[.string ⟨#[]⟩, .string ⟨#[]⟩, .int .i64 0, .int .i64 0, .int .i64 0, .int .i64 0, .string ⟨#[]⟩]),7,80):=by kernel_rfl
def OwnsX (B:Nat)(w:World)(v:Value)(l:List Ev):Prop:=w.ownsRow B 29 7 v l.length (l.flatMap evW)
theorem OwnsX.nil (B:Nat)(w:World):OwnsX B w (.slice none 0 0) []:=World.ownsRow_nil _ _ _ _
theorem OwnsX.at {B:Nat}{w:World}{v:Value}{l:List Ev}(h:OwnsX B w v l): ∃ad cp,v= .slice ad l.length cp/\EvsAt w ad l:=by
 obtain ⟨_,⟨rfl,h0⟩|⟨g,cp,cur,rfl,_,_,hcap,_⟩⟩:=id h
 ·refine ⟨none,0,by rw[h0],fun hne=>?_⟩
  exact absurd (List.eq_nil_of_length_eq_zero h0) hne
 ·have hl:=World.ownsRow.lt h g rfl
  refine ⟨_,_,rfl,fun _=>⟨g,0,rfl,hl.2,fun i e hi j u hu=>?_⟩⟩
  obtain ⟨hil,rfl⟩:=List.getElem?_eq_some_iff.1 hi
  have hj:j<7:=by
   have:=(Array.getElem?_eq_some_iff.1 hu).1
   simpa [Ev.c] using this
  have c:=q0t q1h h i j hil hj
  rw[Nat.zero_add,c, <-hu]
  unfold evW Ev.c
  simp
theorem OwnsX.app {B:Nat}{w:World}{v:Value}{l:List Ev}(ho:OwnsX B w v l)(hB:B<=w.heap.size)(e:Ev){g c:Nat}(hc:CBox g e.c 29 w)(hl:l.length+1<=1000000)(ty:TypeId):
  ∃g' cap w',(Builtin.append_ #[25,25] ty #[v, .slice (some ⟨g,0,none⟩) 1 c]).run Tryz.prog w= .ok (.slice (some ⟨g',0,none⟩) (l.length+1) cap) w'/\OwnsX B w' (.slice (some ⟨g',0,none⟩) (l.length+1) cap) (l++[e])/\Below B w w'/\w.grownBy w' v.ownBlock:=by
 obtain ⟨i0,hi,hz0,hz1,hz2⟩:=info_parts q3B
 obtain ⟨g',cap,w',hrun,r1,r2,_⟩:=run_append_lies (P:=Tryz.prog) (w:=w) 25 ty B 29 i0 _ 7 80 Tryz.underlying25 hi hz0 hz1 hz2 rfl (by decide) v l.length (l.flatMap evW) ho ⟨g,0,none⟩ 1 c (evW e) rfl (fun j u hj=>by
  have:e.c[j]?=some u:=by
   rw[<-hj]
   unfold evW Ev.c
   simp
  rw[Go.WideShapes.add_plain,Nat.zero_add]
  exact hc.cell this) (by
   intro u hu
   unfold evW at hu
   simp only[List.mem_cons,List.not_mem_nil,or_false]at hu
   rcases hu with rfl|rfl|rfl|rfl|rfl|rfl|rfl <;> rfl) (by omega) (by unfold maxLen;omega) (by omega) hB _ rfl
 refine ⟨g',cap,w',hrun,?_,(Kp.of r2).below hB (fun k hk=>?_),r2⟩
 ·unfold OwnsX
  rw[List.length_append,List.flatMap_append]
  simpa using r1
 ·have:v.ownBlock=some k:=by simpa using hk
  exact (World.ownsRow.lt ho k this).1
theorem q2z {W:World}{B B' e e' sz sz' n n':Nat}{v v':Value}{xs xs':List Value}(h:W.ownsRow B e sz v n xs)(h':W.ownsRow B' e' sz' v' n' xs')(hne:e'≠e): ∀g,v.ownBlock=some g->g∉v'.ownBlock.toList:=by
 intro g hg hm
 have hg':v'.ownBlock=some g:=by simpa using hm
 obtain ⟨_,⟨rfl,_⟩|⟨g',cap,cur,rfl,_,h4,_⟩⟩:=h'
 ·cases hg'
 ·simp[Value.ownBlock]at hg'
  subst hg'
  exact q0d h (show CBox g' cur e' W from h4) hne hg
theorem q5e (x:List Pt): ∀out:List ByteArray,(∀q∈out,q∈x.foldl stgA out)/\ ∀p∈x,q05 p.st=true\/p.st∈x.foldl stgA out:=by
 induction x with
 |nil=>intro out;simp
 |cons p r ih=>
  intro out
  obtain ⟨h1,h2⟩:=ih (stgA out p)
  rw[List.foldl_cons]
  have hs:(∀q∈out,q∈stgA out p)/\(q05 p.st=true\/p.st∈stgA out p):=by
   unfold stgA
   split
   ·rename_i h
    refine ⟨fun q hq=>hq,?_⟩
    rcases Bool.or_eq_true_iff.1 h with h|h
    ·exact Or.inl h
    ·exact Or.inr ((q1w _ _).1 h)
   ·exact ⟨fun q hq=>List.mem_append.2 (Or.inl hq),Or.inr (by simp)⟩
  refine ⟨fun q hq=>h1 q (hs.1 q hq),fun q hq=>?_⟩
  rcases List.mem_cons.1 hq with rfl|hq
  ·rcases hs.2 with h|h
   ·exact Or.inl h
   ·exact Or.inr (h1 _ h)
  ·exact h2 q hq
theorem q9Y {α:Type}{f g:Pt->List α->α}(x:List Pt)(h: ∀p∈x, ∀l,f p l=g p l):stk f x=stk g x:=by
 induction x with
 |nil=>rfl
 |cons p r ih=>
  rw[stk,stk,ih (fun q hq=>h q (by simp[hq]))]
  cases stk g r with
  |none=>rfl
  |some l=>
   dsimp only
   split
   ·rfl
   ·rw[h p (by simp)]
theorem q90 {α:Type}{f g:Pt->List α->α}(x:List Pt)(h: ∀p∈x, ∀l,f p l=g p l):fdX f x=fdX g x:=by
 unfold fdX
 rw[q9Y x h]
theorem qde {x:List Pt}(h:ckK x=3):stgS x=x.foldl stgA []:=by unfold stgS;rw[if_neg (by rw[h];decide)];rfl
open Go.RowKit Go.Shelf
attribute [local irreducible] opsV
def rdC (lv tk:Value)(k d:Nat)(pv:Value):Array Value:=#[lv]++opsV++#[tk, .int .i64 (k:Int), .int .i64 (d:Int),pv]
theorem q44 (lv tk:Value)(k d:Nat)(pv:Value)(j:Nat):(rdC lv tk k d pv)[71+j]?=(#[tk, .int .i64 (k:Int), .int .i64 (d:Int),pv]:Array Value)[j]?:=by
 unfold rdC
 rw[Array.getElem?_append_right (by rw[Array.size_append,q0w];simp),Array.size_append,q0w]
 congr 1
 simp
theorem qbW (lv tk:Value)(k d:Nat)(pv:Value):(rdC lv tk k d pv)[0]?=some lv:=by
 unfold rdC
 rw[Array.getElem?_append_left (by rw[Array.size_append,q0w];simp),Array.getElem?_append_left (by simp)]
 rfl
theorem qe5 (lv tk:Value)(k d:Nat)(pv:Value)(j:Nat)(h:j<70):(rdC lv tk k d pv)[1+j]?=opsV[j]?:=by
 unfold rdC
 rw[Array.getElem?_append_left (by rw[Array.size_append,q0w];simp;omega),Array.getElem?_append_right (by simp)]
 congr 1
 simp
theorem q9I (lv tk:Value)(k d:Nat)(pv:Value):(rdC lv tk k d pv)[71]?=some tk:=q44 lv tk k d pv 0
theorem q43 (lv tk:Value)(k d:Nat)(pv:Value):(rdC lv tk k d pv)[72]?=some (.int .i64 (k:Int)):=q44 lv tk k d pv 1
theorem qe4 (lv tk:Value)(k d:Nat)(pv:Value):(rdC lv tk k d pv)[73]?=some (.int .i64 (d:Int)):=q44 lv tk k d pv 2
theorem q1Z (lv tk:Value)(k d:Nat)(pv:Value):(rdC lv tk k d pv)[74]?=some pv:=q44 lv tk k d pv 3
theorem q6c:opsV.toList.length=70:=by rw[Array.length_toList];exact q0w
theorem q4B (lv tk:Value)(k d:Nat)(pv v:Value)(j:Nat):(rdC lv tk k d pv).setIfInBounds (71+j) v=#[lv]++opsV++(#[tk, .int .i64 (k:Int), .int .i64 (d:Int),pv]:Array Value).setIfInBounds j v:=by
 apply Array.ext'
 unfold rdC
 rw[Array.toList_setIfInBounds,Array.toList_append,Array.toList_append,Array.toList_append,Array.toList_append,Array.toList_setIfInBounds,List.set_append_right _ _ (by rw[List.length_append,q6c];simp),List.length_append,q6c]
 congr 2
 simp
theorem qeE (lv tk:Value)(k k' d:Nat)(pv:Value):(rdC lv tk k d pv).setIfInBounds 72 (.int .i64 (k':Int))=rdC lv tk k' d pv:=q4B lv tk k d pv _ 1
theorem qeD (lv tk:Value)(k d d':Nat)(pv:Value):(rdC lv tk k d pv).setIfInBounds 73 (.int .i64 (d':Int))=rdC lv tk k d' pv:=q4B lv tk k d pv _ 2
theorem qeF (lv tk:Value)(k d:Nat)(pv pv':Value):(rdC lv tk k d pv).setIfInBounds 74 pv'=rdC lv tk k d pv':=q4B lv tk k d pv _ 3
def TksLow (B:Nat)(W:World)(tk:Value)(l:List Tk):Prop:= ∃b off cap,tk= .slice (some ⟨b,off,none⟩) l.length cap/\b<B/\ ∀i (h:i<l.length),W.cell? ⟨b,off+i * 4,none⟩=some (.int .i64 l[i].kd)/\W.cell? ⟨b,off+i * 4+1,none⟩=some (.string l[i].s)/\W.cell? ⟨b,off+i * 4+2,none⟩=some (.int .i64 l[i].n)/\W.cell? ⟨b,off+i * 4+3,none⟩=some (.int .i64 l[i].pl)
theorem TksLow.below {B:Nat}{W W':World}{tk:Value}{l:List Tk}(h:TksLow B W tk l)(hb:Below B W W'):TksLow B W' tk l:=by
 obtain ⟨b,off,cap,e,hlt,hc⟩:=h
 refine ⟨b,off,cap,e,hlt,fun i hi=>?_⟩
 obtain ⟨c0,c1,c2,c3⟩:=hc i hi
 exact ⟨(hb.cell (p:=⟨b,_,none⟩) hlt).trans c0,(hb.cell (p:=⟨b,_,none⟩) hlt).trans c1,(hb.cell (p:=⟨b,_,none⟩) hlt).trans c2,(hb.cell (p:=⟨b,_,none⟩) hlt).trans c3⟩
def lvF (n:Nat):Nat:=if n=2 then 160 else if n=3 then 161 else if n=6 then 162 else 159
def OpsLow (B:Nat)(W:World)(ov:Value)(os:List Int):Prop:=(os=[]/\ov= .slice none 0 0)\/ ∃b,ov= .slice (some ⟨b,0,none⟩) os.length os.length/\b<B/\ ∀i (h:i<os.length),W.cell? ⟨b,i,none⟩=some (.int .i64 os[i])
theorem OpsLow.below {B:Nat}{W W':World}{ov:Value}{os:List Int}(h:OpsLow B W ov os)(hb:Below B W W'):OpsLow B W' ov os:=by
 rcases h with h|⟨b,e,hlt,hc⟩
 ·exact Or.inl h
 ·exact Or.inr ⟨b,e,hlt,fun i hi=>(hb.cell (p:=⟨b,_,none⟩) hlt).trans (hc i hi)⟩
def LvsLow (B:Nat)(W:World)(lv:Value):Prop:= ∃b,lv= .slice (some ⟨b,0,none⟩) 7 7/\b<B/\ ∀n,n<7->W.cell? ⟨b,n * 2,none⟩=some (.func (.func (lvF n)) #[] #[])/\ ∃ov,W.cell? ⟨b,n * 2+1,none⟩=some ov/\OpsLow B W ov (lvO n)
theorem LvsLow.below {B:Nat}{W W':World}{lv:Value}(h:LvsLow B W lv)(hb:Below B W W'):LvsLow B W' lv:=by
 obtain ⟨b,e,hlt,hc⟩:=h
 refine ⟨b,e,hlt,fun n hn=>?_⟩
 obtain ⟨c0,ov,c1,c2⟩:=hc n hn
 exact ⟨(hb.cell (p:=⟨b,_,none⟩) hlt).trans c0,ov,(hb.cell (p:=⟨b,_,none⟩) hlt).trans c1,c2.below hb⟩
structure Env (gr:Nat)(lv tk:Value)(l:List Tk)(W:World):Prop where
 tks:TksLow gr W tk l
 lvs:LvsLow gr W lv
 tab:TbE W
 low:8<=gr
 len:l.length<=100000
 ok: ∀t∈l,t.s.size<=140737488351232
theorem Env.below {gr:Nat}{lv tk:Value}{l:List Tk}{W W':World}(h:Env gr lv tk l W)(hb:Below gr W W'):Env gr lv tk l W':=⟨h.tks.below hb,h.lvs.below hb,h.tab.below hb h.low,h.low,h.len,h.ok⟩
def ptE (p:Pt):List Value:=[.int .i64 p.kd, .int .i64 p.n, .string p.s, .string p.st, .int .i64 p.fl]
theorem q0S (p:Pt):(ptE p).length=5:=rfl
structure Rd (gr:Nat)(lv tk:Value)(l:List Tk)(k d:Nat)(ps:List Pt)(W:World):Prop where
 env:Env gr lv tk l W
 box: ∃pv,CBox gr (rdC lv tk k d pv) 238 W/\W.ownsRow (gr+1) 166 5 pv ps.length (ps.flatMap ptE)
theorem Rd.below {gr:Nat}{lv tk:Value}{l:List Tk}{k d:Nat}{ps:List Pt}{W W':World}(h:Rd gr lv tk l k d ps W)(hb:Below W.heap.size W W'):Rd gr lv tk l k d ps W':=by
 obtain ⟨pv,h1,h2⟩:=h.box
 have hlt:=(Array.getElem?_eq_some_iff.1 h1).1
 have hk:=Kp.ofBelow hb
 exact ⟨h.env.below (hb.mono (by omega)),pv,h1.kp hk (by simp),q02 h2 hk (by simp)⟩
def wdS (t:Tk):ByteArray:=if t.kd=1\/t.kd=4 then t.s else ⟨#[]⟩
theorem q1f (t:Tk):(wdS t).data.toList=wdT t:=by unfold wdS wdT;split <;> rfl
theorem q0g {l:List Tk}{k:Nat}{t:Tk}{r:List Tk}(h:l.drop k=t::r): ∃hk:k<l.length,l[k]=t/\l.drop (k+1)=r:=by
 have hk:k<l.length:=by
  rcases Nat.lt_or_ge k l.length with h1|h1
  ·exact h1
  ·rw[List.drop_eq_nil_of_le h1]at h;cases h
 rw[List.drop_eq_getElem_cons hk]at h
 cases h
 exact ⟨hk,rfl,rfl⟩
theorem q25 {gr:Nat}{lv tk:Value}{l:List Tk}{k d:Nat}{ps:List Pt}{W:World}(h:Rd gr lv tk l k d ps W){t:Tk}{r:List Tk}(ht:l.drop k=t::r):
  Calls Tryz.prog 198 #[.pointer (some ⟨gr,0,none⟩)] W fun e w'=>e= .returned (.string (wdS t))/\Below W.heap.size W w':=by
 obtain ⟨hk,ha,_⟩:=q0g ht
 obtain ⟨pv,hb,_⟩:=h.box
 obtain ⟨b,off,cap,htk,hlt,hc⟩:=h.env.tks
 obtain ⟨c0,c1,c2,c3⟩:=hc k hk
 rw[ha]at c0 c1 c2 c3
 have hlen:=h.env.len
 have hgl:=(Array.getElem?_eq_some_iff.1 hb).1
 have e1:=hb.cell (q9I lv tk k d pv)
 have e2:=hb.cell (q43 lv tk k d pv)
 rw[htk]at e1
 clear h hb hc ha htk ht
 have al: ∀{q:Addr} {v:Value},W.cell? q=some v->q.block<W.heap.size->(W.alloc (.cells #[.int .i64 0, .string { data:=#[] }, .int .i64 0, .int .i64 0] 78)).cell? q=some v:=fun h _=>(Kp.alloc W _).cell h (by simp)
 have d0:=al c0 (by show b<_;omega)
 have d1:=al c1 (by show b<_;omega)
 have d2:=al c2 (by show b<_;omega)
 have d3:=al c3 (by show b<_;omega)
 have g1:=al e1 hgl
 have g2:=al e2 hgl
 clear al
 unfold wdS
 obtain ⟨kd,s,n,pl⟩:=t
 dsimp only at *
 go_enter Tryz.func198,Tryz.ntmps198
 go_wp2
 go_region
 clear c0 c1 c2 c3 d0 d1 d2 d3 e1 e2 g1 g2
 have hb: ∀o,Below W.heap.size W (W.alloc o).drew:=fun o=>((Below.refl _ _).alloc (Nat.le_refl _) _).trans ⟨rfl,rfl,rfl,Nat.le_refl _,fun _ _=>rfl⟩
 by_cases h1:kd=1
 ·subst h1
  go_wp2
  exact bodyPost_ret (results_tmp rfl _ _ _) rfl ⟨rfl,hb _⟩
 ·by_cases h4:kd=4
  ·subst h4
   go_wp2
   exact bodyPost_ret (results_tmp rfl _ _ _) rfl ⟨rfl,hb _⟩
  ·have g1:(kd==1)=false:=beq_eq_false_iff_ne.2 h1
   have g4:(kd==4)=false:=beq_eq_false_iff_ne.2 h4
   go_wp2
   exact bodyPost_ret (results_tmp rfl _ _ _) rfl ⟨by first|rfl|(rw[if_neg (by omega)];rfl),hb _⟩
theorem Rd.next {gr:Nat}{lv tk:Value}{l:List Tk}{k d:Nat}{ps:List Pt}{W:World}(h:Rd gr lv tk l k d ps W):Rd gr lv tk l (k+1) d ps (W.setCell ⟨gr,72,none⟩ (.int .i64 ((k:Int)+1))):=by
 obtain ⟨pv,h1,h2⟩:=h.box
 have hlt:=(Array.getElem?_eq_some_iff.1 h1).1
 have e:((k:Int)+1)=((k+1:Nat):Int):=by omega
 rw[e]
 have c:=h1.set 72 (.int .i64 ((k+1:Nat):Int))
 rw[qeE]at c
 exact ⟨h.env.below ((Kp.set W gr 72 _).below (by omega) (by simp)),pv,c,q02 h2 (Kp.set _ _ _ _) (fun g hg=>by have:=(h2.lt g hg).1;simp;omega)⟩
theorem Rd.cells {gr:Nat}{lv tk:Value}{l:List Tk}{k d:Nat}{ps:List Pt}{W:World}(h:Rd gr lv tk l k d ps W):W.cell? ⟨gr,72,none⟩=some (.int .i64 (k:Int))/\W.cell? ⟨gr,73,none⟩=some (.int .i64 (d:Int))/\(∀i,W.frozen? ⟨gr,i,none⟩=false)/\gr<W.heap.size:=by
 obtain ⟨pv,h1,h2⟩:=h.box
 exact ⟨h1.cell (q43 lv tk k d pv),h1.cell (qe4 lv tk k d pv),h1.froz,(Array.getElem?_eq_some_iff.1 h1).1⟩
theorem q2O {gr:Nat}{lv tk:Value}{l:List Tk}{k d:Nat}{ps:List Pt}{W:World}(h:Rd gr lv tk l k d ps W){t:Tk}{r:List Tk}(ht:l.drop k=t::r)(sg:ByteArray):
  Calls Tryz.prog 189 #[.pointer (some ⟨gr,0,none⟩), .string sg] W fun e w'=>e= .returned (.bool (decide (wdT t=sg.data.toList)))/\Rd gr lv tk l (if wdT t=sg.data.toList then k+1 else k) d ps w'/\Below gr W w':=by
 have WD:=hZq (q25 h ht)
 have hk:k<=100000:=by obtain ⟨hk,_⟩:=q0g ht;have:=h.env.len;omega
 have HR:=hZq h
 rw[<-q1f]
 clear h ht
 generalize wdS t=S at *
 by_cases he:S.data.toList=sg.data.toList
 ·have heq:(S.toList==sg.toList)=true:=by rw[toList_data,toList_data,he];exact beq_self_eq_true _
  rw[if_pos he,decide_eq_true he]
  clear he
  go_enter Tryz.func189,Tryz.ntmps189
  go_wp2_with fail
  refine (uQ WD).mono ?_
  rintro e w1 ⟨rfl,hb⟩
  have HR1:=hZq ((uQ HR).below hb)
  obtain ⟨c72,_,f72,_⟩:=(uQ HR1).cells
  have HB:=hZq (hb.mono (show gr<=W.heap.size by have:=(uQ HR).cells;omega))
  clear hb HR WD
  go_wp2
  refine bodyPost_ret (results_tmp rfl _ _ _) rfl ⟨rfl,(uQ HR1).next,(uQ HB).setCell (p:=⟨gr,72,none⟩) (Nat.le_refl _) _⟩
 ·have heq:(S.toList==sg.toList)=false:=by rw[toList_data,toList_data];exact beq_eq_false_iff_ne.2 he
  rw[if_neg he,decide_eq_false he]
  clear he
  go_enter Tryz.func189,Tryz.ntmps189
  go_wp2_with fail
  refine (uQ WD).mono ?_
  rintro e w1 ⟨rfl,hb⟩
  have HR1:=hZq ((uQ HR).below hb)
  have HB:=hZq (hb.mono (show gr<=W.heap.size by have:=(uQ HR).cells;omega))
  clear hb HR WD
  go_wp2
  exact bodyPost_ret (results_tmp rfl _ _ _) rfl ⟨rfl,uQ HR1,uQ HB⟩
end Go.Proofs.YtcmjnlpofebbmaaGreatDoor
