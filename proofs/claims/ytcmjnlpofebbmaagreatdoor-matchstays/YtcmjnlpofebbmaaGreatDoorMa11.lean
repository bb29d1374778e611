/-
  Walks and plain facts, made small.
-/
import Derived.Test.YtcmjnlpofebbmaaGreatDoorMa10
import Derived.Lib.AtoiErrMem
set_option maxRecDepth 100000
set_option maxHeartbeats 8000000
set_option linter.unusedSimpArgs false
namespace Go.Proofs.YtcmjnlpofebbmaaGreatDoor
open Go.RowKit Go.Shelf
theorem Ex.dn_flat (t:Ex):t.dn<=t.flat.length:=by
 induction t with
 |lf p=>simp[Ex.dn,Ex.flat]
 |un p a ih=>simp only[Ex.dn,Ex.flat,List.length_cons];omega
 |bi p a b iha ihb=>simp only[Ex.dn,Ex.flat,List.length_cons,List.length_append];omega
theorem Ex.sh_ok (t:Ex)(h:t.flat.length<=200):(t.val shp).ok:=by
 have h1:=t.kd_range
 have h2:=t.dp_pos
 have h3:=t.dp_dn
 have h4:=t.dn_flat
 exact ⟨h1,by show 0<=t.dp;omega,by show t.dp<=_;omega⟩
theorem q6v {xs:List Pt}(hl:xs.length<=200){w:World}(hT:TbE w)(hfit: ∀p∈xs,p.fit)(p:Pt)(ts:List Ex)(W:World)(hp:p∈xs)(_: ∀t∈ts,t.wf/\ ∀q∈t.flat,q∈xs)(hn:(ts.flatMap Ex.flat).length+1<=xs.length)(hs:ts.length=sds p.kd)(hb:Below w.heap.size w W):
  Calls Tryz.prog 117 #[p.v, .agg (rowC p.kd), .agg (sdCS (ts.map (Ex.val shp)))] W fun e w'=>e= .returned (.agg (shE (shp p (ts.map (Ex.val shp)))).toArray)/\Below W.heap.size W w':=by
 have hW:=hT.below hb hT.low
 have z:Sh.ok ⟨0,0⟩:=⟨⟨by decide,by decide⟩,by decide,by decide⟩
 have h2:=q20 p.kd
 match ts,hs with
 |[],hs=>
  have:=q2k p ⟨0,0⟩ ⟨0,0⟩ W hW (hfit p hp) z z (fun _=>rfl)
  rw[<-hs]at this
  exact this
 |[a],hs=>
  have:=q2k p (a.val shp) ⟨0,0⟩ W hW (hfit p hp) (a.sh_ok (by simp at hn;omega)) z (fun _=>rfl)
  rw[<-hs]at this
  exact this
 |[a,b],hs=>
  have:=q2k p (a.val shp) (b.val shp) W hW (hfit p hp) (a.sh_ok (by simp at hn;omega)) (b.sh_ok (by simp at hn;omega)) (fun e=>by rw[e]at hs;simp at hs)
  rw[<-hs]at this
  exact this
 |a::b::c::r,hs=>simp at hs;omega
theorem q6M (ad:Option Addr)(cap:Nat)(xs:List Pt)(hsz:xs.length<=200)(w:World)(hc:PtsAt w ad xs)(hT:TbE w)(hfit: ∀p∈xs,p.fit):
  Calls Tryz.prog 116 #[.slice ad xs.length cap, .func (.func 117) #[] #[]] w fun e w'=>e= .returned (foRS (fdX shp xs))/\Below w.heap.size w w':=
 callsIn_wide.1 (qaM 117 ad cap xs hsz w (PtsLow.of hc) (enters_of Tryz.func117 (by kernel_rfl) rfl) (q6v hsz hT hfit))
theorem q91 {xs:List Pt}{s:Sh}(h:fdX shp xs=some s):(0<=s.kd/\s.kd<=3):=by
 obtain ⟨t,_,_,rfl⟩:=q5H h
 exact t.kd_range
theorem q1D (ad:Option Addr)(cap:Nat)(xs:List Pt)(w:World)(hc:PtsAt w ad xs)(hT:TbE w)(hfit: ∀p∈xs,p.fit):
  Calls Tryz.prog 95 #[.slice ad xs.length cap] w fun e w'=>e= .returned (.tuple #[.int .i64 (ckK xs), .int .i64 (if ckK xs=0 then 110 else 0)])/\Below w.heap.size w w':=by
 by_cases hl:200<xs.length
 ·have hk:ckK xs=0:=by unfold ckK;rw[if_pos hl]
  rw[hk,if_pos rfl]
  have h1:((200:Int)<(xs.length:Int))=True:=by simp;omega
  clear hc hT hfit hk hl
  go_enter Tryz.func95,Tryz.ntmps95
  go_wp2
  exact bodyPost_ret (results_tmp2 rfl _ _ _) rfl ⟨rfl,Below.refl _ _⟩
 ·have h1:((200:Int)<(xs.length:Int))=False:=by simp;omega
  have F1:=hZq (q6M ad cap xs (by omega) w hc hT hfit)
  have hk:ckK xs=match fdX shp xs with|some s=>if s.dp > 32 then 0 else s.kd|none=>0:=by unfold ckK;rw[if_neg hl];rfl
  have hr:=fun s=>q91 (xs:=xs) (s:=s)
  rw[hk]
  clear hc hT hfit hk
  generalize fdX shp xs=r at *
  have HR:=hZq hr
  clear hr hl
  go_enter Tryz.func95,Tryz.ntmps95
  go_wp2_with fail
  refine (uQ F1).mono ?_
  rintro e w1 ⟨rfl,hb⟩
  cases r with
  |none=>
   clear F1 HR
   unfold foRS
   dsimp only
   go_wp2
   exact bodyPost_ret (results_tmp2 rfl _ _ _) rfl ⟨rfl,hb.alloc hb.size _⟩
  |some s=>
   obtain ⟨k1,k2⟩:=uQ HR s rfl
   obtain ⟨kd,dp⟩:=s
   dsimp only at k1 k2
   unfold foRS shE
   dsimp only
   by_cases h0:kd=0
   ·subst h0
    clear F1 HR
    go_wp2
    exact bodyPost_ret (results_tmp2 rfl _ _ _) rfl ⟨rfl,hb.alloc hb.size _⟩
   ·by_cases hd:dp > 32
    ·have hd2:((32:Int)<dp)=True:=by simp;omega
     clear F1 HR
     go_wp2
     exact bodyPost_ret (results_tmp2 rfl _ _ _) rfl ⟨by first|rfl|(dsimp only;rw[if_pos hd,if_pos rfl];rfl)|(simp[hd]),hb.alloc hb.size _⟩
    ·have hd2:((32:Int)<dp)=False:=by simp;omega
     clear F1 HR
     go_wp2
     exact bodyPost_ret (results_tmp2 rfl _ _ _) rfl ⟨by first|rfl|(dsimp only;rw[if_neg hd,if_neg h0];rfl)|(simp[hd,h0]),hb.alloc hb.size _⟩
open Go.RowKit
def Tk.v (t:Tk):Value:= .agg #[.int .i64 t.kd, .string t.s, .int .i64 t.n, .int .i64 t.pl]
def rdV:Option (Tk × Nat)->Value
 |none=> .tuple #[.agg #[.int .i64 0, .string ⟨#[]⟩, .int .i64 0, .int .i64 0], .int .i64 0]
 |some (t,n)=> .tuple #[t.v, .int .i64 n]
theorem q35 (s:ByteArray)(n:Nat):s.extract 0 n=txt (s.data.toList.take n):=by
 apply ByteArray.ext
 apply Array.ext'
 rw[ByteArray.data_extract,Array.toList_extract,List.extract_eq_take_drop]
 simp[txt]
theorem q3A (s:ByteArray)(n:Nat):s.extract n s.size=txt (s.data.toList.drop n):=by
 apply ByteArray.ext
 apply Array.ext'
 rw[ByteArray.data_extract,Array.toList_extract,List.extract_eq_take_drop,List.take_of_length_le (by rw[List.length_drop,Array.length_toList];exact Nat.le_refl _)]
 simp[txt]
theorem q0f (s:ByteArray):s.data.toList.length=s.size:=Array.length_toList
theorem q6n (s:ByteArray)(w:World)(hT:TbW w)(hs:s.size<=9223372036854775807):
  Calls Tryz.prog 62 #[.string s] w fun e w'=>e= .returned (rdV (tkW s.data.toList))/\Below w.heap.size w w':=by
 have hle:=q19 q0h s.data.toList
 rw[q0f]at hle
 have HQ:Hid (tkW s.data.toList=if 32<spn q0h s.data.toList then none else some (⟨1,s.extract 0 (spn q0h s.data.toList),0,0⟩,spn q0h s.data.toList)):=by
  refine hZq ?_
  rw[q35]
  rfl
 have SP:=fun W hW=>q22 s 12 q0h qc3 W hW hs
 generalize spn q0h s.data.toList=n at *
 generalize tkW s.data.toList=Q at *
 have HSP:=hZq SP
 clear SP
 by_cases h:32<n
 ·have hq:=uQ HQ
  rw[if_pos h]at hq
  subst hq
  clear HQ
  go_enter Tryz.func62,Tryz.ntmps62
  go_wp2_with fail
  refine (uQ HSP _ (hT.alloc _)).mono ?_
  rintro e w1 ⟨rfl,rfl⟩
  go_wp2
  exact bodyPost_ret (v:=rdV none) (by simp[results,Tryz.results62,go_sem,rdV]) rfl ⟨rfl,(Below.refl _ _).alloc (Nat.le_refl _) _⟩
 ·have hq:=uQ HQ
  rw[if_neg h]at hq
  subst hq
  clear HQ
  go_enter Tryz.func62,Tryz.ntmps62
  go_wp2_with fail
  refine (uQ HSP _ (hT.alloc _)).mono ?_
  rintro e w1 ⟨rfl,rfl⟩
  go_wp2
  exact bodyPost_ret (v:=rdV (some (⟨1,s.extract 0 n,0,0⟩,n))) (by simp[results,Tryz.results62,go_sem,rdV,Tk.v]) rfl ⟨rfl,(Below.refl _ _).alloc (Nat.le_refl _) _⟩
theorem q45 (s:ByteArray)(w:World)(hT:TbW w)(h0:0<s.size)(hs:s.size<=9223372036854775807)(hz:s[0].toNat=48)(hn:1<spn q07 s.data.toList):
  Calls Tryz.prog 63 #[.string s] w fun e w'=>e= .returned (rdV none)/\Below w.heap.size w w':=by
 have SP:=fun W hW=>q22 s 8 q07 q7k W hW hs
 generalize spn q07 s.data.toList=n at *
 have HSP:=hZq SP
 have g:((s[0].toNat:Int)==48)=true:=by simp[hz]
 clear SP
 go_enter Tryz.func63,Tryz.ntmps63
 go_wp2_with fail
 refine (uQ HSP _ (hT.alloc _)).mono ?_
 rintro e w1 ⟨rfl,rfl⟩
 go_wp2
 exact bodyPost_ret (v:=rdV none) (by simp[results,Tryz.results63,go_sem,rdV]) rfl ⟨rfl,(Below.refl _ _).alloc (Nat.le_refl _) _⟩
theorem qba (s:ByteArray)(w:World)(hd: ∀x∈s.data.toList,q07 x=true)(h0:s.data.toList≠[])(hs:s.size<=281474976710656)(h: ¬ 9223372036854775807<dvl 0 s.data.toList):
  Calls Tryz.prog 91 #[.string s, .int .i64 10, .int .i64 64] w fun e w'=>e= .returned (.tuple #[.int .i64 (dvl 0 s.data.toList:Nat), .nilIface])/\Below w.heap.size w w':=by
 have e:=q7l _ hd h0
 rw[if_neg h]at e
 refine (Tryz.strconv_ParseInt_10_at64_ok s (by omega) _ e w).mono ?_
 rintro e w' ⟨rfl,rfl|⟨t,rfl⟩⟩
 ·exact ⟨rfl,Below.refl _ _⟩
 ·exact ⟨rfl,Lib.bytesWorld_below _ _ _⟩
theorem q52 (s:ByteArray)(w:World)(hT:TbW w)(hd: ∀x∈s.data.toList,q07 x=true)(h0:s.data.toList≠[])(hs:s.size<=281474976710656)(h:9223372036854775807<dvl 0 s.data.toList):
  Calls Tryz.prog 91 #[.string s, .int .i64 10, .int .i64 64] w fun e w'=> ∃x tp p,e= .returned (.tuple #[.int .i64 x, .iface tp p])/\Below w.heap.size w w':=by
 have e:=q7l _ hd h0
 rw[if_pos h]at e
 obtain ⟨tp,p,hc⟩:=hT.rng
 refine (Tryz.strconv_ParseInt_10_at64_range s hs e _ w hc (Or.inr ⟨_,_,rfl⟩)).mono ?_
 rintro e w' ⟨N,rfl,_,_,hb⟩
 exact ⟨_,_,_,rfl,hb⟩
theorem q46 (s:ByteArray)(w:World)(hT:TbW w)(h0:0<s.size)(hs:s.size<=140737488351232)(hz: ¬ (s[0].toNat=48/\1<spn q07 s.data.toList))(h1:1<=spn q07 s.data.toList):
  Calls Tryz.prog 63 #[.string s] w fun e w'=>e= .returned (rdV (if 9223372036854775807<dvl 0 (s.data.toList.take (spn q07 s.data.toList)) then none else some (⟨2,txt [],(dvl 0 (s.data.toList.take (spn q07 s.data.toList)):Nat),0⟩,spn q07 s.data.toList)))/\Below w.heap.size w w':=by
 have SP:=fun W hW=>q22 s 8 q07 q7k W hW (by omega)
 have hle:=q19 q07 s.data.toList
 rw[q0f]at hle
 have hd: ∀x∈s.data.toList.take (spn q07 s.data.toList),q07 x=true:=q7P
 generalize spn q07 s.data.toList=n at *
 have he:(s.extract 0 n).data.toList=s.data.toList.take n:=by rw[q35];rfl
 have hne:s.data.toList.take n≠[]:=by
  intro e
  have:=congrArg List.length e
  rw[List.length_take,q0f]at this
  simp only[List.length_nil]at this
  omega
 have hsz:(s.extract 0 n).size<=281474976710656:=by rw[ByteArray.size_extract];omega
 rw[<-he]at hd hne ⊢
 have HSP:=hZq SP
 have HD:=hZq hd
 have HNE:=hZq hne
 clear SP hd hne he
 have HZ:Hid (((s[0].toNat:Int)==48)=false\/(((s[0].toNat:Int)==48)=true/\n<=1)):=by
  refine hZq ?_
  by_cases h:s[0].toNat=48
  ·exact Or.inr ⟨by simp[h],by omega⟩
  ·exact Or.inl (by simp;omega)
 have HS:=hZq hsz
 clear hz hsz
 by_cases hv:9223372036854775807<dvl 0 (s.extract 0 n).data.toList
 ·rw[if_pos hv]
  have HV:=hZq hv
  clear hv
  rcases uQ HZ with hz|⟨hz,hn1⟩
  ·go_enter Tryz.func63,Tryz.ntmps63
   go_wp2_with fail
   refine (uQ HSP _ (hT.alloc _)).mono ?_
   rintro e w1 ⟨rfl,rfl⟩
   go_wp2_with fail
   refine (q52 (s.extract 0 n) _ (hT.alloc _) (uQ HD) (uQ HNE) (uQ HS) (uQ HV)).mono ?_
   rintro e w1 ⟨x,tp,p,rfl,hb⟩
   have hb0:Below w.heap.size w w1:=((Below.refl _ _).alloc (Nat.le_refl _) _).trans (hb.mono (by simp))
   have q:w1.heap[w.heap.size]?=some (.cells #[.int .i64 0, .string ⟨#[]⟩, .int .i64 0, .int .i64 0] 78 (0,0)):=by rw[hb.block _ (by simp)];exact heap_alloc_new w _
   have q0:=CBox.cell (i:=0) (v:= .int .i64 0) q rfl
   have q1:=CBox.cell (i:=1) (v:= .string ⟨#[]⟩) q rfl
   have q2:=CBox.cell (i:=2) (v:= .int .i64 0) q rfl
   have q3:=CBox.cell (i:=3) (v:= .int .i64 0) q rfl
   have f0:=CBox.froz q 0
   have f1:=CBox.froz q 1
   have f2:=CBox.froz q 2
   have f3:=CBox.froz q 3
   have HB0:=hZq hb0
   clear hb hb0 q
   go_wp2
   exact bodyPost_ret (v:=rdV none) (by simp[results,Tryz.results63,go_sem,rdV,q0,q1,q2,q3]) rfl ⟨rfl,((((uQ HB0).setCell (Nat.le_refl _) _).setCell (Nat.le_refl _) _).setCell (Nat.le_refl _) _).setCell (Nat.le_refl _) _⟩
  ·go_enter Tryz.func63,Tryz.ntmps63
   go_wp2_with fail
   refine (uQ HSP _ (hT.alloc _)).mono ?_
   rintro e w1 ⟨rfl,rfl⟩
   go_wp2_with fail
   refine (q52 (s.extract 0 n) _ (hT.alloc _) (uQ HD) (uQ HNE) (uQ HS) (uQ HV)).mono ?_
   rintro e w1 ⟨x,tp,p,rfl,hb⟩
   have hb0:Below w.heap.size w w1:=((Below.refl _ _).alloc (Nat.le_refl _) _).trans (hb.mono (by simp))
   have q:w1.heap[w.heap.size]?=some (.cells #[.int .i64 0, .string ⟨#[]⟩, .int .i64 0, .int .i64 0] 78 (0,0)):=by rw[hb.block _ (by simp)];exact heap_alloc_new w _
   have q0:=CBox.cell (i:=0) (v:= .int .i64 0) q rfl
   have q1:=CBox.cell (i:=1) (v:= .string ⟨#[]⟩) q rfl
   have q2:=CBox.cell (i:=2) (v:= .int .i64 0) q rfl
   have q3:=CBox.cell (i:=3) (v:= .int .i64 0) q rfl
   have f0:=CBox.froz q 0
   have f1:=CBox.froz q 1
   have f2:=CBox.froz q 2
   have f3:=CBox.froz q 3
   have HB0:=hZq hb0
   clear hb hb0 q
   go_wp2
   exact bodyPost_ret (v:=rdV none) (by simp[results,Tryz.results63,go_sem,rdV,q0,q1,q2,q3]) rfl ⟨rfl,((((uQ HB0).setCell (Nat.le_refl _) _).setCell (Nat.le_refl _) _).setCell (Nat.le_refl _) _).setCell (Nat.le_refl _) _⟩
 ·rw[if_neg hv]
  have HV:=hZq hv
  have PO:=fun W=>qba (s.extract 0 n) W (uQ HD) (uQ HNE) (uQ HS) hv
  generalize dvl 0 (s.extract 0 n).data.toList=V at PO ⊢
  have HPO:=hZq PO
  clear hv HV PO
  rcases uQ HZ with hz|⟨hz,hn1⟩
  ·go_enter Tryz.func63,Tryz.ntmps63
   go_wp2_with fail
   refine (uQ HSP _ (hT.alloc _)).mono ?_
   rintro e w1 ⟨rfl,rfl⟩
   go_wp2_with fail
   refine (uQ HPO _).mono ?_
   rintro e w1 ⟨rfl,hb⟩
   have hb0:Below w.heap.size w w1:=((Below.refl _ _).alloc (Nat.le_refl _) _).trans (hb.mono (by simp))
   have q:w1.heap[w.heap.size]?=some (.cells #[.int .i64 0, .string ⟨#[]⟩, .int .i64 0, .int .i64 0] 78 (0,0)):=by rw[hb.block _ (by simp)];exact heap_alloc_new w _
   have q0:=CBox.cell (i:=0) (v:= .int .i64 0) q rfl
   have q1:=CBox.cell (i:=1) (v:= .string ⟨#[]⟩) q rfl
   have q2:=CBox.cell (i:=2) (v:= .int .i64 0) q rfl
   have q3:=CBox.cell (i:=3) (v:= .int .i64 0) q rfl
   have f0:=CBox.froz q 0
   have f1:=CBox.froz q 1
   have f2:=CBox.froz q 2
   have f3:=CBox.froz q 3
   have HB0:=hZq hb0
   clear hb hb0 q
   go_wp2
   exact bodyPost_ret (v:=rdV (some (⟨2,txt [],(V:Int),0⟩,n))) (by simp[results,Tryz.results63,go_sem,rdV,Tk.v,txt,q0,q1,q2,q3]) rfl ⟨rfl,((((uQ HB0).setCell (Nat.le_refl _) _).setCell (Nat.le_refl _) _).setCell (Nat.le_refl _) _).setCell (Nat.le_refl _) _⟩
  ·go_enter Tryz.func63,Tryz.ntmps63
   go_wp2_with fail
   refine (uQ HSP _ (hT.alloc _)).mono ?_
   rintro e w1 ⟨rfl,rfl⟩
   go_wp2_with fail
   refine (uQ HPO _).mono ?_
   rintro e w1 ⟨rfl,hb⟩
   have hb0:Below w.heap.size w w1:=((Below.refl _ _).alloc (Nat.le_refl _) _).trans (hb.mono (by simp))
   have q:w1.heap[w.heap.size]?=some (.cells #[.int .i64 0, .string ⟨#[]⟩, .int .i64 0, .int .i64 0] 78 (0,0)):=by rw[hb.block _ (by simp)];exact heap_alloc_new w _
   have q0:=CBox.cell (i:=0) (v:= .int .i64 0) q rfl
   have q1:=CBox.cell (i:=1) (v:= .string ⟨#[]⟩) q rfl
   have q2:=CBox.cell (i:=2) (v:= .int .i64 0) q rfl
   have q3:=CBox.cell (i:=3) (v:= .int .i64 0) q rfl
   have f0:=CBox.froz q 0
   have f1:=CBox.froz q 1
   have f2:=CBox.froz q 2
   have f3:=CBox.froz q 3
   have HB0:=hZq hb0
   clear hb hb0 q
   go_wp2
   exact bodyPost_ret (v:=rdV (some (⟨2,txt [],(V:Int),0⟩,n))) (by simp[results,Tryz.results63,go_sem,rdV,Tk.v,txt,q0,q1,q2,q3]) rfl ⟨rfl,((((uQ HB0).setCell (Nat.le_refl _) _).setCell (Nat.le_refl _) _).setCell (Nat.le_refl _) _).setCell (Nat.le_refl _) _⟩
open Go.RowKit
theorem qaW {b:UInt8}(h: ¬ isIn b=true):b.toNat=39\/b.toNat=10:=by
 unfold isIn at h
 simp at h
 omega
theorem q1F (s:ByteArray)(h0:0<s.size):s.data.toList=s[0]::s.data.toList.drop 1:=by have:=q1U s 0 h0;simpa using this
theorem q4C (s:ByteArray)(w:World)(hT:TbW w)(h0:0<s.size)(hs:s.size<=140737488351232)(hd:q07 s[0]=true):
  Calls Tryz.prog 63 #[.string s] w fun e w'=>e= .returned (rdV (tkN s.data.toList))/\Below w.heap.size w w':=by
 have h1:1<=spn q07 s.data.toList:=by rw[q1F s h0,spn,if_pos hd];omega
 have hh:s.data.toList.head?=some 48↔s[0].toNat=48:=by
  rw[q1F s h0,List.head?_cons,Option.some.injEq]
  exact ⟨fun e=>by rw[e];rfl,fun e=>UInt8.toNat_inj.1 e⟩
 unfold tkN
 by_cases hz:s[0].toNat=48/\1<spn q07 s.data.toList
 ·rw[if_pos ⟨hh.2 hz.1,hz.2⟩]
  exact q45 s w hT h0 (by omega) hz.1 hz.2
 ·rw[if_neg (fun h=>hz ⟨hh.1 h.1,h.2⟩)]
  exact q46 s w hT h0 hs hz h1
theorem q6m (s:ByteArray)(w:World)(hT:TbW w)(h0:0<s.size)(hs:s.size<=140737488351232):
  Calls Tryz.prog 64 #[.string s] w fun e w'=>e= .returned (rdV (tkT (s.data.toList.drop 1)))/\Below w.heap.size w w':=by
 have hI:(s.extract 1 s.size).data.toList=s.data.toList.drop 1:=by rw[q3A];rfl
 have hIs:(s.extract 1 s.size).size<=140737488351232:=by rw[ByteArray.size_extract];omega
 rw[<-hI]
 clear hI
 generalize hIe:s.extract 1 s.size=I at *
 have HI:=hZq hIe
 clear hIe
 have UT:=fun W hW=>qbI I 18 isIn qds W hW (by omega)
 have hle:=q19 isIn I.data.toList
 rw[q0f]at hle
 have hstop: ∀h:spn isIn I.data.toList<I.size,I[spn isIn I.data.toList].toNat=39\/I[spn isIn I.data.toList].toNat=10:=fun h=>by
  have e:=q3M (p:=isIn) (l:=I.data.toList)
  rw[q1U _ _ h,spn]at e
  split at e
  ·omega
  ·rename_i hh
   exact qaW hh
 unfold tkT
 rw[<-q35]
 have hhd: ∀h:spn isIn I.data.toList<I.size,(I.data.toList.drop (spn isIn I.data.toList)).head?=some I[spn isIn I.data.toList]:=fun h=>by rw[q1U _ _ h];rfl
 have hhn:spn isIn I.data.toList=I.size->(I.data.toList.drop (spn isIn I.data.toList)).head?=none:=fun h=>by rw[h,List.drop_eq_nil_of_le (by rw[q0f];exact Nat.le_refl _)];rfl
 generalize hL:I.data.toList=L at *
 generalize spn isIn L=n at *
 clear hL
 have HUT:=hZq UT
 have HHD:=hZq hhd
 have HHN:=hZq hhn
 have HST:=hZq hstop
 clear UT hhd hhn hstop
 by_cases h256:256<n
 ·rw[if_pos h256]
  go_enter Tryz.func64,Tryz.ntmps64
  go_wp2_with fail
  rw[uQ HI]
  refine (uQ HUT _ (hT.alloc _)).mono ?_
  rintro e w1 ⟨rfl,rfl⟩
  go_wp2
  exact bodyPost_ret (v:=rdV none) (by simp[results,Tryz.results64,go_sem,rdV]) rfl ⟨rfl,(Below.refl _ _).alloc (Nat.le_refl _) _⟩
 ·rw[if_neg h256]
  by_cases hn:n=I.size
  ·rw[uQ HHN hn,if_neg (by simp)]
   have g:((n:Int)==(I.size:Int))=true:=by simp[hn]
   have g2:((n:Int)=(I.size:Int)):=by omega
   have HN:=hZq hn
   clear hn
   go_enter Tryz.func64,Tryz.ntmps64
   go_wp2_with fail
   rw[uQ HI]
   refine (uQ HUT _ (hT.alloc _)).mono ?_
   rintro e w1 ⟨rfl,rfl⟩
   go_wp2
   exact bodyPost_ret (v:=rdV none) (by simp[results,Tryz.results64,go_sem,rdV]) rfl ⟨rfl,(Below.refl _ _).alloc (Nat.le_refl _) _⟩
  ·have hlt:n<I.size:=by omega
   rw[uQ HHD hlt]
   have g:((n:Int)==(I.size:Int))=false:=by simp;omega
   have hst:=uQ HST hlt
   have hlt2:=I[n].toNat_lt
   have SO:=fun W hW=>q10 I[n].toNat hlt2 W hW
   by_cases hq:I[n].toNat=39
   ·rw[if_pos (by rw[Option.some.injEq];exact UInt8.toNat_inj.1 hq)]
    have hc:cls I[n].toNat=16:=by rw[hq];rfl
    rw[hc]at SO
    have HSO:=hZq SO
    clear SO hst hq hc
    go_enter Tryz.func64,Tryz.ntmps64
    go_wp2_with fail
    rw[uQ HI]
    refine (uQ HUT _ (hT.alloc _)).mono ?_
    rintro e w1 ⟨rfl,rfl⟩
    go_wp2_with (go_at_call 61;refine (uQ HSO _ (hT.alloc _)).mono ?_;rintro e w1 ⟨rfl,rfl⟩)
    exact bodyPost_ret (v:=rdV (some (⟨3,I.extract 0 n,0,0⟩,n+2))) (by simp[results,Tryz.results64,go_sem,rdV,Tk.v]) rfl ⟨rfl,(Below.refl _ _).alloc (Nat.le_refl _) _⟩
   ·rw[if_neg (fun e=>hq (by rw[Option.some.injEq]at e;rw[e];rfl))]
    have hc:cls I[n].toNat=3:=by rw[show I[n].toNat=10 by omega];rfl
    rw[hc]at SO
    have HSO:=hZq SO
    clear SO hst hq hc
    go_enter Tryz.func64,Tryz.ntmps64
    go_wp2_with fail
    rw[uQ HI]
    refine (uQ HUT _ (hT.alloc _)).mono ?_
    rintro e w1 ⟨rfl,rfl⟩
    go_wp2_with (go_at_call 61;refine (uQ HSO _ (hT.alloc _)).mono ?_;rintro e w1 ⟨rfl,rfl⟩)
    exact bodyPost_ret (v:=rdV none) (by simp[results,Tryz.results64,go_sem,rdV]) rfl ⟨rfl,(Below.refl _ _).alloc (Nat.le_refl _) _⟩
theorem qal: ∀b:Fin 256,(bits .and .u8 (cls b.val:Int) 192 != 0)=q1K (UInt8.ofNat b.val)/\(bits .and .u8 (cls b.val:Int) 96 != 0)=q40 (UInt8.ofNat b.val)/\(((cls b.val:Int)==4)=q0A (UInt8.ofNat b.val))/\(((cls b.val:Int)==8)=q07 (UInt8.ofNat b.val))/\(((cls b.val:Int)==16)=decide (b.val=39)):=by decide+kernel
theorem qbS (b:UInt8):(bits .and .u8 (cls b.toNat:Int) 192 != 0)=q1K b/\(bits .and .u8 (cls b.toNat:Int) 96 != 0)=q40 b/\(((cls b.toNat:Int)==4)=q0A b)/\(((cls b.toNat:Int)==8)=q07 b)/\(((cls b.toNat:Int)==16)=decide (b.toNat=39)):=by have:=qal ⟨b.toNat,b.toNat_lt⟩;simpa using this
theorem q6l (s:ByteArray)(w:World)(hT:TbW w)(h0:0<s.size)(hs:s.size<=140737488351232):
  Calls Tryz.prog 65 #[.string s] w fun e w'=>e= .returned (rdV (tkS s[0] (s.data.toList.drop 1)))/\Below w.heap.size w w':=by
 have SO:=fun W hW=>q10 s[0].toNat s[0].toNat_lt W hW
 obtain ⟨e2,e1,_⟩:=qbS s[0]
 generalize hC:cls s[0].toNat=C at *
 clear hC
 have HSO:=hZq SO
 clear SO
 have x1:s.extract 0 1=txt [s[0]]:=by rw[q35,q1F s h0];rfl
 by_cases h2:q1K s[0]=true/\(s.data.toList.drop 1).head?=some 61
 ·have hl:1<s.size:=by
   rcases Nat.lt_or_ge 1 s.size with h|h
   ·exact h
   ·rw[List.drop_eq_nil_of_le (by rw[q0f];exact h)]at h2;exact absurd h2.2 (by simp)
  have hd:=q1U s 1 hl
  have h61:s[1]=61:=by have:=h2.2;rw[hd]at this;simpa using this
  have x2:s.extract 0 2=txt [s[0],61]:=by rw[q35,q1F s h0,hd,h61];rfl
  have g61:((s[1].toNat:Int)==61)=true:=by rw[h61];rfl
  rw[h2.1]at e2
  have HR:Hid (tkS s[0] (s.data.toList.drop 1)=some (⟨4,s.extract 0 2,0,0⟩,2)):=by
   refine hZq ?_
   unfold tkS
   rw[if_pos h2,x2]
  generalize tkS s[0] (s.data.toList.drop 1)=Q at *
  have hQ:=uQ HR
  subst hQ
  clear HR x1 x2 h2 h61 hd e1
  go_enter Tryz.func65,Tryz.ntmps65
  go_wp2_with fail
  refine (uQ HSO _ (hT.alloc _)).mono ?_
  rintro e w1 ⟨rfl,rfl⟩
  go_wp2
  exact bodyPost_ret (v:=rdV (some (⟨4,s.extract 0 2,0,0⟩,2))) (by simp[results,Tryz.results65,go_sem,rdV,Tk.v]) rfl ⟨rfl,(Below.refl _ _).alloc (Nat.le_refl _) _⟩
 ·have HG:Hid (q1K s[0]=false\/(q1K s[0]=true/\ ¬ 1<s.size)\/(q1K s[0]=true/\ ∃h:1<s.size,((s[1].toNat:Int)==61)=false)):=by
   refine hZq ?_
   by_cases ht:q1K s[0]=true
   ·refine Or.inr ?_
    by_cases hl:1<s.size
    ·refine Or.inr ⟨ht,hl,?_⟩
     have hn: ¬ s[1]=61:=fun e=>h2 ⟨ht,by rw[q1U s 1 hl,e];rfl⟩
     have:s[1].toNat≠61:=fun e=>hn (UInt8.toNat_inj.1 e)
     simp
     omega
    ·exact Or.inl ⟨ht,hl⟩
   ·exact Or.inl (Bool.eq_false_iff.2 ht)
  by_cases h1:q40 s[0]=true
  ·have HR:Hid (tkS s[0] (s.data.toList.drop 1)=some (⟨4,s.extract 0 1,0,0⟩,1)):=by
    refine hZq ?_
    unfold tkS
    rw[if_neg h2,if_pos h1,x1]
   generalize tkS s[0] (s.data.toList.drop 1)=Q at *
   have hQ:=uQ HR
   subst hQ
   rw[h1]at e1
   clear HR x1 h2 h1
   rcases uQ HG with ht|⟨ht,hl⟩|⟨ht,hl,g61⟩
   ·rw[ht]at e2
    clear HG ht
    go_enter Tryz.func65,Tryz.ntmps65
    go_wp2_with fail
    refine (uQ HSO _ (hT.alloc _)).mono ?_
    rintro e w1 ⟨rfl,rfl⟩
    go_wp2
    exact bodyPost_ret (v:=rdV (some (⟨4,s.extract 0 1,0,0⟩,1))) (by simp[results,Tryz.results65,go_sem,rdV,Tk.v]) rfl ⟨rfl,(Below.refl _ _).alloc (Nat.le_refl _) _⟩
   ·rw[ht]at e2
    clear HG ht
    go_enter Tryz.func65,Tryz.ntmps65
    go_wp2_with fail
    refine (uQ HSO _ (hT.alloc _)).mono ?_
    rintro e w1 ⟨rfl,rfl⟩
    go_wp2
    exact bodyPost_ret (v:=rdV (some (⟨4,s.extract 0 1,0,0⟩,1))) (by simp[results,Tryz.results65,go_sem,rdV,Tk.v]) rfl ⟨rfl,(Below.refl _ _).alloc (Nat.le_refl _) _⟩
   ·rw[ht]at e2
    clear HG ht
    go_enter Tryz.func65,Tryz.ntmps65
    go_wp2_with fail
    refine (uQ HSO _ (hT.alloc _)).mono ?_
    rintro e w1 ⟨rfl,rfl⟩
    go_wp2
    exact bodyPost_ret (v:=rdV (some (⟨4,s.extract 0 1,0,0⟩,1))) (by simp[results,Tryz.results65,go_sem,rdV,Tk.v]) rfl ⟨rfl,(Below.refl _ _).alloc (Nat.le_refl _) _⟩
  ·have HR:Hid (tkS s[0] (s.data.toList.drop 1)=none):=by
    refine hZq ?_
    unfold tkS
    rw[if_neg h2,if_neg h1]
   generalize tkS s[0] (s.data.toList.drop 1)=Q at *
   have hQ:=uQ HR
   subst hQ
   rw[Bool.eq_false_iff.2 h1]at e1
   clear HR x1 h2 h1
   rcases uQ HG with ht|⟨ht,hl⟩|⟨ht,hl,g61⟩
   ·rw[ht]at e2
    clear HG ht
    go_enter Tryz.func65,Tryz.ntmps65
    go_wp2_with fail
    refine (uQ HSO _ (hT.alloc _)).mono ?_
    rintro e w1 ⟨rfl,rfl⟩
    go_wp2
    exact bodyPost_ret (v:=rdV none) (by simp[results,Tryz.results65,go_sem,rdV]) rfl ⟨rfl,(Below.refl _ _).alloc (Nat.le_refl _) _⟩
   ·rw[ht]at e2
    clear HG ht
    go_enter Tryz.func65,Tryz.ntmps65
    go_wp2_with fail
    refine (uQ HSO _ (hT.alloc _)).mono ?_
    rintro e w1 ⟨rfl,rfl⟩
    go_wp2
    exact bodyPost_ret (v:=rdV none) (by simp[results,Tryz.results65,go_sem,rdV]) rfl ⟨rfl,(Below.refl _ _).alloc (Nat.le_refl _) _⟩
   ·rw[ht]at e2
    clear HG ht
    go_enter Tryz.func65,Tryz.ntmps65
    go_wp2_with fail
    refine (uQ HSO _ (hT.alloc _)).mono ?_
    rintro e w1 ⟨rfl,rfl⟩
    go_wp2
    exact bodyPost_ret (v:=rdV none) (by simp[results,Tryz.results65,go_sem,rdV]) rfl ⟨rfl,(Below.refl _ _).alloc (Nat.le_refl _) _⟩
theorem q2N (q:Option (Tk × Nat)): ∃k s n p m,rdV q= .tuple #[.agg #[.int .i64 k, .string s, .int .i64 n, .int .i64 p], .int .i64 m]:=by
 cases q with
 |none=>exact ⟨_,_,_,_,_,rfl⟩
 |some x=>exact ⟨_,_,_,_,_,rfl⟩
theorem q3r {w w1:World}(hb:Below (w.alloc (.cells #[.int .i64 0, .string ⟨#[]⟩, .int .i64 0, .int .i64 0] 78)).heap.size (w.alloc (.cells #[.int .i64 0, .string ⟨#[]⟩, .int .i64 0, .int .i64 0] 78)) w1):
  Below w.heap.size w w1/\CBox w.heap.size #[.int .i64 0, .string ⟨#[]⟩, .int .i64 0, .int .i64 0] 78 w1:=
 ⟨((Below.refl _ _).alloc (Nat.le_refl _) _).trans (hb.mono (by simp)),by unfold CBox;rw[hb.block _ (by simp)];exact heap_alloc_new w _⟩
theorem q6o (s:ByteArray)(w:World)(hT:TbW w)(hs:s.size<=140737488351232):
  Calls Tryz.prog 32 #[.string s] w fun e w'=>e= .returned (rdV (tkR s.data.toList))/\Below w.heap.size w w':=by
 rcases Nat.eq_zero_or_pos s.size with h0|h0
 ·obtain rfl:s=⟨#[]⟩:=by
   have:=List.eq_nil_of_length_eq_zero (l:=s.data.toList) (by rw[q0f];exact h0)
   rw[<-q0z s,this];rfl
  clear hT hs
  go_enter Tryz.func32,Tryz.ntmps32
  go_wp2
  exact bodyPost_ret (v:=rdV none) (by simp[results,Tryz.results32,go_sem,rdV]) rfl ⟨rfl,(Below.refl _ _).alloc (Nat.le_refl _) _⟩
 ·have SO:=fun W hW=>q10 s[0].toNat s[0].toNat_lt W hW
  obtain ⟨_,_,eL,eD,eQ⟩:=qbS s[0]
  have hne: ¬ s.data.toList=[]:=fun e=>by have:=q0f s;rw[e]at this;simp at this;omega
  have HR:Hid (tkR s.data.toList=if q0A s[0] then tkW s.data.toList else if q07 s[0] then tkN s.data.toList else if s[0].toNat=39 then tkT (s.data.toList.drop 1) else tkS s[0] (s.data.toList.drop 1)):=by
   have e:=q1F s h0
   generalize s.data.toList.drop 1=r at e ⊢
   exact hZq (by rw[e,tkR])
  generalize hC:cls s[0].toNat=C at *
  clear hC
  have HSO:=hZq SO
  clear SO
  have gne:s.toList.isEmpty=false:=by rw[ByteArray.toList_eq];simpa using hne
  clear hne
  generalize hQe:tkR s.data.toList=Q at *
  clear hQe
  have hq:=uQ HR
  clear HR
  by_cases hL:q0A s[0]=true
  ·rw[if_pos hL]at hq
   have RW:=fun W hW=>q6n s W hW (by omega)
   rw[<-hq]at RW
   have HRW:=hZq RW
   rw[hL]at eL
   clear RW hq hL eD eQ
   obtain ⟨k,t,n,p,m,hv⟩:=q2N Q
   rw[hv]at HRW ⊢
   clear hv
   go_enter Tryz.func32,Tryz.ntmps32
   go_wp2_with fail
   refine (uQ HSO _ (hT.alloc _)).mono ?_
   rintro e w1 ⟨rfl,rfl⟩
   go_wp2_with fail
   refine (uQ HRW _ (hT.alloc _)).mono ?_
   rintro e w1 ⟨rfl,hb⟩
   obtain ⟨hb0,q⟩:=q3r hb
   have q0:=CBox.cell (i:=0) (v:= .int .i64 0) q rfl
   have q1:=CBox.cell (i:=1) (v:= .string ⟨#[]⟩) q rfl
   have q2:=CBox.cell (i:=2) (v:= .int .i64 0) q rfl
   have q3:=CBox.cell (i:=3) (v:= .int .i64 0) q rfl
   have f0:=CBox.froz q 0
   have f1:=CBox.froz q 1
   have f2:=CBox.froz q 2
   have f3:=CBox.froz q 3
   have HB0:=hZq hb0
   clear hb hb0 q
   go_wp2
   exact bodyPost_ret (v:= .tuple #[.agg #[.int .i64 k, .string t, .int .i64 n, .int .i64 p], .int .i64 m]) (by simp[results,Tryz.results32,go_sem,q0,q1,q2,q3]) rfl ⟨rfl,((((uQ HB0).setCell (Nat.le_refl _) _).setCell (Nat.le_refl _) _).setCell (Nat.le_refl _) _).setCell (Nat.le_refl _) _⟩
  ·rw[if_neg hL]at hq
   rw[Bool.eq_false_iff.2 hL]at eL
   by_cases hD:q07 s[0]=true
   ·rw[if_pos hD]at hq
    have RW:=fun W hW=>q4C s W hW h0 hs hD
    rw[<-hq]at RW
    have HRW:=hZq RW
    rw[hD]at eD
    clear RW hq hL hD eQ
    obtain ⟨k,t,n,p,m,hv⟩:=q2N Q
    rw[hv]at HRW ⊢
    clear hv
    go_enter Tryz.func32,Tryz.ntmps32
    go_wp2_with fail
    refine (uQ HSO _ (hT.alloc _)).mono ?_
    rintro e w1 ⟨rfl,rfl⟩
    go_wp2_with fail
    refine (uQ HRW _ (hT.alloc _)).mono ?_
    rintro e w1 ⟨rfl,hb⟩
    obtain ⟨hb0,q⟩:=q3r hb
    have q0:=CBox.cell (i:=0) (v:= .int .i64 0) q rfl
    have q1:=CBox.cell (i:=1) (v:= .string ⟨#[]⟩) q rfl
    have q2:=CBox.cell (i:=2) (v:= .int .i64 0) q rfl
    have q3:=CBox.cell (i:=3) (v:= .int .i64 0) q rfl
    have f0:=CBox.froz q 0
    have f1:=CBox.froz q 1
    have f2:=CBox.froz q 2
    have f3:=CBox.froz q 3
    have HB0:=hZq hb0
    clear hb hb0 q
    go_wp2
    exact bodyPost_ret (v:= .tuple #[.agg #[.int .i64 k, .string t, .int .i64 n, .int .i64 p], .int .i64 m]) (by simp[results,Tryz.results32,go_sem,q0,q1,q2,q3]) rfl ⟨rfl,((((uQ HB0).setCell (Nat.le_refl _) _).setCell (Nat.le_refl _) _).setCell (Nat.le_refl _) _).setCell (Nat.le_refl _) _⟩
   ·rw[if_neg hD]at hq
    rw[Bool.eq_false_iff.2 hD]at eD
    by_cases hT39:s[0].toNat=39
    ·rw[if_pos hT39]at hq
     have RW:=fun W hW=>q6m s W hW h0 hs
     rw[<-hq]at RW
     have HRW:=hZq RW
     rw[decide_eq_true hT39]at eQ
     clear RW hq hL hD hT39
     obtain ⟨k,t,n,p,m,hv⟩:=q2N Q
     rw[hv]at HRW ⊢
     clear hv
     go_enter Tryz.func32,Tryz.ntmps32
     go_wp2_with fail
     refine (uQ HSO _ (hT.alloc _)).mono ?_
     rintro e w1 ⟨rfl,rfl⟩
     go_wp2_with fail
     refine (uQ HRW _ (hT.alloc _)).mono ?_
     rintro e w1 ⟨rfl,hb⟩
     obtain ⟨hb0,q⟩:=q3r hb
     have q0:=CBox.cell (i:=0) (v:= .int .i64 0) q rfl
     have q1:=CBox.cell (i:=1) (v:= .string ⟨#[]⟩) q rfl
     have q2:=CBox.cell (i:=2) (v:= .int .i64 0) q rfl
     have q3:=CBox.cell (i:=3) (v:= .int .i64 0) q rfl
     have f0:=CBox.froz q 0
     have f1:=CBox.froz q 1
     have f2:=CBox.froz q 2
     have f3:=CBox.froz q 3
     have HB0:=hZq hb0
     clear hb hb0 q
     go_wp2
     exact bodyPost_ret (v:= .tuple #[.agg #[.int .i64 k, .string t, .int .i64 n, .int .i64 p], .int .i64 m]) (by simp[results,Tryz.results32,go_sem,q0,q1,q2,q3]) rfl ⟨rfl,((((uQ HB0).setCell (Nat.le_refl _) _).setCell (Nat.le_refl _) _).setCell (Nat.le_refl _) _).setCell (Nat.le_refl _) _⟩
    ·rw[if_neg hT39]at hq
     have RW:=fun W hW=>q6l s W hW h0 hs
     rw[<-hq]at RW
     have HRW:=hZq RW
     rw[decide_eq_false hT39]at eQ
     clear RW hq hL hD hT39
     obtain ⟨k,t,n,p,m,hv⟩:=q2N Q
     rw[hv]at HRW ⊢
     clear hv
     go_enter Tryz.func32,Tryz.ntmps32
     go_wp2_with fail
     refine (uQ HSO _ (hT.alloc _)).mono ?_
     rintro e w1 ⟨rfl,rfl⟩
     go_wp2_with fail
     refine (uQ HRW _ (hT.alloc _)).mono ?_
     rintro e w1 ⟨rfl,hb⟩
     obtain ⟨hb0,q⟩:=q3r hb
     have q0:=CBox.cell (i:=0) (v:= .int .i64 0) q rfl
     have q1:=CBox.cell (i:=1) (v:= .string ⟨#[]⟩) q rfl
     have q2:=CBox.cell (i:=2) (v:= .int .i64 0) q rfl
     have q3:=CBox.cell (i:=3) (v:= .int .i64 0) q rfl
     have f0:=CBox.froz q 0
     have f1:=CBox.froz q 1
     have f2:=CBox.froz q 2
     have f3:=CBox.froz q 3
     have HB0:=hZq hb0
     clear hb hb0 q
     go_wp2
     exact bodyPost_ret (v:= .tuple #[.agg #[.int .i64 k, .string t, .int .i64 n, .int .i64 p], .int .i64 m]) (by simp[results,Tryz.results32,go_sem,q0,q1,q2,q3]) rfl ⟨rfl,((((uQ HB0).setCell (Nat.le_refl _) _).setCell (Nat.le_refl _) _).setCell (Nat.le_refl _) _).setCell (Nat.le_refl _) _⟩
open Go.RowKit
def FBox (k:Nat)(w:World):Prop:=w.heap[k]?=some (.cells #[.int .i64 0, .int .i64 0] 44 (0,0))
theorem FBox.cells {k:Nat}{w:World}(h:FBox k w):w.cell? ⟨k,0,none⟩=some (.int .i64 0)/\w.cell? ⟨k,1,none⟩=some (.int .i64 0)/\w.frozen? ⟨k,0,none⟩=false/\w.frozen? ⟨k,1,none⟩=false:=by
 unfold FBox at h
 simp[World.cell?,World.frozen?,h]
theorem FBox.lt {k:Nat}{w:World}(h:FBox k w):k<w.heap.size:=by
 unfold FBox at h
 rcases Nat.lt_or_ge k w.heap.size with h1|h1
 ·exact h1
 ·rw[Array.getElem?_eq_none h1]at h;cases h
theorem FBox.below {k B:Nat}{w w':World}(h:FBox k w)(hb:Below B w w')(hB:k<B):FBox k w':=by unfold FBox;rw[hb.block k hB];exact h
end Go.Proofs.YtcmjnlpofebbmaaGreatDoor
