/-
  Walks and plain facts, made small.
-/
import Derived.Test.YtcmjnlpofebbmaaGreatDoorMa03
import Derived.Lib.LaidTab
import Derived.Test.YtcmjnlpofebbmaaGreatDoorMa02
import Derived.Test.YtcmjnlpofebbmaaGreatDoorRows
import Derived.Stop.LaidErr
set_option maxRecDepth 100000
set_option maxHeartbeats 8000000
set_option linter.unusedSimpArgs false
namespace Go.Proofs.YtcmjnlpofebbmaaGreatDoor
open Go.RowKit
def tabT:List Nat:=[0,0,0,0,0,0,0,0,0,0,3,0,0,0,0,0,0,0,0,0,0,0,0,0,0,0,0,0,0,0,0,0,1,128,0,0,0,0,0,16,32,32,32,32,0,32,32,0,8,8,8,8,8,8,8,8,8,8,32,32,64,64,0,0,0,0,0,0,0,0,0,0,0,0,0,0,0,0,0,0,0,0,0,0,0,0,0,0,0,0,0,0,0,0,0,0,0,4,4,4,4,4,4,4,4,4,4,4,4,4,4,4,4,4,4,4,4,4,4,4,4,4,4,0,0,0,0,0]
def cls (b:Nat):Nat:=tabT.getD b 0
structure TbW (w:World):Prop where
 low:8<=w.heap.size
 sets: ∀i,i<128->w.cell? ⟨0,i,none⟩=some (.int .u8 (cls i:Int))
 pow:Lib.TabIs Tryz.prog w "internal/strconv.uint64pow10" .u64 Lib.pow10Tab
 rng: ∃tp p,w.cell? ⟨3,0,none⟩=some (.iface tp p)
theorem gPow:Tryz.prog.globalNamed "internal/strconv.uint64pow10"=some 5:=by kernel_rfl
theorem TbW.same {w w':World}(h:TbW w)(hs:w.heap.size<=w'.heap.size)(hb: ∀k,k<8->w'.heap[k]?=w.heap[k]?):TbW w':=by
 refine ⟨Nat.le_trans h.low hs,fun i hi=>?_,?_,?_⟩
 ·rw[World.cell?_of_block (hb 0 (by omega))];exact h.sets i hi
 ·have:=h.pow
  unfold Lib.TabIs World.var? at this ⊢
  rw[gPow]at this ⊢
  simp only[Option.bind_some]at this ⊢
  rw[hb 5 (by omega)]
  exact this
 ·obtain ⟨tp,p,hc⟩:=h.rng
  exact ⟨tp,p,by rw[World.cell?_of_block (hb 3 (by omega))];exact hc⟩
theorem TbW.below {B:Nat}{w w':World}(h:TbW w)(hb:Below B w w')(hB:8<=B):TbW w':=h.same hb.size fun k hk=>hb.block k (by omega)
theorem TbW.kp {w w':World}{F:List Nat}(h:TbW w)(hk:Kp F w w')(hF: ∀k∈F,8<=k):TbW w':=h.same hk.size fun k hk6=>hk.block k (by have:=h.low;omega) (fun hm=>by have:=hF k hm;omega)
theorem TbW.alloc {w:World}(h:TbW w)(o:Obj):TbW (w.alloc o):=h.kp (Kp.alloc w o) (by simp)
theorem q3k: ∀b:Fin 256,(bits .and .u8 (cls b.val:Int) 12 != 0)=q0h (UInt8.ofNat b.val)/\(bits .and .u8 (cls b.val:Int) 8 != 0)=q07 (UInt8.ofNat b.val)/\(bits .and .u8 (cls b.val:Int) 1 != 0)=q09 (UInt8.ofNat b.val)/\(bits .and .u8 (cls b.val:Int) 18==0)=isIn (UInt8.ofNat b.val):=by decide+kernel
theorem qc3 (b:UInt8):(bits .and .u8 (cls b.toNat:Int) 12 != 0)=q0h b:=by have:=(q3k ⟨b.toNat,b.toNat_lt⟩).1;simpa using this
theorem q7k (b:UInt8):(bits .and .u8 (cls b.toNat:Int) 8 != 0)=q07 b:=by have:=(q3k ⟨b.toNat,b.toNat_lt⟩).2.1;simpa using this
theorem q7j (b:UInt8):(bits .and .u8 (cls b.toNat:Int) 1 != 0)=q09 b:=by have:=(q3k ⟨b.toNat,b.toNat_lt⟩).2.2.1;simpa using this
theorem qds (b:UInt8):(bits .and .u8 (cls b.toNat:Int) 18==0)=isIn b:=by have:=(q3k ⟨b.toNat,b.toNat_lt⟩).2.2.2;simpa using this
theorem qdr (n:Nat)(h:128<=n):cls n=0:=by
 unfold cls
 rw[List.getD_eq_getElem?_getD,List.getElem?_eq_none (by simpa [tabT] using h)]
 rfl
theorem q10 (n:Nat)(hn:n<256)(w:World)(hT:TbW w):Calls Tryz.prog 61 #[.int .u8 (n:Int)] w fun e w'=>e= .returned (.int .u8 (cls n:Int))/\w'=w:=by
 rcases Nat.lt_or_ge n 128 with h|h
 ·have c:=hT.sets n h
  generalize cls n=C at c ⊢
  clear hT
  go_enter Tryz.func61,Tryz.ntmps61
  go_wp2
  go_ret
  exact ⟨rfl,rfl⟩
 ·rw[qdr n h]
  clear hT
  go_enter Tryz.func61,Tryz.ntmps61
  go_wp2
  go_ret
  exact ⟨rfl,rfl⟩
theorem q22 (s:ByteArray)(m:Int)(p:UInt8->Bool)(hp: ∀b:UInt8,(bits .and .u8 (cls b.toNat:Int) m != 0)=p b)(w:World)(hT:TbW w)(hs:s.size<=9223372036854775807):
  Calls Tryz.prog 31 #[.string s, .int .u8 m] w fun e w'=>e= .returned (.int .i64 (spn p s.data.toList:Nat))/\w'=w:=by
 have HP:=hZq hp
 clear hp
 go_enter Tryz.func31,Tryz.ntmps31
 go_wp2
 go_loop [5] (fun i=> ∃k:Nat,k<=s.size/\k<=spn p s.data.toList/\i= .int .i64 k) (fun i=>s.size-(intOf i).toNat)
 case atStart=>exact ⟨0,Nat.zero_le _,Nat.zero_le _,rfl⟩
 case round=>
  obtain ⟨k,hk,hsp,rfl⟩:=hrel
  have HS:=hZq hsp
  clear hsp
  by_cases hlt:k<s.size
  ·have e:=uQ HP s[k]
   by_cases hpk:p s[k]=true
   ·rw[hpk]at e
    have HN:Hid (k+1<=spn p s.data.toList):=hZq (q23 (uQ HS) (by simpa using hlt) hpk)
    go_wp2_with (go_at_call 61;refine (q10 (s[k]).toNat (s[k]).toNat_lt _ hT).mono ?_;rintro e w' ⟨rfl,rfl⟩)
    go_round
    case rel=>exact ⟨k+1,by omega,uQ HN,by go_num⟩
    case measure=>simp[intOf];omega
   ·rw[show p s[k]=false by simpa using hpk]at e
    have HN:Hid (k=spn p s.data.toList):=hZq (q1z (uQ HS) (fun _=>Bool.eq_false_iff.2 hpk))
    go_wp2_with (go_at_call 61;refine (q10 (s[k]).toNat (s[k]).toNat_lt _ hT).mono ?_;rintro e w' ⟨rfl,rfl⟩)
    go_ret
    exact ⟨q0H (by rw[<-uQ HN]),rfl⟩
  ·have HN:Hid (k=spn p s.data.toList):=hZq (q1z (uQ HS) (fun h=>absurd (by simpa using h) hlt))
   go_wp2
   go_ret
   exact ⟨q0H (by rw[<-uQ HN]),rfl⟩
theorem qbI (s:ByteArray)(m:Int)(p:UInt8->Bool)(hp: ∀b:UInt8,(bits .and .u8 (cls b.toNat:Int) m==0)=p b)(w:World)(hT:TbW w)(hs:s.size<=9223372036854775807):
  Calls Tryz.prog 92 #[.string s, .int .u8 m] w fun e w'=>e= .returned (.int .i64 (spn p s.data.toList:Nat))/\w'=w:=by
 have HP:=hZq hp
 clear hp
 go_enter Tryz.func92,Tryz.ntmps92
 go_wp2
 go_loop [5] (fun i=> ∃k:Nat,k<=s.size/\k<=spn p s.data.toList/\i= .int .i64 k) (fun i=>s.size-(intOf i).toNat)
 case atStart=>exact ⟨0,Nat.zero_le _,Nat.zero_le _,rfl⟩
 case round=>
  obtain ⟨k,hk,hsp,rfl⟩:=hrel
  have HS:=hZq hsp
  clear hsp
  by_cases hlt:k<s.size
  ·have e:=uQ HP s[k]
   by_cases hpk:p s[k]=true
   ·rw[hpk]at e
    have HN:Hid (k+1<=spn p s.data.toList):=hZq (q23 (uQ HS) (by simpa using hlt) hpk)
    go_wp2_with (go_at_call 61;refine (q10 (s[k]).toNat (s[k]).toNat_lt _ hT).mono ?_;rintro e w' ⟨rfl,rfl⟩)
    go_round
    case rel=>exact ⟨k+1,by omega,uQ HN,by go_num⟩
    case measure=>simp[intOf];omega
   ·rw[show p s[k]=false by simpa using hpk]at e
    have HN:Hid (k=spn p s.data.toList):=hZq (q1z (uQ HS) (fun _=>Bool.eq_false_iff.2 hpk))
    go_wp2_with (go_at_call 61;refine (q10 (s[k]).toNat (s[k]).toNat_lt _ hT).mono ?_;rintro e w' ⟨rfl,rfl⟩)
    go_ret
    exact ⟨q0H (by rw[<-uQ HN]),rfl⟩
  ·have HN:Hid (k=spn p s.data.toList):=hZq (q1z (uQ HS) (fun h=>absurd (by simpa using h) hlt))
   go_wp2
   go_ret
   exact ⟨q0H (by rw[<-uQ HN]),rfl⟩
open Go.RowKit
structure TbE (w:World):Prop where
 tok:TbW w
 fds:w.cell? ⟨4,0,none⟩=some (.string ⟨#[110,48]⟩)/\w.cell? ⟨4,1,none⟩=some (.string ⟨#[110,49]⟩)/\w.cell? ⟨4,2,none⟩=some (.string ⟨#[110,50]⟩)/\w.cell? ⟨4,3,none⟩=some (.string ⟨#[110,51]⟩)/\w.cell? ⟨4,4,none⟩=some (.string ⟨#[116,121,112,101]⟩)/\w.cell? ⟨4,5,none⟩=some (.string ⟨#[116,101,120,116]⟩)
theorem TbE.same {w w':World}(h:TbE w)(hs:w.heap.size<=w'.heap.size)(hb: ∀k,k<8->w'.heap[k]?=w.heap[k]?):TbE w':=by
 refine ⟨h.tok.same hs hb,?_⟩
 have e:=fun i=>World.cell?_of_block (w:=w') (w':=w) (a:=⟨4,i,none⟩) (hb 4 (by omega)).symm
 obtain ⟨h0,h1,h2,h3,h4,h5⟩:=h.fds
 exact ⟨(e 0).symm.trans h0,(e 1).symm.trans h1,(e 2).symm.trans h2,(e 3).symm.trans h3,(e 4).symm.trans h4,(e 5).symm.trans h5⟩
theorem TbE.below {B:Nat}{w w':World}(h:TbE w)(hb:Below B w w')(hB:8<=B):TbE w':=h.same hb.size fun k hk=>hb.block k (by omega)
theorem TbE.low {w:World}(h:TbE w):8<=w.heap.size:=h.tok.low
theorem TbE.blw {w w':World}(h:TbE w)(hb:Below w.heap.size w w'):TbE w':=h.below hb h.low
theorem TbE.kp {w w':World}{F:List Nat}(h:TbE w)(hk:Kp F w w')(hF: ∀k∈F,8<=k):TbE w':=h.same hk.size fun k hk6=>hk.block k (by have:=h.low;omega) (fun hm=>by have:=hF k hm;omega)
theorem TbE.alloc {w:World}(h:TbE w)(o:Obj):TbE (w.alloc o):=h.kp (Kp.alloc w o) (by simp)
theorem q5V (c:UInt8)(w:World):Calls Tryz.prog 191 #[.int .u8 (c.toNat:Int)] w fun e w'=>e= .returned (.bool (q0A c))/\w'=w:=by
 unfold q0A
 by_cases h1:97<=c.toNat
 ·rw[decide_eq_true h1]
  generalize c.toNat=n at *
  go_enter Tryz.func191,Tryz.ntmps191
  go_wp2
  go_ret
  exact ⟨q0Y (by rw[Bool.true_and];exact decide_eq_decide.2 (by omega)),rfl⟩
 ·rw[decide_eq_false h1]
  generalize c.toNat=n at *
  go_enter Tryz.func191,Tryz.ntmps191
  go_wp2
  go_ret
  exact ⟨rfl,rfl⟩
theorem q6T (c:UInt8)(w:World):Calls Tryz.prog 192 #[.int .u8 (c.toNat:Int)] w fun e w'=>e= .returned (.bool (q07 c))/\w'=w:=by
 unfold q07
 by_cases h1:48<=c.toNat
 ·rw[decide_eq_true h1]
  generalize c.toNat=n at *
  go_enter Tryz.func192,Tryz.ntmps192
  go_wp2
  go_ret
  exact ⟨q0Y (by rw[Bool.true_and];exact decide_eq_decide.2 (by omega)),rfl⟩
 ·rw[decide_eq_false h1]
  generalize c.toNat=n at *
  go_enter Tryz.func192,Tryz.ntmps192
  go_wp2
  go_ret
  exact ⟨rfl,rfl⟩
theorem q5c (f:Int)(w:World):Calls Tryz.prog 176 #[.int .i64 f] w fun e w'=>e= .returned (.int .i64 (fldK f))/\w'=w:=by
 unfold fldK
 by_cases h1:f=4
 ·rw[if_pos (Or.inl h1)]
  subst h1
  go_enter Tryz.func176,Tryz.ntmps176
  go_wp2
  go_ret
  exact ⟨rfl,rfl⟩
 by_cases h2:f=5
 ·rw[if_pos (Or.inr h2)]
  subst h2
  go_enter Tryz.func176,Tryz.ntmps176
  go_wp2
  go_ret
  exact ⟨rfl,rfl⟩
 rw[if_neg (by omega)]
 by_cases h3:0<=f
 ·by_cases h4:f<4
  ·rw[if_pos ⟨h3,h4⟩]
   go_enter Tryz.func176,Tryz.ntmps176
   go_wp2
   go_ret
   exact ⟨rfl,rfl⟩
  ·rw[if_neg (by omega)]
   go_enter Tryz.func176,Tryz.ntmps176
   go_wp2
   go_ret
   exact ⟨rfl,rfl⟩
 ·rw[if_neg (by omega)]
  go_enter Tryz.func176,Tryz.ntmps176
  go_wp2
  go_ret
  exact ⟨rfl,rfl⟩
theorem toList_data (s:ByteArray):s.toList=s.data.toList:=Lib.toList_data s
theorem qdL (w:World):(Instr.index 296 (.agg #[.string ⟨#[110,48]⟩, .string ⟨#[110,49]⟩, .string ⟨#[110,50]⟩, .string ⟨#[110,51]⟩, .string ⟨#[116,121,112,101]⟩, .string ⟨#[116,101,120,116]⟩]) (.int .i64 0)).run Tryz.prog w= .ok (.string ⟨#[110,48]⟩) w/\(Instr.index 296 (.agg #[.string ⟨#[110,48]⟩, .string ⟨#[110,49]⟩, .string ⟨#[110,50]⟩, .string ⟨#[110,51]⟩, .string ⟨#[116,121,112,101]⟩, .string ⟨#[116,101,120,116]⟩]) (.int .i64 1)).run Tryz.prog w= .ok (.string ⟨#[110,49]⟩) w/\(Instr.index 296 (.agg #[.string ⟨#[110,48]⟩, .string ⟨#[110,49]⟩, .string ⟨#[110,50]⟩, .string ⟨#[110,51]⟩, .string ⟨#[116,121,112,101]⟩, .string ⟨#[116,101,120,116]⟩]) (.int .i64 2)).run Tryz.prog w= .ok (.string ⟨#[110,50]⟩) w/\(Instr.index 296 (.agg #[.string ⟨#[110,48]⟩, .string ⟨#[110,49]⟩, .string ⟨#[110,50]⟩, .string ⟨#[110,51]⟩, .string ⟨#[116,121,112,101]⟩, .string ⟨#[116,101,120,116]⟩]) (.int .i64 3)).run Tryz.prog w= .ok (.string ⟨#[110,51]⟩) w/\(Instr.index 296 (.agg #[.string ⟨#[110,48]⟩, .string ⟨#[110,49]⟩, .string ⟨#[110,50]⟩, .string ⟨#[110,51]⟩, .string ⟨#[116,121,112,101]⟩, .string ⟨#[116,101,120,116]⟩]) (.int .i64 4)).run Tryz.prog w= .ok (.string ⟨#[116,121,112,101]⟩) w/\(Instr.index 296 (.agg #[.string ⟨#[110,48]⟩, .string ⟨#[110,49]⟩, .string ⟨#[110,50]⟩, .string ⟨#[110,51]⟩, .string ⟨#[116,121,112,101]⟩, .string ⟨#[116,101,120,116]⟩]) (.int .i64 5)).run Tryz.prog w= .ok (.string ⟨#[116,101,120,116]⟩) w:=by
 simp[Instr.index,run_underlying Tryz.underlying296,part,Tryz.sizeOf9,go_sem]
def noFd (l:List UInt8)(k:Nat):Prop:= ∀j,j<k->l≠fldW.getD j []
theorem q1i {l:List UInt8}{k:Nat}(h:noFd l k)(hk:l≠fldW.getD k []):noFd l (k+1):=fun j hj=>by
 rcases Nat.lt_or_ge j k with h1|h1
 ·exact h j h1
 ·obtain rfl:j=k:=by omega
  exact hk
theorem qaC {l:List UInt8}(h:noFd l 6):q0n l= -1:=by
 unfold q0n
 rw[if_neg (show l≠[110,48] from h 0 (by omega))]
 rw[if_neg (show l≠[110,49] from h 1 (by omega))]
 rw[if_neg (show l≠[110,50] from h 2 (by omega))]
 rw[if_neg (show l≠[110,51] from h 3 (by omega))]
 rw[if_neg (show l≠[116,121,112,101] from h 4 (by omega))]
 rw[if_neg (show l≠[116,101,120,116] from h 5 (by omega))]
theorem qco:q0n [110,48]=0:=by decide
theorem qcp:q0n [110,49]=1:=by decide
theorem qcq:q0n [110,50]=2:=by decide
theorem qcr:q0n [110,51]=3:=by decide
theorem qcs:q0n [116,121,112,101]=4:=by decide
theorem qct:q0n [116,101,120,116]=5:=by decide
theorem q2j (s:ByteArray)(w:World)(hT:TbE w):Calls Tryz.prog 199 #[.string s] w fun e w'=>e= .returned (.int .i64 (q0n s.data.toList))/\w'=w:=by
 obtain ⟨f0,f1,f2,f3,f4,f5⟩:=hT.fds
 clear hT
 have tl:=toList_data s
 generalize hl:s.data.toList=l at tl ⊢
 clear hl
 generalize hF:q0n l=F
 have HF:=hZq hF
 clear hF
 go_enter Tryz.func199,Tryz.ntmps199
 go_wp2
 go_loop [6] (fun i=> ∃k:Nat,k<=6/\Hid (noFd l k)/\i= .int .i64 (k:Int)) (fun i=>6-(intOf i).toNat)
 case atStart=>exact ⟨0,by omega,hZq (fun j hj=>by omega),rfl⟩
 case round=>
  obtain ⟨k,hk,HN,rfl⟩:=hrel
  have ix:=fun w=>qdL w
  rcases (show k=0\/k=1\/k=2\/k=3\/k=4\/k=5\/k=6 by omega)with rfl|rfl|rfl|rfl|rfl|rfl|rfl
  ·by_cases e:l=[110,48]
   ·have g1:([110,48]=s.toList)=True:=by rw[tl,e];simp
    have g2:([110,48]==s.toList)=true:=by rw[tl,e];decide
    have E:Hid (F=0):=hZq (by rw[<-uQ HF,e];exact qco)
    clear tl e HF
    go_wp2
    go_ret
    exact ⟨q0H (uQ E).symm,rfl⟩
   ·have g1:([110,48]=s.toList)=False:=by rw[tl];simp;exact fun h=>e h.symm
    have g2:([110,48]==s.toList)=false:=by rw[tl];simp;exact fun h=>e h.symm
    have HN2:Hid (noFd l 1):=hZq (q1i (uQ HN) e)
    clear tl e
    go_wp2
    go_round
    case rel=>exact ⟨1,by omega,HN2,by go_num⟩
    case measure=>simp[intOf]
  ·by_cases e:l=[110,49]
   ·have g1:([110,49]=s.toList)=True:=by rw[tl,e];simp
    have g2:([110,49]==s.toList)=true:=by rw[tl,e];decide
    have E:Hid (F=1):=hZq (by rw[<-uQ HF,e];exact qcp)
    clear tl e HF
    go_wp2
    go_ret
    exact ⟨q0H (uQ E).symm,rfl⟩
   ·have g1:([110,49]=s.toList)=False:=by rw[tl];simp;exact fun h=>e h.symm
    have g2:([110,49]==s.toList)=false:=by rw[tl];simp;exact fun h=>e h.symm
    have HN2:Hid (noFd l 2):=hZq (q1i (uQ HN) e)
    clear tl e
    go_wp2
    go_round
    case rel=>exact ⟨2,by omega,HN2,by go_num⟩
    case measure=>simp[intOf]
  ·by_cases e:l=[110,50]
   ·have g1:([110,50]=s.toList)=True:=by rw[tl,e];simp
    have g2:([110,50]==s.toList)=true:=by rw[tl,e];decide
    have E:Hid (F=2):=hZq (by rw[<-uQ HF,e];exact qcq)
    clear tl e HF
    go_wp2
    go_ret
    exact ⟨q0H (uQ E).symm,rfl⟩
   ·have g1:([110,50]=s.toList)=False:=by rw[tl];simp;exact fun h=>e h.symm
    have g2:([110,50]==s.toList)=false:=by rw[tl];simp;exact fun h=>e h.symm
    have HN2:Hid (noFd l 3):=hZq (q1i (uQ HN) e)
    clear tl e
    go_wp2
    go_round
    case rel=>exact ⟨3,by omega,HN2,by go_num⟩
    case measure=>simp[intOf]
  ·by_cases e:l=[110,51]
   ·have g1:([110,51]=s.toList)=True:=by rw[tl,e];simp
    have g2:([110,51]==s.toList)=true:=by rw[tl,e];decide
    have E:Hid (F=3):=hZq (by rw[<-uQ HF,e];exact qcr)
    clear tl e HF
    go_wp2
    go_ret
    exact ⟨q0H (uQ E).symm,rfl⟩
   ·have g1:([110,51]=s.toList)=False:=by rw[tl];simp;exact fun h=>e h.symm
    have g2:([110,51]==s.toList)=false:=by rw[tl];simp;exact fun h=>e h.symm
    have HN2:Hid (noFd l 4):=hZq (q1i (uQ HN) e)
    clear tl e
    go_wp2
    go_round
    case rel=>exact ⟨4,by omega,HN2,by go_num⟩
    case measure=>simp[intOf]
  ·by_cases e:l=[116,121,112,101]
   ·have g1:([116,121,112,101]=s.toList)=True:=by rw[tl,e];simp
    have g2:([116,121,112,101]==s.toList)=true:=by rw[tl,e];decide
    have E:Hid (F=4):=hZq (by rw[<-uQ HF,e];exact qcs)
    clear tl e HF
    go_wp2
    go_ret
    exact ⟨q0H (uQ E).symm,rfl⟩
   ·have g1:([116,121,112,101]=s.toList)=False:=by rw[tl];simp;exact fun h=>e h.symm
    have g2:([116,121,112,101]==s.toList)=false:=by rw[tl];simp;exact fun h=>e h.symm
    have HN2:Hid (noFd l 5):=hZq (q1i (uQ HN) e)
    clear tl e
    go_wp2
    go_round
    case rel=>exact ⟨5,by omega,HN2,by go_num⟩
    case measure=>simp[intOf]
  ·by_cases e:l=[116,101,120,116]
   ·have g1:([116,101,120,116]=s.toList)=True:=by rw[tl,e];simp
    have g2:([116,101,120,116]==s.toList)=true:=by rw[tl,e];decide
    have E:Hid (F=5):=hZq (by rw[<-uQ HF,e];exact qct)
    clear tl e HF
    go_wp2
    go_ret
    exact ⟨q0H (uQ E).symm,rfl⟩
   ·have g1:([116,101,120,116]=s.toList)=False:=by rw[tl];simp;exact fun h=>e h.symm
    have g2:([116,101,120,116]==s.toList)=false:=by rw[tl];simp;exact fun h=>e h.symm
    have HN2:Hid (noFd l 6):=hZq (q1i (uQ HN) e)
    clear tl e
    go_wp2
    go_round
    case rel=>exact ⟨6,by omega,HN2,by go_num⟩
    case measure=>simp[intOf]
  ·have E:Hid (F= -1):=hZq (by rw[<-uQ HF];exact qaC (uQ HN))
   go_wp2
   go_ret
   exact ⟨q0H (uQ E).symm,rfl⟩
open Go
def q4J {H:Type}(zs:List (List UInt8)):DataW H:= .agg (zs.map fun z=> .lit (.string z))
theorem q5a {H:Type}{enc:TypeId × Value->H}{P:Program}{w:World}{base:Nat}{sp:Nat->Bool}{held:Bool}{fuel:Nat}{t e:TypeId}{n:Nat}{cs:List Value}{zs:List (List UInt8)}{p:List MemPlace}
  (ht:P.underlying t=some (.array n e)) (he:P.underlying e=some .string) (hce:P.cellsOf e=1) (hct:P.cellsOf t=n)
  (h:DataW.trod enc P w base sp held fuel t cs=some (q4J zs,p)):cs=zs.map fun z=>Value.string ⟨z.toArray⟩:=by
 cases fuel with
 |zero=>simp[DataW.trod]at h
 |succ fuel=>
  simp only[DataW.trod,ht,hce,hct,Nat.mul_one]at h
  split at h
  ·rename_i hl
   obtain ⟨xs,hm,hx⟩:=Option.map_eq_some_iff.1 h
   have hxs:xs.map (·.1)=zs.map fun z=>(DataW.lit (.string z):DataW H):=by
    have:=congrArg Prod.fst hx
    simpa [q4J] using this
   have hxl:xs.length=n:=by simpa using Lib.mapM_length hm
   have hzl:zs.length=n:=by
    have:=congrArg List.length hxs
    simp at this
    omega
   apply List.ext_getElem?
   intro i
   by_cases hi:i<n
   ·obtain ⟨b,hb,hf⟩:=Lib.mapM_at hm i i (by simp[hi])
    obtain ⟨s,hc,rfl,_⟩:=DataW.trod_string he hf
    have h1:cs[i]?=some (.string s):=by
     have:=congrArg (·[0]?) hc
     simpa [List.getElem?_take,List.getElem?_drop] using this
    have h2:(xs.map (·.1))[i]?=some (DataW.lit (.string s.data.toList):DataW H):=by simp[hb]
    rw[hxs]at h2
    simp only[List.getElem?_map,Option.map_eq_some_iff,DataW.lit.injEq,Lit.string.injEq]at h2
    obtain ⟨z',hz',rfl⟩:=h2
    simp[h1,hz']
   ·rw[List.getElem?_eq_none (by omega),List.getElem?_eq_none (by simp;omega)]
  ·cases h
theorem q6z {P:Program}{W:World}{name:String}{zs:List (List UInt8)}{rest:List (String × DataW Unit)}{g:Nat}{t e:TypeId}{n:Nat}
  (hg:P.globalNamed name=some g) (hty:(P.globals[g]?).map (·.type)=some t) (ht:P.underlying t=some (.array n e)) (he:P.underlying e=some .string) (hce:P.cellsOf e=1) (hct:P.cellsOf t=n)
  (h:laidMet P ((name,q4J zs)::rest) W) (i:Nat):W.cell? ⟨g,i,none⟩=(zs.map fun z=>Value.string ⟨z.toArray⟩)[i]?:=by
 obtain ⟨ps,⟨g',t',cs,fuel,p,q,hg',ht',hvar,hd,_,_⟩,_⟩:=h
 obtain rfl:=Option.some.inj (hg.symm.trans hg')
 obtain rfl:=Option.some.inj (hty.symm.trans ht')
 rw[World.var?_cell hg hvar i, <-q5a ht he hce hct hd]
 simp
open Go.RowKit
theorem qbT:Tryz.prog.globalNamed "weaver/token.sets"=some 0:=by kernel_rfl
theorem qdH:(Tryz.prog.globals[0]?).map (·.type)=some 156:=by kernel_rfl
theorem gRng:Tryz.prog.globalNamed "strconv.ErrRange"=some 3:=by kernel_rfl
theorem qet:(Tryz.prog.globals[3]?).map (·.type)=some 158:=by kernel_rfl
theorem qes:(Tryz.prog.globals[5]?).map (·.type)=some 303:=by kernel_rfl
theorem gDb:Tryz.prog.globalNamed "math/bits.deBruijn64tab"=some 7:=by kernel_rfl
theorem gDbT:(Tryz.prog.globals[7]?).map (·.type)=some 309:=by kernel_rfl
theorem gFds:Tryz.prog.globalNamed "weaver/expr.fields"=some 4:=by kernel_rfl
theorem qer:(Tryz.prog.globals[4]?).map (·.type)=some 296:=by kernel_rfl
theorem qdp:Tryz.prog.cellsOf 296=6:=by kernel_rfl
theorem q7h:Tryz.prog.cellsOf 5=1:=by kernel_rfl
theorem qaj:Tryz.prog.cellsOf 30=1:=by kernel_rfl
theorem qah:Tryz.prog.cellsOf 156=128:=by kernel_rfl
theorem qc1:Tryz.prog.cellsOf 303=20:=by kernel_rfl
theorem qc2:Tryz.prog.cellsOf 309=64:=by kernel_rfl
theorem qai:Tryz.prog.cellsOf 277=1:=by kernel_rfl
theorem q5s:Tryz.prog.cellsOf 9=1:=by kernel_rfl
theorem q7m:"*"++"errors.errorString"="*errors.errorString":=by decide
theorem qdv (u:TypeId)(h:Tryz.prog.typeName? 3 u=some "*errors.errorString"):u=275:=
 typeName_ptr_named (nm:="errors.errorString") (by rw[q7m];kernel_rfl) (by kernel_rfl) (by decide) u (by rw[q7m];exact h)
def qbU:List (String × DataW Unit):=[("math/bits.deBruijn32tab",Rows.laid_math_bits_deBruijn32tab),("math/bits.deBruijn64tab",Rows.laid_math_bits_deBruijn64tab),("internal/strconv.uint64pow10",Rows.laid_internal_strconv_uint64pow10),("strconv.ErrRange",Rows.laid_strconv_ErrRange),("strconv.ErrSyntax",Rows.laid_strconv_ErrSyntax),("weaver/token.sets",Rows.laid_weaver_token_sets),("weaver/expr.fields",Rows.laid_weaver_expr_fields)]
def setsI:List Int:=[0,0,0,0,0,0,0,0,0,0,3,0,0,0,0,0,0,0,0,0,0,0,0,0,0,0,0,0,0,0,0,0,1,128,0,0,0,0,0,16,32,32,32,32,0,32,32,0,8,8,8,8,8,8,8,8,8,8,32,32,64,64,0,0,0,0,0,0,0,0,0,0,0,0,0,0,0,0,0,0,0,0,0,0,0,0,0,0,0,0,0,0,0,0,0,0,0,4,4,4,4,4,4,4,4,4,4,4,4,4,4,4,4,4,4,4,4,4,4,4,4,4,4,0,0,0,0,0]
def dbI:List Int:=[0,1,56,2,57,49,28,3,61,58,42,50,38,29,17,4,62,47,59,36,45,43,51,22,53,39,33,30,24,18,12,5,63,55,48,27,60,41,37,16,46,35,44,21,52,32,23,11,54,26,40,15,34,20,31,10,25,14,19,9,13,8,7,6]
theorem q9P: ∀i:Fin 128,setsI.getD i.val 0=((cls i.val:Nat):Int):=by decide+kernel
theorem tbE {W:World}(h0:laidMetH Tryz.prog qbU W):TbE W:=by
 have h:laidMet Tryz.prog qbU W:=h0
 have t1:=h.tail
 have hdb:Lib.TabIs Tryz.prog W "math/bits.deBruijn64tab" .u8 dbI:=Lib.tabIs_of_head gDb gDbT Tryz.underlying309 Tryz.underlying5 q7h qc2 t1
 have hlow:8<=W.heap.size:=World.block_lt_of_cell? _ _ (hdb.cell gDb 0 (by decide))
 have t2:=t1.tail
 have t3:=t2.tail
 have t5:=t3.tail.tail
 have t6:=t5.tail
 have hpow:Lib.TabIs Tryz.prog W "internal/strconv.uint64pow10" .u64 Lib.pow10Tab:=Lib.tabIs_of_head gPow qes Tryz.underlying303 Tryz.underlying30 qaj qc1 t2
 have hset:Lib.TabIs Tryz.prog W "weaver/token.sets" .u8 setsI:=Lib.tabIs_of_head qbT qdH Tryz.underlying156 Tryz.underlying5 q7h qah t5
 obtain ⟨a,s,hv,_⟩:=laid_sentinel t3 gRng qet Tryz.underlying158 qdv Tryz.underlying275 Tryz.underlying277 rfl rfl Tryz.underlying9 qai q5s
 have fd:=fun i=>q6z (zs:=fldW) gFds qer Tryz.underlying296 Tryz.underlying9 q5s qdp t6 i
 refine ⟨⟨hlow,fun i hi=>?_,hpow,⟨_,_,by simpa using World.var?_cell gRng hv 0⟩⟩,fd 0,fd 1,fd 2,fd 3,fd 4,fd 5⟩
 rw[hset.cell qbT i (by simpa [setsI] using hi),q9P ⟨i,hi⟩]
def q1e (cs:Array Value):Obj->Obj
 | .cells _ t f=> .cells cs t f
 |o=>o
def qep:Array Value:=#[.int .u8 0, .int .u8 1, .int .u8 28, .int .u8 2, .int .u8 29, .int .u8 14, .int .u8 24, .int .u8 3, .int .u8 30, .int .u8 22, .int .u8 20, .int .u8 15, .int .u8 25, .int .u8 17, .int .u8 4, .int .u8 8, .int .u8 31, .int .u8 27, .int .u8 13, .int .u8 23, .int .u8 21, .int .u8 19, .int .u8 16, .int .u8 7, .int .u8 26, .int .u8 12, .int .u8 18, .int .u8 6, .int .u8 11, .int .u8 5, .int .u8 10, .int .u8 9]
def qeq:Array Value:=(dbI.map fun z=>Value.int .u8 z).toArray
def qeH:Array Value:=(setsI.map fun z=>Value.int .u8 z).toArray
def powV:Array Value:=(Lib.pow10Tab.map fun z=>Value.int .u64 z).toArray
def fdsV:Array Value:=(fldW.map fun z=>Value.string ⟨z.toArray⟩).toArray
def q1Q:Array Obj:=#[.cells #[.string ⟨#[118,97,108,117,101,32,111,117,116,32,111,102,32,114,97,110,103,101]⟩] 277, .cells #[.string ⟨#[105,110,118,97,108,105,100,32,115,121,110,116,97,120]⟩] 277]
def putL (h:Array Obj):Array Obj:=
 ((((((h.modify 0 (q1e qeH)).modify 2 (q1e #[.iface 275 (.pointer (some ⟨14,0,none⟩))])).modify 3 (q1e #[.iface 275 (.pointer (some ⟨13,0,none⟩))])).modify 5 (q1e powV)).modify 6 (q1e qep)).modify 7 (q1e qeq)).modify 4 (q1e fdsV)
end Go.Proofs.YtcmjnlpofebbmaaGreatDoor
namespace Go.Proofs.YtcmjnlpofebbmaaGreatDoor.Mt
structure Pm where
 N:Nat
 many:Nat->Bool
 how:Nat->Int
 len:Nat
 H:Nat->List Nat->Nat->Bool
def lst (l:List Nat):Nat:=l.getLastD 0
def las (T:List (List Nat))(i:Nat):List Nat:=(T.take i).map lst
def endT (T:List (List Nat)):Nat:=lst (T.getLastD [])
def btw (P:Pm)(T:List (List Nat))(t p q:Nat):Bool:=
 decide (P.how t=3)||(if P.how t=2 then (List.range' (p+1) (q-(p+1))).all (fun r=> !P.H t (las T t) r) else decide (q=p+1))
def ext (T:List (List Nat))(t q:Nat):List (List Nat):=if t=T.length then T++[[q]] else T.dropLast++[T.getLastD []++[q]]
def cand (P:Pm)(en:Nat)(T:List (List Nat))(t:Nat):List Nat:=(List.range' (endT T+1) (en-(endT T+1))).filter fun q=>P.H t (las T t) q && btw P T t (endT T) q
def rds (P:Pm)(T:List (List Nat)):List Nat:=(if P.many (T.length-1)=true then [T.length-1] else [])++(if T.length<P.N then [T.length] else [])
def dfs (P:Pm)(en:Nat):Nat->List (List Nat)->List (List (List Nat))
 |0,_=>[]
 |f+1,T=>(if T.length=P.N then [T] else [])++(rds P T).flatMap fun t=>(cand P en T t).flatMap fun q=>dfs P en f (ext T t q)
def alg (P:Pm)(en f:Nat)(T:List (List Nat))(t:Nat):List (List (List Nat)):=(cand P en T t).flatMap fun q=>dfs P en f (ext T t q)
theorem q0L (P:Pm)(en f:Nat)(T:List (List Nat)):dfs P en (f+1) T=(if T.length=P.N then [T] else [])++(rds P T).flatMap (alg P en f T):=rfl
theorem lst_snoc (l:List Nat)(q:Nat):lst (l++[q])=q:=by unfold lst;simp
theorem endT_snoc (T:List (List Nat))(l:List Nat):endT (T++[l])=lst l:=by unfold endT;simp
theorem endT_ext (T:List (List Nat))(t q:Nat):endT (ext T t q)=q:=by
 unfold ext
 split
 ·rw[endT_snoc];rfl
 ·rw[endT_snoc,lst_snoc]
theorem ext_len {T:List (List Nat)}{t:Nat}(q:Nat)(h:t=T.length\/t+1=T.length):(ext T t q).length=t+1:=by
 unfold ext
 rcases h with h|h
 ·rw[if_pos h];simp[h]
 ·rw[if_neg (by omega)];simp;omega
theorem ext_ne (T:List (List Nat))(t q:Nat):ext T t q≠[]:=by unfold ext;split <;> simp
theorem qcM {T:List (List Nat)}{t q i:Nat}(h:t=T.length\/t+1=T.length)(hi:i<=t):las (ext T t q) i=las T i:=by
 unfold las ext
 rcases h with h|h
 ·rw[if_pos h,List.take_append_of_le_length (by omega)]
 ·rw[if_neg (by omega),List.take_append_of_le_length (by simp;omega),List.dropLast_eq_take,List.take_take]
  congr 2
  omega
theorem mem_cand {P:Pm}{en t q:Nat}{T:List (List Nat)}:q∈cand P en T t↔endT T<q/\q<en/\P.H t (las T t) q=true/\btw P T t (endT T) q=true:=by
 unfold cand
 rw[List.mem_filter,List.mem_range',Bool.and_eq_true]
 constructor
 ·rintro ⟨⟨i,hi,rfl⟩,h⟩
  exact ⟨by omega,by omega,h⟩
 ·rintro ⟨h1,h2,h⟩
  exact ⟨⟨q-(endT T+1),by omega,by omega⟩,h⟩
theorem q8R {P:Pm}{en t:Nat}{T:List (List Nat)}(h:en<=endT T+1):cand P en T t=[]:=by
 unfold cand
 rw[show en-(endT T+1)=0 by omega]
 rfl
theorem q0R {α β:Type}{l:List α}{f g:α->List β}(h: ∀a∈l,f a=g a):l.flatMap f=l.flatMap g:=by
 induction l with
 |nil=>rfl
 |cons a l ih=>rw[List.flatMap_cons,List.flatMap_cons,h a (by simp),ih (fun b hb=>h b (by simp[hb]))]
theorem qan {P:Pm}{en:Nat}: ∀(f:Nat) (T:List (List Nat)),en<=endT T+(f+1)->dfs P en (f+2) T=dfs P en (f+1) T:=by
 intro f
 induction f with
 |zero=>
  intro T h
  rw[q0L,q0L]
  congr 1
  refine q0R fun t _=>?_
  unfold alg
  rw[q8R h]
  rfl
 |succ f ih=>
  intro T h
  rw[q0L,q0L P en (f+1)]
  congr 1
  refine q0R fun t _=>?_
  unfold alg
  refine q0R fun q hq=>?_
  have:=(mem_cand.1 hq).1
  exact ih _ (by rw[endT_ext];omega)
inductive Rd (P:Pm) (en:Nat):List (List Nat)->List (List Nat)->Prop
 |refl (T:List (List Nat)):Rd P en T T
 |step {T X:List (List Nat)} {t q:Nat} (ht:t∈rds P T) (hq:q∈cand P en T t) (h:Rd P en (ext T t q) X):Rd P en T X
theorem q1x {P:Pm}{en:Nat}: ∀(f:Nat) (T X:List (List Nat)),X∈dfs P en f T->X.length=P.N/\Rd P en T X:=by
 intro f
 induction f with
 |zero=>intro T X h;cases h
 |succ f ih=>
  intro T X h
  rw[q0L,List.mem_append]at h
  rcases h with h|h
  ·split at h
   ·rename_i e
    rw[List.mem_singleton]at h
    subst h
    exact ⟨e, .refl _⟩
   ·cases h
  ·rw[List.mem_flatMap]at h
   obtain ⟨t,ht,h⟩:=h
   unfold alg at h
   rw[List.mem_flatMap]at h
   obtain ⟨q,hq,h⟩:=h
   obtain ⟨h1,h2⟩:=ih _ _ h
   exact ⟨h1, .step ht hq h2⟩
theorem q3m {P:Pm}{en:Nat}{T X:List (List Nat)}(h:Rd P en T X)(hN:X.length=P.N): ∀f,en<=endT T+(f+1)->X∈dfs P en (f+1) T:=by
 induction h with
 |refl T=>
  intro f _
  rw[q0L,if_pos hN]
  simp
 | @step T X t q ht hq h ih=>
  intro f hf
  rw[q0L,List.mem_append]
  refine Or.inr (List.mem_flatMap.2 ⟨t,ht,?_⟩)
  unfold alg
  refine List.mem_flatMap.2 ⟨q,hq,?_⟩
  have hm:=mem_cand.1 hq
  cases f with
  |zero=>omega
  |succ f=>exact ih hN f (by rw[endT_ext];omega)
theorem q4O {P:Pm}{en en' t q:Nat}{T:List (List Nat)}(h:en'<=en)(hq:q∈cand P en' T t):q∈cand P en T t:=by
 rw[mem_cand]at hq ⊢
 exact ⟨hq.1,by omega,hq.2.2⟩
theorem Rd.less {P:Pm}{en en':Nat}{T X:List (List Nat)}(h:en'<=en)(hr:Rd P en' T X):Rd P en T X:=by
 induction hr with
 |refl T=>exact .refl T
 |step ht hq _ ih=>exact .step ht (q4O h hq) ih
def Asks (P:Pm)(ask:Nat->Nat->Bool):Prop:= ∀t l l' q,l.length=l'.length->(∀i,ask t i=true->l[i]?=l'[i]?)->P.H t l q=P.H t l' q
structure Alk (ask:Nat->Nat->Bool)(t0:Nat)(T U:List (List Nat)):Prop where
 len:T.length=U.length
 fin:endT T=endT U
 ahd: ∀i,i+1<T.length-> ∀t,t0<=t->ask t i=true->(T[i]?).map lst=(U[i]?).map lst
theorem Alk.mono {ask:Nat->Nat->Bool}{t0 t1:Nat}{T U:List (List Nat)}(h:Alk ask t0 T U)(hle:t0<=t1):Alk ask t1 T U:=⟨h.len,h.fin,fun i hi t ht ha=>h.ahd i hi t (by omega) ha⟩
theorem q1P {T:List (List Nat)}(h:T≠[]):(T[T.length-1]?).map lst=some (endT T):=by
 unfold endT
 rw[<-List.getLast?_eq_getElem?,List.getLastD_eq_getLast?]
 cases hl:T.getLast? with
 |none=>exact absurd (List.getLast?_eq_none_iff.1 hl) h
 |some a=>rfl
theorem las_at {T:List (List Nat)}{t i:Nat}(hi:i<t):(las T t)[i]?=(T[i]?).map lst:=by
 unfold las
 rw[List.getElem?_map,List.getElem?_take,if_pos hi]
theorem las_len {T:List (List Nat)}{t:Nat}(h:t<=T.length):(las T t).length=t:=by unfold las;rw[List.length_map,List.length_take];omega
theorem Alk.H {P:Pm}{ask:Nat->Nat->Bool}(hA:Asks P ask){t:Nat}{T U:List (List Nat)}(h:Alk ask t T U)(h0:T≠[])(ht:t=T.length\/t+1=T.length)(q:Nat):P.H t (las T t) q=P.H t (las U t) q:=by
 have hl:=h.len
 refine hA t _ _ q (by rw[las_len (by omega),las_len (by omega)]) (fun i ha=>?_)
 by_cases hi:i<t
 ·rw[las_at hi,las_at hi]
  by_cases hlast:i+1<T.length
  ·exact h.ahd i hlast t (Nat.le_refl _) ha
  ·have h1:=q1P h0
   have h2:=q1P (T:=U) (fun e=>h0 (List.eq_nil_of_length_eq_zero (by rw[hl,e];rfl)))
   rw[show T.length-1=i by omega]at h1
   rw[show U.length-1=i by omega]at h2
   rw[h1,h2,h.fin]
 ·rw[List.getElem?_eq_none (by rw[las_len (by omega)];omega),List.getElem?_eq_none (by rw[las_len (by omega)];omega)]
theorem Alk.cand {P:Pm}{ask:Nat->Nat->Bool}(hA:Asks P ask){en t:Nat}{T U:List (List Nat)}(h:Alk ask t T U)(h0:T≠[])(ht:t=T.length\/t+1=T.length):cand P en T t=cand P en U t:=by
 have hH:=fun q=>h.H hA h0 ht q
 unfold Go.Proofs.YtcmjnlpofebbmaaGreatDoor.Mt.cand btw
 rw[h.fin]
 simp only[hH]
theorem q34 {T:List (List Nat)}{t q i:Nat}(ht:t=T.length\/t+1=T.length)(hi:i<t):(ext T t q)[i]?=T[i]?:=by
 unfold ext
 rcases ht with ht|ht
 ·rw[if_pos ht,List.getElem?_append_left (by omega)]
 ·rw[if_neg (by omega),List.getElem?_append_left (by simp;omega),List.dropLast_eq_take,List.getElem?_take,if_pos (by omega)]
theorem Alk.ext {ask:Nat->Nat->Bool}{t:Nat}{T U:List (List Nat)}(h:Alk ask t T U)(h0:T≠[])(ht:t=T.length\/t+1=T.length)(q:Nat):Alk ask t (ext T t q) (ext U t q):=by
 have hl:=h.len
 have ht':t=U.length\/t+1=U.length:=by omega
 refine ⟨by rw[ext_len q ht,ext_len q ht'],by rw[endT_ext,endT_ext],fun i hi t1 ht1 ha=>?_⟩
 rw[ext_len q ht]at hi
 rw[q34 ht (by omega),q34 ht' (by omega)]
 by_cases hlast:i+1<T.length
 ·exact h.ahd i hlast t1 ht1 ha
 ·have h1:=q1P h0
  have h2:=q1P (T:=U) (fun e=>h0 (List.eq_nil_of_length_eq_zero (by rw[hl,e];rfl)))
  rw[show T.length-1=i by omega]at h1
  rw[show U.length-1=i by omega]at h2
  rw[h1,h2,h.fin]
theorem q4y {P:Pm}{T:List (List Nat)}{t:Nat}(h0:T≠[])(h:t∈rds P T):t=T.length\/t+1=T.length:=by
 have:0<T.length:=List.length_pos_iff.2 h0
 unfold rds at h
 rw[List.mem_append]at h
 rcases h with h|h
 ·split at h
  ·rw[List.mem_singleton]at h;omega
  ·cases h
 ·split at h
  ·rw[List.mem_singleton]at h;exact Or.inl h
  ·cases h
theorem qd8 {P:Pm}{T U:List (List Nat)}(h:T.length=U.length):rds P T=rds P U:=by unfold rds;rw[h]
theorem Rd.alk {P:Pm}{ask:Nat->Nat->Bool}(hA:Asks P ask){en:Nat}{T X:List (List Nat)}(hr:Rd P en T X): ∀U,T≠[]->Alk ask (T.length-1) T U-> ∃Y,Y.length=X.length/\Rd P en U Y:=by
 induction hr with
 |refl T=>intro U _ h;exact ⟨U,h.len.symm, .refl _⟩
 | @step T X t q ht hq _ ih=>
  intro U h0 h
  have hm:=q4y h0 ht
  have hk:Alk ask t T U:=h.mono (by omega)
  obtain ⟨Y,h1,h2⟩:=ih (Go.Proofs.YtcmjnlpofebbmaaGreatDoor.Mt.ext U t q) (ext_ne _ _ _) (by rw[ext_len q hm];exact hk.ext h0 hm q)
  refine ⟨Y,h1, .step (t:=t) (q:=q) ?_ ?_ h2⟩
  ·rw[<-qd8 h.len];exact ht
  ·rw[<-hk.cand hA h0 hm];exact hq
theorem Alk.dead {P:Pm}{ask:Nat->Nat->Bool}(hA:Asks P ask){en f t:Nat}{T U:List (List Nat)}(h:Alk ask t T U)(h0:T≠[])(ht:t=T.length\/t+1=T.length)(hf:en<=endT T+(f+2))(hd:alg P en (f+1) U t=[]):alg P en (f+1) T t=[]:=by
 cases hc:alg P en (f+1) T t with
 |nil=>rfl
 |cons X l=>
  exfalso
  have hX:X∈alg P en (f+1) T t:=by rw[hc];simp
  unfold alg at hX hd
  obtain ⟨q,hq,hX⟩:=List.mem_flatMap.1 hX
  obtain ⟨h1,h2⟩:=q1x _ _ _ hX
  have hk:=h.ext h0 ht q
  obtain ⟨Y,h3,h4⟩:=h2.alk hA (Go.Proofs.YtcmjnlpofebbmaaGreatDoor.Mt.ext U t q) (ext_ne _ _ _) (by rw[ext_len q ht];exact hk)
  have hqm:=mem_cand.1 hq
  have hY:Y∈dfs P en (f+1) (Go.Proofs.YtcmjnlpofebbmaaGreatDoor.Mt.ext U t q):=q3m h4 (by rw[h3];exact h1) f (by rw[endT_ext];omega)
  have:Y∈(Go.Proofs.YtcmjnlpofebbmaaGreatDoor.Mt.cand P en U t).flatMap fun q=>dfs P en (f+1) (Go.Proofs.YtcmjnlpofebbmaaGreatDoor.Mt.ext U t q):=List.mem_flatMap.2 ⟨q,by rw[<-h.cand hA h0 ht];exact hq,hY⟩
  rw[hd]at this
  cases this
theorem qa8 {P:Pm}{en en' f f' t:Nat}{T:List (List Nat)}(hle:en'<=en)(hf:en<=endT T+(f+2))(hd:alg P en (f+1) T t=[]):alg P en' f' T t=[]:=by
 cases hc:alg P en' f' T t with
 |nil=>rfl
 |cons X l=>
  exfalso
  have hX:X∈alg P en' f' T t:=by rw[hc];simp
  unfold alg at hX hd
  obtain ⟨q,hq,hX⟩:=List.mem_flatMap.1 hX
  obtain ⟨h1,h2⟩:=q1x _ _ _ hX
  have hqm:=mem_cand.1 hq
  have:X∈(Go.Proofs.YtcmjnlpofebbmaaGreatDoor.Mt.cand P en T t).flatMap fun q=>dfs P en (f+1) (Go.Proofs.YtcmjnlpofebbmaaGreatDoor.Mt.ext T t q):=List.mem_flatMap.2 ⟨q,q4O hle hq,q3m (h2.less hle) h1 f (by rw[endT_ext];omega)⟩
  rw[hd]at this
  cases this
theorem q9s {P:Pm}{ask:Nat->Nat->Bool}(hA:Asks P ask){en f s q q':Nat}{T:List (List Nat)}(hs:s+1=T.length)(hm:P.many s=true)(hq:q∈cand P en T s)(hq':q'∈cand P en T s)(hlt:q<q')(hf:en<=q+(f+1))(hd:dfs P en (f+1) (ext T s q)=[])(f':Nat):dfs P en f' (ext T s q')=[]:=by
 cases hc:dfs P en f' (ext T s q')with
 |nil=>rfl
 |cons X l=>
  exfalso
  have hX:X∈dfs P en f' (ext T s q'):=by rw[hc];simp
  obtain ⟨h1,h2⟩:=q1x _ _ _ hX
  have a1:=mem_cand.1 hq
  have a2:=mem_cand.1 hq'
  have hth:s=T.length\/s+1=T.length:=Or.inr hs
  have hlen:(ext T s q).length=s+1:=ext_len q hth
  have hthx:s=(ext T s q).length\/s+1=(ext T s q).length:=Or.inr hlen.symm
  have h3:P.how s=3:=by
   have hb:=a2.2.2.2
   unfold btw at hb
   rw[Bool.or_eq_true]at hb
   rcases hb with hb|hb
   ·exact of_decide_eq_true hb
   ·split at hb
    ·rw[List.all_eq_true]at hb
     have:=hb q (List.mem_range'.2 ⟨q-(endT T+1),by omega,by omega⟩)
     rw[a1.2.2.1]at this
     cases this
    ·have:=of_decide_eq_true hb
     omega
  have hcand:q'∈cand P en (ext T s q) s:=by
   rw[mem_cand,endT_ext,qcM hth (Nat.le_refl _)]
   refine ⟨hlt,a2.2.1,a2.2.2.1,?_⟩
   unfold btw
   rw[h3]
   rfl
  have hrd:s∈rds P (ext T s q):=by
   unfold rds
   rw[hlen,show s+1-1=s by omega,if_pos hm]
   simp
  have hk:Alk ask ((ext T s q').length-1) (ext T s q') (ext (ext T s q) s q'):=by
   refine ⟨by rw[ext_len q' hth,ext_len q' hthx],by rw[endT_ext,endT_ext],fun i hi t _ _=>?_⟩
   rw[ext_len q' hth]at hi
   rw[q34 hth (by omega),q34 hthx (by omega),q34 hth (by omega)]
  obtain ⟨Y,h4,h5⟩:=h2.alk hA _ (ext_ne _ _ _) hk
  have:=q3m (.step hrd hcand h5) (by rw[h4];exact h1) f (by rw[endT_ext];exact hf)
  rw[hd]at this
  cases this
def q2C:Nat->List (List Nat)->List (Nat × Nat)
 |_,[]=>[]
 |n,l::r=>l.map (fun q=>(n,q))++q2C (n+1) r
def code (T:List (List Nat)):List (Nat × Nat):=q2C 0 T
theorem q81 (T:List (List Nat))(l:List Nat): ∀n,q2C n (T++[l])=q2C n T++l.map (fun q=>(n+T.length,q)):=by
 induction T with
 |nil=>intro n;simp[q2C]
 |cons a T ih=>
  intro n
  rw[List.cons_append,q2C,q2C,ih,List.append_assoc]
  congr 3
  rw[List.length_cons,show n+1+T.length=n+(T.length+1) by omega]
theorem q32 (T:List (List Nat))(l:List Nat):code (T++[l])=code T++l.map (fun q=>(T.length,q)):=by
 unfold code
 rw[q81,Nat.zero_add]
theorem q5y {T:List (List Nat)}{t q:Nat}(h0:T≠[])(ht:t=T.length\/t+1=T.length):code (ext T t q)=code T++[(t,q)]:=by
 unfold ext
 rcases ht with ht|ht
 ·rw[if_pos ht,q32,ht];rfl
 ·rw[if_neg (by omega)]
  have e:T=T.dropLast++[T.getLastD []]:=by
   rw[List.getLastD_eq_getLast?,List.getLast?_eq_some_getLast h0]
   exact (List.dropLast_concat_getLast h0).symm
  have hd:T.dropLast.length=t:=by rw[List.length_dropLast];omega
  conv=>rhs;rw[e]
  rw[q32,q32,List.map_append, <-List.append_assoc,hd]
  rfl
theorem Rd.code {P:Pm}{en:Nat}{T X:List (List Nat)}(h:Rd P en T X):T≠[]-> ∃r,code X=code T++r:=by
 induction h with
 |refl T=>intro _;exact ⟨[],by simp⟩
 | @step T X t q ht hq _ ih=>
  intro h0
  obtain ⟨r,hr⟩:=ih (ext_ne _ _ _)
  rw[q5y h0 (q4y h0 ht),List.append_assoc]at hr
  exact ⟨_,hr⟩
theorem q33 {P:Pm}{en f t q:Nat}{T X:List (List Nat)}(h0:T≠[])(ht:t∈rds P T)(h:X∈dfs P en f (ext T t q)):(Go.Proofs.YtcmjnlpofebbmaaGreatDoor.Mt.code X)[(Go.Proofs.YtcmjnlpofebbmaaGreatDoor.Mt.code T).length]?=some (t,q):=by
 obtain ⟨_,h2⟩:=q1x _ _ _ h
 obtain ⟨r,hr⟩:=h2.code (ext_ne _ _ _)
 rw[q5y h0 (q4y h0 ht)]at hr
 rw[hr]
 simp
theorem q2J {α β:Type}{l:List α}{f:α->List β}(hl:l.Nodup)(h1: ∀a∈l,(f a).Nodup)(h2: ∀a∈l, ∀b∈l,a≠b-> ∀x∈f a,x∉f b):(l.flatMap f).Nodup:=by
 induction l with
 |nil=>simp
 |cons a l ih=>
  rw[List.nodup_cons]at hl
  rw[List.flatMap_cons,List.nodup_append]
  refine ⟨h1 a (by simp),ih hl.2 (fun b hb=>h1 b (by simp[hb])) (fun b hb c hc=>h2 b (by simp[hb]) c (by simp[hc])),fun x hx y hy e=>?_⟩
  subst e
  obtain ⟨b,hb,hy⟩:=List.mem_flatMap.1 hy
  exact h2 a (by simp) b (by simp[hb]) (fun e=>hl.1 (by rw[e];exact hb)) x hx hy
theorem q9K (P:Pm){T:List (List Nat)}(h0:T≠[]):(rds P T).Nodup:=by
 have:0<T.length:=List.length_pos_iff.2 h0
 unfold rds
 split <;> split <;> simp
 omega
theorem q7Z (P:Pm)(en:Nat)(T:List (List Nat))(t:Nat):(cand P en T t).Nodup:=by
 unfold cand
 exact (List.nodup_range' (step:=1) (by omega)).filter _
theorem q8U {P:Pm}{en:Nat}: ∀(f:Nat) (T:List (List Nat)),T≠[]->(dfs P en f T).Nodup:=by
 intro f
 induction f with
 |zero=>intro T _;simp[dfs]
 |succ f ih=>
  intro T h0
  rw[q0L,List.nodup_append]
  refine ⟨by split <;> simp,?_,?_⟩
  ·refine q2J (q9K P h0) (fun t ht=>?_) (fun t ht u hu hne x hx hy=>?_)
   ·unfold alg
    refine q2J (q7Z P en T t) (fun q _=>ih _ (ext_ne _ _ _)) (fun q _ p _ hne x hx hy=>?_)
    have h1:=q33 h0 ht hx
    rw[q33 h0 ht hy]at h1
    simp only[Option.some.injEq,Prod.mk.injEq]at h1
    exact hne h1.2.symm
   ·unfold alg at hx hy
    obtain ⟨q,_,hx⟩:=List.mem_flatMap.1 hx
    obtain ⟨p,_,hy⟩:=List.mem_flatMap.1 hy
    have h1:=q33 h0 ht hx
    rw[q33 h0 hu hy]at h1
    simp only[Option.some.injEq,Prod.mk.injEq]at h1
    exact hne h1.1.symm
  ·intro x hx y hy e
   subst e
   split at hx
   ·rw[List.mem_singleton]at hx
    subst hx
    obtain ⟨t,ht,hy⟩:=List.mem_flatMap.1 hy
    unfold alg at hy
    obtain ⟨q,_,hy⟩:=List.mem_flatMap.1 hy
    have h1:=q33 h0 ht hy
    rw[List.getElem?_eq_none (Nat.le_refl _)]at h1
    cases h1
   ·cases hx
end Go.Proofs.YtcmjnlpofebbmaaGreatDoor.Mt
