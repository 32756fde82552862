import Derived.Test.YtlljggefbngkeaaGreatDoorU06
import Derived.Lib.Bytealg
import Derived.Test.YtlljggefbngkeaaGreatDoorU01
set_option maxRecDepth 100000
set_option maxHeartbeats 1600000
namespace Go.Proofs.YtlljggefbngkeaaGreatDoor
open Go.RowKit
def lU:List UInt8:=[44,48,49,50,51,52,53,54,55,56,57,58,59,61,95,97,98,99,100,101,102,103,104,105,106,107,108,109,110,111,112,113,114,115,116,117,118,119,120,121,122]
def fI (c:Int):Int:=Lib.indexByte lU c.toNat.toUInt8
theorem aA5:∀ c:Fin 256,(decide (0<=fI (c.val:Int))=bG (c.val:Int))/\fI (c.val:Int)<=40/\-1<=fI (c.val:Int):=by decide +kernel
theorem sI (c:Int) (h0:0<=c) (h1:c<=255):decide (0<=fI c)=bG c/\fI c<=40/\-1<=fI c:=by
 have:=aA5 ⟨c.toNat,by omega⟩
 simp only [Int.toNat_of_nonneg h0] at this
 exact this
theorem aA6 (s:ByteArray) (c:Int) (w:World):
  Calls Tryz.prog 190 #[.string s,.int .u8 c] w fun e w'=>e = .returned (.int .i64 (Lib.indexByte s.data.toList c.toNat.toUInt8))/\w'=w:=by
 go_enter Tryz.func190,Tryz.ntmps190
 go_wp2
 rw [run_callFunc_extern Tryz.func197 (by kernel_rfl) (by kernel_rfl) (by kernel_rfl) (e:=Extern.BytealgIndexByte.indexByte) (by kernel_rfl),Lib.run_indexByteString]
 simp only [Result.andThen]
 rw [Oper.upon_value]
 go_wp2
 go_ret
 exact ⟨rfl,rfl⟩
theorem C3 (s:ByteArray) (c:Int) (w:World):
  Calls Tryz.prog 180 #[.string s,.int .u8 c] w fun e w'=>e = .returned (.int .i64 (Lib.indexByte s.data.toList c.toNat.toUInt8))/\w'=w:=by
 go_enter Tryz.func180,Tryz.ntmps180
 go_wp2_with (go_at_call 190;refine (aA6 _ _ _).mono ?_;rintro e w' ⟨rfl,rfl⟩)
 go_ret
 exact ⟨rfl,rfl⟩
theorem qG (c:Int) (h0:0<=c) (h1:c<=255) (w:World):
  Calls Tryz.prog 201 #[.int .u8 c] w fun e w'=>e = .returned (.bool (bG c))/\w'=w:=by
 have H:=aB (C3 (aE lU) c w)
 rw [show Lib.indexByte (aE lU).data.toList c.toNat.toUInt8=fI c from by simp [aE,fI]] at H
 obtain ⟨hs,hb1,hb2⟩:=sI c h0 h1
 have Hs:=aB hs
 clear hs
 generalize fI c=x at *
 go_enter Tryz.func201,Tryz.ntmps201
 go_wp2_with fail
 refine (aA H).mono ?_
 rintro e w1 ⟨rfl,rfl⟩
 go_wp2
 go_ret
 exact ⟨by rw [← aA Hs];rfl,rfl⟩
def gF (s:ByteArray) (i:Nat):Obj := .cells #[.string s,.int .i64 i] 244 (0,0)
theorem zX {w:World} {b:Nat} {s:ByteArray} {i:Nat} (h:w.heap[b]? = some (gF s i)) (_hs:s.size<=120) (hi:i<=s.size):
  Calls Tryz.prog 205 #[.pointer (some ⟨b,0,none⟩)] w fun e w'=>e = .returned (.int .u8 (pk s i))/\∃ n,w'=w.drewN n:=by
 have c0:=aC h 0
 have c1:=aC h 1
 clear h
 simp at c0 c1
 by_cases hlt:i<s.size
 ·have hd:((i:Int)==(s.size:Int))=false:=by rw [beq_eq_false_iff_ne];omega
  go_enter Tryz.func205,Tryz.ntmps205
  go_wp2_with fail
  go_quiet (fail)
  go_wp2_with fail
  go_quiet (fail)
  go_wp2
  go_ret
  exact ⟨by simp [pk,hlt],_,World.drewN_drewN _ _ _⟩
 ·have hd:((i:Int)==(s.size:Int))=true:=by rw [beq_iff_eq];omega
  go_enter Tryz.func205,Tryz.ntmps205
  go_wp2_with fail
  go_quiet (fail)
  go_wp2
  go_ret
  exact ⟨by simp [pk,hlt],nq,rfl⟩
theorem RD {w:World} {b:Nat} {s:ByteArray} {i:Nat} (h:w.heap[b]? = some (gF s i)) (j:Nat):(w.setCell ⟨b,1,none⟩ (.int .i64 (j:Int))).heap[b]? = some (gF s j):=by
 have:=aK h 1 (.int .i64 (j:Int))
 simpa [gF] using this
theorem nB (c:Int) {w:World} {b:Nat} {s:ByteArray} {i:Nat} (h:w.heap[b]? = some (gF s i)) (hs:s.size<=120) (hi:i<=s.size) (hc:pk s i≠c):
  Calls Tryz.prog 200 #[.pointer (some ⟨b,0,none⟩),.int .u8 c] w fun e w'=>e = .returned (.bool false)/\∃ n,w'=w.drewN n:=by
 have HP:=aB (zX h hs hi)
 have hq:(pk s i != c)=true:=by rw [bne_iff_ne];exact hc
 clear h hc
 generalize pk s i=p at *
 go_enter Tryz.func200,Tryz.ntmps200
 go_wp2_with (go_at_call 205;refine (aA HP).mono ?_;rintro e w' ⟨rfl,n,rfl⟩)
 go_ret
 exact ⟨rfl,n,rfl⟩
theorem pG (c:Int) {w:World} {b:Nat} {s:ByteArray} {i:Nat} (h:w.heap[b]? = some (gF s i)) (hs:s.size<=120) (hi:i<s.size) (hc:pk s i=c):
  Calls Tryz.prog 200 #[.pointer (some ⟨b,0,none⟩),.int .u8 c] w fun e w'=>e = .returned (.bool true)/\w'.heap[b]? = some (gF s (i+1))/\w.grownBy w' (some b):=by
 have HP:=aB (zX h hs (Nat.le_of_lt hi))
 rw [hc] at HP
 have c1:=aC h 1
 have fz:=aM h 1
 have HB:=aB h
 have hq:(c != c)=false:=by simp
 clear h hc
 simp at c1
 go_enter Tryz.func200,Tryz.ntmps200
 go_wp2_with (go_at_call 205;refine (aA HP).mono ?_;rintro e w' ⟨rfl,n,rfl⟩)
 go_ret
 refine ⟨rfl,?_,(aN w n _).trans (aT _ _ _ _)⟩
 have:=RD (w:=w.drewN n) (aA HB) (i+1)
 simpa using this
theorem YZ {w:World} {b:Nat} {s:ByteArray} {i:Nat} (h:w.heap[b]? = some (gF s i)) (hs:s.size<=120) (hi:i<=s.size):
  Calls Tryz.prog 202 #[.pointer (some ⟨b,0,none⟩)] w fun e w'=>e = .returned (.bool (iK (pk s i)))/\∃ n,w'=w.drewN n:=by
 have HP:=aB (zX h hs hi)
 have hb:=O8 s i
 clear h
 generalize pk s i=p at *
 by_cases h1:p=91
 ·subst h1
  go_enter Tryz.func202,Tryz.ntmps202
  go_wp2_with (go_at_call 205;refine (aA HP).mono ?_;rintro e w' ⟨rfl,n,rfl⟩)
  go_ret
  exact ⟨rfl,n,rfl⟩
 ·by_cases h2:p=40
  ·subst h2
   go_enter Tryz.func202,Tryz.ntmps202
   go_wp2_with (go_at_call 205;refine (aA HP).mono ?_;rintro e w' ⟨rfl,n,rfl⟩)
   go_ret
   exact ⟨rfl,n,rfl⟩
  ·have q1:(p==91)=false:=by simpa using h1
   have q2:(p==40)=false:=by simpa using h2
   have HS:=aB (fun W=>qG p hb.1 hb.2 W)
   have Hat:Hid (iK p=bG p):=by show iK p=_;simp [iK,h1,h2]
   clear h1 h2
   generalize bG p=x at *
   go_enter Tryz.func202,Tryz.ntmps202
   go_wp2_with (first | (go_at_call 205;refine (aA HP).mono ?_;rintro e w' ⟨rfl,n,rfl⟩) | (go_at_call 201;refine (aA HS _).mono ?_;rintro e w2 ⟨rfl,rfl⟩))
   go_ret
   exact ⟨by rw [aA Hat];rfl,n,rfl⟩
theorem QN:∀ lo hi:Fin 41,lo.val<=hi.val->IntKind.u64.wrap (IntKind.u64.wrap (2 ^ (hi.val+1))-IntKind.u64.wrap (2 ^ lo.val))=((2 ^ (hi.val+1)-2 ^ lo.val:Nat):Int):=by decide +kernel
theorem QO:∀ lo hi i:Fin 41,lo.val<=hi.val->(2 ^ (hi.val+1)-2 ^ lo.val:Nat).testBit i.val=(decide (lo.val<=i.val)&&decide (i.val<=hi.val)):=by decide +kernel
theorem RM (a c:Int) (lo hi:Nat) (ha:fI a=lo) (hc:fI c=hi) (XF:lo<=hi) (hhi:hi<=40) (w:World):
  Calls Tryz.prog 171 #[.int .u8 a,.int .u8 c] w fun e w'=>e = .returned (.int .u64 ((2 ^ (hi+1)-2 ^ lo:Nat):Int))/\∃ n,w'=w.drewN n:=by
 have H1:=aB (fun W=>C3 (aE lU) a W)
 rw [show Lib.indexByte (aE lU).data.toList a.toNat.toUInt8=fI a from by simp [aE,fI],ha] at H1
 have H2:=aB (fun W=>C3 (aE lU) c W)
 rw [show Lib.indexByte (aE lU).data.toList c.toNat.toUInt8=fI c from by simp [aE,fI],hc] at H2
 clear ha hc
 go_enter Tryz.func171,Tryz.ntmps171
 go_wp2_with fail
 refine (aA H1 _).mono ?_
 rintro e w1 ⟨rfl,rfl⟩
 go_wp2_with fail
 refine (aA H2 _).mono ?_
 rintro e w2 ⟨rfl,rfl⟩
 have h0:(0:Int)<=(lo:Int):=by omega
 have h1:(0:Int)<=(hi:Int)+1:=by omega
 go_wp2_with fail
 go_quiet (fail)
 go_wp2
 go_ret
 have:=QN ⟨lo,by omega⟩ ⟨hi,by omega⟩ XF
 simp only at this
 exact ⟨by rw [← this];rfl,nq,rfl⟩
theorem ZM (n c:Int) (h:fI c<0) (w:World):
  Calls Tryz.prog 166 #[.int .u64 n,.int .u8 c] w fun e w'=>e = .returned (.bool false)/\w'=w:=by
 have H1:=aB (fun W=>C3 (aE lU) c W)
 rw [show Lib.indexByte (aE lU).data.toList c.toNat.toUInt8=fI c from by simp [aE,fI]] at H1
 generalize fI c=x at *
 have hx:¬ (0:Int)<=x:=by omega
 have hd:decide ((0:Int)<=x)=false:=by simpa using hx
 go_enter Tryz.func166,Tryz.ntmps166
 go_wp2_with fail
 refine (aA H1 _).mono ?_
 rintro e w1 ⟨rfl,rfl⟩
 go_wp2
 go_ret
 exact ⟨by simp,rfl⟩
theorem aAG (n i:Nat) (hn:n<2 ^ 41):(bits BinOp.and IntKind.u64 ((n:Int) / 2 ^ i) 1==1)=n.testBit i:=by
 have e:((n:Int) / 2 ^ i)=((n / 2 ^ i:Nat):Int):=by simp
 have hle:n / 2 ^ i<=n:=Nat.div_le_self _ _
 rw [e,Nat.testBit_eq_decide_div_mod_eq]
 generalize n / 2 ^ i=q at *
 rw [and_one_u64 _ (by omega) (by omega),Bool.eq_iff_iff]
 simp only [beq_iff_eq,decide_eq_true_eq]
 omega
theorem RR (n:Nat) (c:Int) (i:Nat) (hn:n<2 ^ 41) (h:fI c=i) (hi:i<=40) (w:World):
  Calls Tryz.prog 166 #[.int .u64 (n:Int),.int .u8 c] w fun e w'=>e = .returned (.bool (n.testBit i))/\w'=w:=by
 have H1:=aB (fun W=>C3 (aE lU) c W)
 rw [show Lib.indexByte (aE lU).data.toList c.toNat.toUInt8=fI c from by simp [aE,fI],h] at H1
 clear h
 have h0:(0:Int)<=(i:Int):=by omega
 have hd:decide ((0:Int)<=(i:Int))=true:=by simp
 go_enter Tryz.func166,Tryz.ntmps166
 go_wp2_with fail
 refine (aA H1 _).mono ?_
 rintro e w1 ⟨rfl,rfl⟩
 go_wp2
 go_ret
 exact ⟨by rw [← aAG n i hn];rfl,rfl⟩
def sgn (i:Nat):Nat:=(lU.getD i 0).toNat
theorem FC:∀ i j:Fin 41,decide (sgn i.val<=sgn j.val)=decide (i.val<=j.val):=by decide +kernel
theorem o9:∀ c:Fin 256,bG (c.val:Int)=true->sgn (fI (c.val:Int)).toNat=c.val/\0<=fI (c.val:Int):=by decide +kernel
theorem QS:∀ i:Fin 41,bG (sgn i.val:Int)=true/\sgn i.val<256:=by decide +kernel
def eU (n:Nat) (l:List UInt8):Prop:=n<2 ^ 41/\(∀ i,i<41->n.testBit i=l.contains (UInt8.ofNat (sgn i)))/\∀ c,c∈l->bG (c.toNat:Int)=true
theorem NI (a e x:Nat) (he:e<=256) (hx:x<256):(fK a e).contains (UInt8.ofNat x)=(decide (a<=x)&&decide (x<e)&&bG (x:Int)):=by
 rw [Bool.eq_iff_iff]
 simp only [List.contains_iff_mem,fK,List.mem_map,List.mem_filter,List.mem_range'_1,Bool.and_eq_true,decide_eq_true_eq]
 constructor
 ·rintro ⟨k,⟨⟨h1,h2⟩,h3⟩,h4⟩
  have:k=x:=by
   have:=congrArg UInt8.toNat h4
   rw [UInt8.toNat_ofNat',UInt8.toNat_ofNat'] at this
   omega
  subst this
  exact ⟨⟨h1,by omega⟩,h3⟩
 ·rintro ⟨⟨h1,h2⟩,h3⟩
  exact ⟨x,⟨⟨h1,by omega⟩,h3⟩,rfl⟩
theorem sB (a c:Int) (ha:bG a=true) (hc:bG c=true) (hac:a<=c):∃ lo hi:Nat,fI a=lo/\fI c=hi/\lo<=hi/\hi<=40/\eU (2 ^ (hi+1)-2 ^ lo) (gN a c):=by
 have ba:=lE ha
 have bc:=lE hc
 have ea:((a.toNat:Nat):Int)=a:=by omega
 have ec:((c.toNat:Nat):Int)=c:=by omega
 have ta:=o9 ⟨a.toNat,by omega⟩ (by simp only [ea];exact ha)
 have tc:=o9 ⟨c.toNat,by omega⟩ (by simp only [ec];exact hc)
 simp only [ea] at ta
 simp only [ec] at tc
 have ia:=(sI a (by omega) (by omega)).2.1
 have ic:=(sI c (by omega) (by omega)).2.1
 have hle:=FC ⟨(fI a).toNat,by omega⟩ ⟨(fI c).toNat,by omega⟩
 simp only [ta.1,tc.1] at hle
 have XF:(fI a).toNat<=(fI c).toNat:=by
  have:decide (a.toNat<=c.toNat)=true:=by simp;omega
  rw [this] at hle
  exact of_decide_eq_true hle.symm
 refine ⟨(fI a).toNat,(fI c).toNat,by omega,by omega,XF,by omega,?_,?_,?_⟩
 ·have h1:2 ^ ((fI c).toNat+1)<=2 ^ 41:=Nat.pow_le_pow_right (by decide) (by omega)
  have h2:0<2 ^ (fI a).toNat:=Nat.two_pow_pos _
  omega
 ·intro i hi
  have hs:=QS ⟨i,hi⟩
  have t1:=FC ⟨(fI a).toNat,by omega⟩ ⟨i,hi⟩
  have t2:=FC ⟨i,hi⟩ ⟨(fI c).toNat,by omega⟩
  simp only [ta.1] at t1
  simp only [tc.1] at t2
  simp only at hs
  rw [QO ⟨(fI a).toNat,by omega⟩ ⟨(fI c).toNat,by omega⟩ ⟨i,hi⟩ XF]
  simp only
  rw [gN,NI _ _ _ (by omega) hs.2,hs.1,← t1,← t2]
  simp [Nat.lt_succ_iff]
 ·intro x hx
  simp only [gN,fK,List.mem_map,List.mem_filter,List.mem_range'_1] at hx
  obtain ⟨k,⟨⟨h1,h2⟩,h3⟩,rfl⟩:=hx
  have:(UInt8.ofNat k).toNat=k:=by rw [UInt8.toNat_ofNat'];omega
  rw [this]
  exact h3
theorem MT {n m:Nat} {l k:List UInt8} (h:eU n l) (h':eU m k):eU (n ||| m) (l++k):=by
 refine ⟨Nat.or_lt_two_pow h.1 h'.1,fun i hi=>?_,fun c hc=>(List.mem_append.1 hc).elim (h.2.2 c) (h'.2.2 c)⟩
 rw [Nat.testBit_or,h.2.1 i hi,h'.2.1 i hi]
 simp
theorem iX:eU 0 []:=⟨by decide,fun i _=>by simp,fun c hc=>by cases hc⟩
theorem aGJ {n:Nat} {l:List UInt8} (h:eU n l) (c:UInt8) (w:World):
  Calls Tryz.prog 166 #[.int .u64 (n:Int),.int .u8 (c.toNat:Int)] w fun e w'=>e = .returned (.bool (l.contains c))/\w'=w:=by
 have hc:=c.toNat_lt
 have hs:=sI (c.toNat:Int) (by omega) (by omega)
 by_cases hi:fI (c.toNat:Int)<0
 ·have hno:l.contains c=false:=by
   rw [Bool.eq_false_iff]
   intro hm
   have:=h.2.2 c (by simpa using hm)
   rw [← hs.1] at this
   have:=of_decide_eq_true this
   omega
  rw [hno]
  exact ZM n _ hi w
 ·have gE:bG (c.toNat:Int)=true:=by rw [← hs.1];simp;omega
  have ht:=(o9 ⟨c.toNat,by omega⟩ gE).1
  simp only at ht
  have hb:=h.2.1 (fI (c.toNat:Int)).toNat (by omega)
  rw [ht,UInt8.ofNat_toNat] at hb
  rw [← hb]
  exact RR n _ (fI (c.toNat:Int)).toNat h.1 (by omega) (by omega) w
def uT (b:Nat) (s:ByteArray) (i:Nat) (w:World) (e:Ending) (w':World):Prop:=
 w.grownBy w' (some b)/\
 if bG (pk s i)=true then
  if pk s (i+1)=45 then
   if (bG (pk s (i+2))&&decide (pk s i<=pk s (i+2)))=true then i+3<=s.size/\w'.heap[b]? = some (gF s (i+3))/\∃ n:Nat,eU n (gN (pk s i) (pk s (i+2)))/\e = .returned (.tuple #[.int .u64 (n:Int),.bool true])
   else i+2<=s.size/\w'.heap[b]? = some (gF s (i+2))/\e = .returned (.tuple #[.int .u64 0,.bool false])
  else i+1<=s.size/\w'.heap[b]? = some (gF s (i+1))/\∃ n:Nat,eU n (gN (pk s i) (pk s i))/\e = .returned (.tuple #[.int .u64 (n:Int),.bool true])
 else w'.heap[b]? = some (gF s i)/\e = .returned (.tuple #[.int .u64 0,.bool false])
theorem aE3 {w:World} {b:Nat} {s:ByteArray} {i:Nat} (h:w.heap[b]? = some (gF s i)) (hs:s.size<=120) (hi:i<=s.size):
  Calls Tryz.prog 208 #[.pointer (some ⟨b,0,none⟩)] w fun e w'=>uT b s i w e w':=by
 have hb:=O8 s i
 have HP:=aB (zX h hs hi)
 have HS:=aB (fun W=>qG (pk s i) hb.1 hb.2 W)
 have c1:=aC h 1
 have fz:=aM h 1
 simp at c1
 have HB:=aB h
 clear h
 cases gE:bG (pk s i) with
 | false=>
  rw [gE] at HS
  have Hsg:=aB gE
  clear gE
  generalize hp:pk s i=a at *
  have Hp:=aB hp
  clear hp
  go_enter Tryz.func208,Tryz.ntmps208
  go_wp2_with (first | (go_at_call 205;refine (aA HP).mono ?_;rintro e w' ⟨rfl,n,rfl⟩) | (go_at_call 201;refine (aA HS _).mono ?_;rintro e w2 ⟨rfl,rfl⟩))
  go_ret2
  refine ⟨aN w n _,?_⟩
  rw [aA Hp,if_neg (by rw [aA Hsg];decide)]
  exact ⟨aA HB,rfl⟩
 | true=>
  rw [gE] at HS
  have hlt:=iY gE
  have HB1:Hid (∀ n,((w.drewN n).setCell ⟨b,1,none⟩ (.int .i64 ((i:Int)+1))).heap[b]? = some (gF s (i+1))):=fun n=>by
   have:=RD (w:=w.drewN n) (aA HB) (i+1)
   simpa using this
  have HG1:Hid (∀ n,w.grownBy ((w.drewN n).setCell ⟨b,1,none⟩ (.int .i64 ((i:Int)+1))) (some b)):=fun n=>(aN w n _).trans (aT _ _ _ _)
  by_cases DA:pk s (i+1)=45
  ·have iS:i+1<s.size:=bY (by rw [DA];decide)
   have HT:=aB (fun n=>pG 45 (aA HB1 n) hs iS DA)
   have hb2:=O8 s (i+2)
   have XZ:=aB (fun W=>qG (pk s (i+2)) hb2.1 hb2.2 W)
   by_cases gG:(bG (pk s (i+2))&&decide (pk s i<=pk s (i+2)))=true
   ·have NU:=gG
    simp only [Bool.and_eq_true,decide_eq_true_eq] at NU
    have fR:=iY NU.1
    rw [NU.1] at XZ
    have hge:=NU.2
    have q4:decide (pk s (i+2)<pk s i)=false:=by simp;omega
    obtain ⟨lo,hi',e1,e2,h1,h2,dO⟩:=sB (pk s i) (pk s (i+2)) gE NU.1 hge
    have HSp:=aB (fun W=>RM (pk s i) (pk s (i+2)) lo hi' e1 e2 h1 h2 W)
    have HF:Hid (uT b s i w=fun e w'=>w.grownBy w' (some b)/\(i+3<=s.size/\w'.heap[b]? = some (gF s (i+3))/\∃ n:Nat,eU n (gN (pk s i) (pk s (i+2)))/\e = .returned (.tuple #[.int .u64 (n:Int),.bool true]))):=by
     show uT b s i w=_
     funext e w'
     unfold uT
     rw [if_pos gE,if_pos DA,if_pos gG]
    have HR:=aB dO
    rw [aA HF]
    have xU:=aB (fun (W:World) (hW:W.heap[b]? = some (gF s (i+2)))=>zX hW hs iS)
    clear HF DA gE e1 e2 dO gG NU
    generalize gN (pk s i) (pk s (i+2))=u at *
    generalize pk s i=a at *
    generalize pk s (i+2)=a2 at *
    go_enter Tryz.func208,Tryz.ntmps208
    go_wp2_with (first | (go_at_call 205;refine (aA HP).mono ?_;rintro e w' ⟨rfl,n,rfl⟩) | (go_at_call 201;refine (aA HS _).mono ?_;rintro e w2 ⟨rfl,rfl⟩))
    refine (aA HT _).mono ?_
    rintro e w3 ⟨rfl,hw3,hg3⟩
    have d1:=aC hw3 1
    have df:=aM hw3 1
    simp at d1
    have HW3:=aB (And.intro hw3 hg3)
    have HP3:=aB (aA xU w3 hw3)
    clear hw3 hg3
    go_wp2_with fail
    refine (aA HP3).mono ?_
    rintro e w4 ⟨rfl,n4,rfl⟩
    go_wp2_with (go_at_call 201;refine (aA XZ _).mono ?_;rintro e w5 ⟨rfl,rfl⟩)
    refine (aA HSp _).mono ?_
    rintro e w6 ⟨rfl,n6,rfl⟩
    go_wp2
    go_ret2
    refine ⟨?_,fR,?_,_,aA HR,rfl⟩
    ·have h1:=((aA HG1 n).trans (aA HW3).2).trans ((aN w3 n4 _).trans (aT _ b 1 (.int .i64 ((i:Int)+1+1+1))))
     exact h1.trans (aN _ n6 _)
    ·have:=RD (w:=w3.drewN n4) (aA HW3).1 (i+3)
     rw [show (((i+3:Nat):Int))=(i:Int)+1+1+1 by omega] at this
     exact this
   ·have HF:Hid (uT b s i w=fun e w'=>w.grownBy w' (some b)/\(i+2<=s.size/\w'.heap[b]? = some (gF s (i+2))/\e = .returned (.tuple #[.int .u64 0,.bool false]))):=by
     show uT b s i w=_
     funext e w'
     unfold uT
     rw [if_pos gE,if_pos DA,if_neg gG]
    rw [aA HF]
    have xU:=aB (fun (W:World) (hW:W.heap[b]? = some (gF s (i+2)))=>zX hW hs iS)
    have sN:bG (pk s (i+2))=false\/(bG (pk s (i+2))=true/\pk s (i+2)<pk s i):=by
     cases hx:bG (pk s (i+2)) with
     | false=>exact Or.inl rfl
     | true=>
      right
      rw [hx] at gG
      simp at gG
      exact ⟨rfl,by omega⟩
    clear HF DA gE gG
    generalize pk s i=a at *
    generalize pk s (i+2)=a2 at *
    rcases sN with hx | ⟨hx,aH2⟩
    ·rw [hx] at XZ
     clear hx
     go_enter Tryz.func208,Tryz.ntmps208
     go_wp2_with (first | (go_at_call 205;refine (aA HP).mono ?_;rintro e w' ⟨rfl,n,rfl⟩) | (go_at_call 201;refine (aA HS _).mono ?_;rintro e w2 ⟨rfl,rfl⟩))
     refine (aA HT _).mono ?_
     rintro e w3 ⟨rfl,hw3,hg3⟩
     have HP3:=aB (aA xU w3 hw3)
     go_wp2_with fail
     refine (aA HP3).mono ?_
     rintro e w4 ⟨rfl,n4,rfl⟩
     go_wp2_with (go_at_call 201;refine (aA XZ _).mono ?_;rintro e w5 ⟨rfl,rfl⟩)
     go_ret2
     exact ⟨((aA HG1 n).trans hg3).trans (aN _ _ _),iS,hw3,rfl⟩
    ·rw [hx] at XZ
     clear hx
     have q4:decide (a2<a)=true:=by simpa using aH2
     go_enter Tryz.func208,Tryz.ntmps208
     go_wp2_with (first | (go_at_call 205;refine (aA HP).mono ?_;rintro e w' ⟨rfl,n,rfl⟩) | (go_at_call 201;refine (aA HS _).mono ?_;rintro e w2 ⟨rfl,rfl⟩))
     refine (aA HT _).mono ?_
     rintro e w3 ⟨rfl,hw3,hg3⟩
     have HP3:=aB (aA xU w3 hw3)
     go_wp2_with fail
     refine (aA HP3).mono ?_
     rintro e w4 ⟨rfl,n4,rfl⟩
     go_wp2_with (go_at_call 201;refine (aA XZ _).mono ?_;rintro e w5 ⟨rfl,rfl⟩)
     go_ret2
     exact ⟨((aA HG1 n).trans hg3).trans (aN _ _ _),iS,hw3,rfl⟩
  ·have HT:=aB (fun n=>nB 45 (aA HB1 n) hs hlt DA)
   obtain ⟨lo,hi',e1,e2,h1,h2,dO⟩:=sB (pk s i) (pk s i) gE gE (Int.le_refl _)
   have HSp:=aB (fun W=>RM (pk s i) (pk s i) lo hi' e1 e2 h1 h2 W)
   have HF:Hid (uT b s i w=fun e w'=>w.grownBy w' (some b)/\(i+1<=s.size/\w'.heap[b]? = some (gF s (i+1))/\∃ n:Nat,eU n (gN (pk s i) (pk s i))/\e = .returned (.tuple #[.int .u64 (n:Int),.bool true]))):=by
    show uT b s i w=_
    funext e w'
    unfold uT
    rw [if_pos gE,if_neg DA]
   have HR:=aB dO
   rw [aA HF]
   clear HF DA gE e1 e2 dO
   generalize gN (pk s i) (pk s i)=u at *
   generalize pk s i=a at *
   go_enter Tryz.func208,Tryz.ntmps208
   go_wp2_with (first | (go_at_call 205;refine (aA HP).mono ?_;rintro e w' ⟨rfl,n,rfl⟩) | (go_at_call 201;refine (aA HS _).mono ?_;rintro e w2 ⟨rfl,rfl⟩) | (go_at_call 200;refine (aA HT _).mono ?_;rintro e w3 ⟨rfl,n3,rfl⟩))
   refine (aA HSp _).mono ?_
   rintro e w4 ⟨rfl,n4,rfl⟩
   go_wp2
   go_ret2
   refine ⟨?_,hlt,?_,_,aA HR,rfl⟩
   ·exact (aA HG1 n).trans (aN _ _ _)
   ·exact aA HB1 n
def vG (kind:Int) (n:Nat) (v:Value):Obj := .cells #[.int .i64 kind,.int .u64 (n:Int),v] 214 (0,0)
def bD (gs:List Nat):List Value:=gs.map fun g:Nat => .pointer (some ⟨g,0,none⟩)
def PV (w:World) (Y:Nat->Prop) (v:Value) (gs:List Nat):Prop:=w.ownsRow 0 116 1 v gs.length (bD gs)/\∀ k,v.ownBlock=some k->¬ Y k
def kV (c:Int):Int:=if c=42 then 3 else if c=43 then 4 else 5
mutual
def TR (w:World) (Y:Nat->Prop):PT->Nat->Prop
 | .chr l,g=>¬ Y g/\∃ n,eU n l/\w.heap[g]? = some (vG 0 n (.slice none 0 0))
 | .seq l,g=>¬ Y g/\∃ v gs,w.heap[g]? = some (vG 1 0 v)/\PV w Y v gs/\dN w Y l gs
 | .alt l,g=>¬ Y g/\∃ v gs,w.heap[g]? = some (vG 2 0 v)/\PV w Y v gs/\dN w Y l gs
 | .rep c t,g=>¬ Y g/\∃ v g',w.heap[g]? = some (vG (kV c) 0 v)/\PV w Y v [g']/\TR w Y t g'
def dN (w:World) (Y:Nat->Prop):List PT->List Nat->Prop
 | [],[]=>True
 | t::l,g::gs=>TR w Y t g/\dN w Y l gs
 | _,_=>False
end
theorem PV.kept {w w':World} {Y:Nat->Prop} {v:Value} {gs:List Nat} (h:PV w Y v gs) (hk:∀ k,k<w.heap.size->¬ Y k->w'.heap[k]? = w.heap[k]?):PV w' Y v gs:=
 ⟨aI h.1 fun k e=>hk k (aJ h.1 k e) (h.2 k e),h.2⟩
theorem PV.reY {w:World} {Y Z:Nat->Prop} {v:Value} {gs:List Nat} (h:PV w Y v gs) (hZ:∀ k,k<w.heap.size->Z k->Y k):PV w Z v gs:=
 ⟨h.1,fun k e hz=>h.2 k e (hZ k (aJ h.1 k e) hz)⟩
mutual
theorem TR.kept {w w':World} {Y:Nat->Prop} (hk:∀ k,k<w.heap.size->¬ Y k->w'.heap[k]? = w.heap[k]?):∀ {t:PT} {g:Nat},TR w Y t g->TR w' Y t g
 | .chr l,g,h=>by
  rw [TR] at *
  obtain ⟨h0,n,h1,h2⟩:=h
  exact ⟨h0,n,h1,(hk g (aD h2) h0).trans h2⟩
 | .seq l,g,h=>by
  rw [TR] at *
  obtain ⟨h0,v,gs,h1,h2,h3⟩:=h
  exact ⟨h0,v,gs,(hk g (aD h1) h0).trans h1,h2.kept hk,dN.kept hk h3⟩
 | .alt l,g,h=>by
  rw [TR] at *
  obtain ⟨h0,v,gs,h1,h2,h3⟩:=h
  exact ⟨h0,v,gs,(hk g (aD h1) h0).trans h1,h2.kept hk,dN.kept hk h3⟩
 | .rep c t,g,h=>by
  rw [TR] at *
  obtain ⟨h0,v,g',h1,h2,h3⟩:=h
  exact ⟨h0,v,g',(hk g (aD h1) h0).trans h1,h2.kept hk,TR.kept hk h3⟩
theorem dN.kept {w w':World} {Y:Nat->Prop} (hk:∀ k,k<w.heap.size->¬ Y k->w'.heap[k]? = w.heap[k]?):∀ {l:List PT} {gs:List Nat},dN w Y l gs->dN w' Y l gs
 | [],[],_=>by rw [dN];trivial
 | t::l,g::gs,h=>by rw [dN] at *;exact ⟨TR.kept hk h.1,dN.kept hk h.2⟩
 | [],k::ks,h=>by simp [dN] at h
 | t::l,[],h=>by simp [dN] at h
end
mutual
theorem TR.reY {w:World} {Y Z:Nat->Prop} (hZ:∀ k,k<w.heap.size->Z k->Y k):∀ {t:PT} {g:Nat},TR w Y t g->TR w Z t g
 | .chr l,g,h=>by
  rw [TR] at *
  obtain ⟨h0,n,h1,h2⟩:=h
  exact ⟨fun hz=>h0 (hZ g (aD h2) hz),n,h1,h2⟩
 | .seq l,g,h=>by
  rw [TR] at *
  obtain ⟨h0,v,gs,h1,h2,h3⟩:=h
  exact ⟨fun hz=>h0 (hZ g (aD h1) hz),v,gs,h1,h2.reY hZ,dN.reY hZ h3⟩
 | .alt l,g,h=>by
  rw [TR] at *
  obtain ⟨h0,v,gs,h1,h2,h3⟩:=h
  exact ⟨fun hz=>h0 (hZ g (aD h1) hz),v,gs,h1,h2.reY hZ,dN.reY hZ h3⟩
 | .rep c t,g,h=>by
  rw [TR] at *
  obtain ⟨h0,v,g',h1,h2,h3⟩:=h
  exact ⟨fun hz=>h0 (hZ g (aD h1) hz),v,g',h1,h2.reY hZ,TR.reY hZ h3⟩
theorem dN.reY {w:World} {Y Z:Nat->Prop} (hZ:∀ k,k<w.heap.size->Z k->Y k):∀ {l:List PT} {gs:List Nat},dN w Y l gs->dN w Z l gs
 | [],[],_=>by rw [dN];trivial
 | t::l,g::gs,h=>by rw [dN] at *;exact ⟨TR.reY hZ h.1,dN.reY hZ h.2⟩
 | [],k::ks,h=>by simp [dN] at h
 | t::l,[],h=>by simp [dN] at h
end
structure Loc (T:World->(Nat->Prop)->Prop):Prop where
 kept:∀ {w w':World} {Y:Nat->Prop},(∀ k,k<w.heap.size->¬ Y k->w'.heap[k]? = w.heap[k]?)->T w Y->T w' Y
 reY:∀ {w:World} {Y Z:Nat->Prop},(∀ k,k<w.heap.size->Z k->Y k)->T w Y->T w Z
theorem TR.loc (t:PT) (g:Nat):Loc (fun w Y=>TR w Y t g):=⟨fun hk h=>TR.kept hk h,fun hZ h=>TR.reY hZ h⟩
theorem dN.loc (l:List PT) (gs:List Nat):Loc (fun w Y=>dN w Y l gs):=⟨fun hk h=>dN.kept hk h,fun hZ h=>dN.reY hZ h⟩
def uU (b:Nat) (s:ByteArray) (w:World) (e:Ending) (w':World):cN PT->Prop
 | .ok t j=>j<=s.size/\w.grownBy w' (some b)/\w'.heap[b]? = some (gF s j)/\∃ g,e = .returned (.pointer (some ⟨g,0,none⟩))/\TR w' (fun k=>k<w.heap.size) (nf t) g
 | .err p=>p<=s.size/\w.grownBy w' (some b)/\w'.heap[b]? = some (gF s p)/\e = .returned (.pointer none)
def DX (w:World) (b:Nat) (s:ByteArray) (i:Nat) (r:cN (List UInt8)) (gk:Nat) (wv:World):Prop:=
 ∃ j l n m,i<=j/\j<=s.size/\s.size-j<gk/\s.size-j<m/\r=cQ s m j l/\eU n l/\w.grownBy wv (some b)/\wv.heap[b]? = some (gF s j)/\wv.heap[w.heap.size]? = some (vG 0 n (.slice none 0 0))
theorem aBY {w:World} {b:Nat} {s:ByteArray} {i:Nat} (h:w.heap[b]? = some (gF s i)) (hs:s.size<=120) (hi:i<=s.size) (n:Nat) (hn:s.size-i<n):
  Calls Tryz.prog 206 #[.pointer (some ⟨b,0,none⟩)] w fun e w'=>uU b s w e w' ((cQ s n i []).map .chr):=by
 generalize hr:cQ s n i []=r
 have hbl:=aD h
 have H0:Hid (DX w b s i r (s.size-i+1) (w.alloc (vG 0 0 (.slice none 0 0)))):=⟨i,[],0,n,Nat.le_refl _,hi,by omega,hn,hr.symm,iX,World.grownBy_alloc _ _ _,heap_alloc_old _ h,heap_alloc_new w _⟩
 clear h hr hn
 go_enter Tryz.func206,Tryz.ntmps206
 go_wp2_with fail
 go_loopg [4] (s.size-i+1) (fun gk _ wv=>DX w b s i r gk wv)
 case atStart=>exact aA H0
 case round=>
  clear H0
  obtain ⟨j,l,n,m,kD,hj,fW,hm,hr,sJ,hg,yV,uD⟩:=hrel
  obtain ⟨m,rfl⟩:∃ m',m=m'+1:=⟨m-1,by omega⟩
  have HS:=aB (aE3 yV hs hj)
  have HF:=aB (And.intro hr (And.intro sJ (And.intro hg uD)))
  clear hr sJ hg uD yV
  go_wp2_with fail
  refine (aA HS).mono ?_
  rintro e w2 ⟨hg2,cH⟩
  have aA7:w2.heap[w.heap.size]? = some (vG 0 n (.slice none 0 0)):=(hg2.block w.heap.size (aD (aA HF).2.2.2) (by simp;omega)).trans (aA HF).2.2.2
  have yY:=(aA HF).2.2.1.trans hg2
  have C6:(∃ p,r = .err p/\p<=s.size/\w2.heap[b]? = some (gF s p)/\e = .returned (.tuple #[.int .u64 0,.bool false]))\/
    (∃ nj n' u,j<nj/\nj<=s.size/\eU n' u/\(r=if pk s nj=93 then .ok (l++u) (nj+1) else cQ s m nj (l++u))/\w2.heap[b]? = some (gF s nj)/\e = .returned (.tuple #[.int .u64 (n':Int),.bool true])):=by
   have hr:=(aA HF).1
   by_cases h1:bG (pk s j)=true
   ·rw [if_pos h1] at cH
    by_cases h2:pk s (j+1)=45
    ·rw [if_pos h2] at cH
     by_cases h3:(bG (pk s (j+2))&&decide (pk s j<=pk s (j+2)))=true
     ·rw [if_pos h3] at cH
      obtain ⟨h4,h5,n',h6,h7⟩:=cH
      simp only [Bool.and_eq_true,decide_eq_true_eq] at h3
      rw [F6 s m j l h1 h2 h3.1 h3.2] at hr
      exact Or.inr ⟨j+3,n',_,by omega,h4,h6,hr,h5,h7⟩
     ·rw [if_neg h3] at cH
      rw [cQ,if_pos h1,if_pos h2,if_neg h3] at hr
      exact Or.inl ⟨j+2,hr,cH.1,cH.2.1,cH.2.2⟩
    ·rw [if_neg h2] at cH
     obtain ⟨h4,h5,n',h6,h7⟩:=cH
     rw [F7 s m j l h1 h2] at hr
     exact Or.inr ⟨j+1,n',_,by omega,h4,h6,hr,h5,h7⟩
   ·rw [if_neg h1] at cH
    rw [R4 s m j l (by simpa using h1)] at hr
    exact Or.inl ⟨j,hr,hj,cH.1,cH.2⟩
  clear cH
  rcases C6 with ⟨p,hr,hp,hqp,rfl⟩ | ⟨nj,n',u,hnj,aEQ,TL,hr,hqn,rfl⟩
  ·have Hr:=aB hr
   clear hr
   go_wp2
   go_ret
   rw [aA Hr]
   exact ⟨hp,yY,hqp,rfl⟩
  ·have c1:=aC aA7 1
   have f1:=aM aA7 1
   have hor:bits .or .u64 (n:Int) (n':Int)=((n ||| n':Nat):Int):=bits_or_u64_nat n n' (by have:=(aA HF).2.1.1;omega) (by have:=TL.1;omega)
   have Q6:=MT (aA HF).2.1 TL
   have GQ:(w2.setCell ⟨w.heap.size,1,none⟩ (.int .u64 ((n ||| n':Nat):Int))).heap[w.heap.size]? = some (vG 0 (n ||| n') (.slice none 0 0)):=by
    have:=aK aA7 1 (.int .u64 ((n ||| n':Nat):Int))
    simpa [vG] using this
   have GP:(w2.setCell ⟨w.heap.size,1,none⟩ (.int .u64 ((n ||| n':Nat):Int))).heap[b]? = some (gF s nj):=(Below.heap_setCell _ _ _ _ (by show b≠w.heap.size;omega)).trans hqn
   have L8:w.grownBy (w2.setCell ⟨w.heap.size,1,none⟩ (.int .u64 ((n ||| n':Nat):Int))) (some b):=by
    refine ⟨yY.os,yY.tape,yY.output,by simpa [World.setCell] using yY.size,fun k hk hne=>?_⟩
    rw [Below.heap_setCell _ _ _ _ (by show k≠w.heap.size;omega)]
    exact yY.block k hk hne
   have HR:=aB (And.intro hr (And.intro Q6 (And.intro GQ L8)))
   simp at c1
   clear hr Q6 TL GQ L8 aA7 hqn yY hg2
   generalize n ||| n'=nn at *
   by_cases QC:pk s nj=93
   ·have V9:nj<s.size:=bY (by rw [QC];decide)
    have HT:=aB (pG 93 GP hs V9 QC)
    have HR2:=aB (aA HR)
    rw [if_pos QC] at HR2
    clear QC GP
    go_wp2_with fail
    refine (aA HT).mono ?_
    rintro e w4 ⟨rfl,h4,g4⟩
    go_wp2
    go_ret
    obtain ⟨hr,Q6,GQ,L8⟩:=aA HR2
    rw [hr]
    refine ⟨V9,L8.trans g4,h4,w.heap.size,rfl,?_⟩
    rw [nf,TR]
    exact ⟨Nat.lt_irrefl _,nn,Q6,(g4.block w.heap.size (aD GQ) (by simp;omega)).trans GQ⟩
   ·have HT:=aB (nB 93 GP hs aEQ QC)
    have HR2:=aB (And.intro GP (aA HR))
    rw [if_neg QC] at HR2
    clear QC GP
    go_wp2_with fail
    refine (aA HT).mono ?_
    rintro e w4 ⟨rfl,n4,rfl⟩
    go_wp2_with fail
    go_roundg (s.size-j)
    case measure=>exact fW
    case rel=>
     obtain ⟨GP,hr,Q6,GQ,L8⟩:=aA HR2
     exact ⟨nj,l++u,nn,m,by omega,aEQ,by omega,by omega,hr,Q6,L8.trans (aN _ _ _),GP,GQ⟩
def tB (s:ByteArray) (b i0:Nat):Prop:=
 ∀ (w:World) (i:Nat),i0<=i->w.heap[b]? = some (gF s i)->i<=s.size->∀ n,4*(s.size-i)+4<=n->
  Calls Tryz.prog 195 #[.pointer (some ⟨b,0,none⟩)] w fun e w'=>uU b s w e w' ((cI s n i).map .alt)
def zL (s:ByteArray) (b i0:Nat):Prop:=
 ∀ (w:World) (i:Nat),i0<=i->w.heap[b]? = some (gF s i)->i<=s.size->iK (pk s i)=true->∀ n,4*(s.size-i)+2<=n->
  Calls Tryz.prog 203 #[.pointer (some ⟨b,0,none⟩)] w fun e w'=>uU b s w e w' (dX s n i)
theorem bE {w w':World} {b:Nat} (hg:w.grownBy w' (some b)) (k:Nat) (hk:k<w.heap.size) (hne:k≠b):w'.heap[k]? = w.heap[k]? := hg.block k hk (by simp;exact hne)
theorem uU.from_ {b:Nat} {s:ByteArray} {w w1:World} {e:Ending} {w':World} {r:cN PT} (hg:w.grownBy w1 (some b)) (h:uU b s w1 e w' r):uU b s w e w' r:=by
 cases r with
 | ok t j=>
  obtain ⟨h1,h2,h3,g,h4,h5⟩:=h
  exact ⟨h1,hg.trans h2,h3,g,h4,TR.reY (fun k _ hk=>Nat.lt_of_lt_of_le hk hg.size) h5⟩
 | err p=>
  obtain ⟨h1,h2,h3,h4⟩:=h
  exact ⟨h1,hg.trans h2,h3,h4⟩
theorem FJ {w:World} {b:Nat} {s:ByteArray} {i n:Nat} (h:w.heap[b]? = some (gF s i)) (hs:s.size<=120) (hi:i<=s.size) (L6:tB s b i) (hn:4*(s.size-i)+4<=n):
  Calls Tryz.prog 207 #[.pointer (some ⟨b,0,none⟩)] w fun e w'=>uU b s w e w' ((cI s n i).bind fun l j=>if pk s j=41 then .ok (.alt l) (j+1) else .err j):=by
 have HP:=aB (L6 w i (Nat.le_refl _) h hi n hn)
 generalize dF:((cI s n i).bind fun l j=>if pk s j=41 then cN.ok (PT.alt l) (j+1) else cN.err j)=rr
 have hbl:=aD h
 clear h L6
 go_enter Tryz.func207,Tryz.ntmps207
 go_wp2_with fail
 refine (aA HP).mono ?_
 rintro e w1 oV
 cases hg:cI s n i with
 | err p=>
  rw [hg] at oV
  obtain ⟨hp,hg1,mB,rfl⟩:=oV
  rw [hg] at dF
  have HR:=aB dF
  clear hg HP dF
  go_wp2
  go_ret
  rw [← aA HR]
  exact ⟨hp,hg1,mB,rfl⟩
 | ok l j=>
  rw [hg] at oV
  obtain ⟨hj,hg1,mB,g,rfl,hT⟩:=oV
  have HT:=aB hT
  rw [hg] at dF
  simp only [cN.bind] at dF
  clear hg HP hT
  by_cases lO:pk s j=41
  ·have jY:j<s.size:=bY (by rw [lO];decide)
   have HTk:=aB (pG 41 mB hs jY lO)
   rw [if_pos lO] at dF
   have HR:=aB dF
   clear lO dF
   go_wp2_with fail
   refine (aA HTk).mono ?_
   rintro e w2 ⟨rfl,cH,hg2⟩
   go_wp2
   go_ret
   rw [← aA HR]
   refine ⟨jY,hg1.trans hg2,cH,g,rfl,?_⟩
   exact TR.kept (fun k hk hy=>bE hg2 k hk (fun e=>hy (by show k<w.heap.size;omega))) (aA HT)
  ·have HTk:=aB (nB 41 mB hs hj lO)
   rw [if_neg lO] at dF
   have HR:=aB dF
   clear lO dF
   go_wp2_with fail
   refine (aA HTk).mono ?_
   rintro e w2 ⟨rfl,n2,rfl⟩
   go_wp2
   go_ret
   rw [← aA HR]
   exact ⟨hj,hg1.trans (aN _ _ _),mB,rfl⟩
def VY (a:Int) (w:World) (e:Ending) (w':World):Prop:=∃ g,e = .returned (.pointer (some ⟨g,0,none⟩))/\w.grownBy w' none/\TR w' (fun k=>k<w.heap.size) (.chr [UInt8.ofNat a.toNat]) g
theorem aBA (a:Int) (gE:bG a=true) (w:World):Calls Tryz.prog 158 #[.int .u8 a] w fun e w'=>VY a w e w':=by
 obtain ⟨lo,hi',e1,e2,h1,h2,dO⟩:=sB a a gE gE (Int.le_refl _)
 have HSp:=aB (fun W=>RM a a lo hi' e1 e2 h1 h2 W)
 have hu:gN a a=[UInt8.ofNat a.toNat]:=by
  have hb:=lE gE
  rw [gN,yD _ _ (Nat.le_refl _) (by rw [show ((a.toNat:Nat):Int)=a by omega];exact gE),uY]
  rfl
 rw [hu] at dO
 have HR:=aB dO
 clear gE e1 e2 dO hu
 go_enter Tryz.func158,Tryz.ntmps158
 go_wp2_with fail
 refine (aA HSp _).mono ?_
 rintro e w3 ⟨rfl,n3,rfl⟩
 go_wp2
 go_ret
 refine ⟨w.heap.size,rfl,(aN w n3 none).trans (World.grownBy_alloc _ _ _),?_⟩
 rw [TR]
 exact ⟨Nat.lt_irrefl _,_,aA HR,heap_alloc_new (w.drewN n3) _⟩
theorem RF {s:ByteArray} {b i0:Nat} (hs:s.size<=120) (L6:tB s b (i0+1)):zL s b i0:=by
 intro w i h0 h hi hat n hn
 obtain ⟨n,rfl⟩:∃ m,n=m+1:=⟨n-1,by omega⟩
 have hbl:=aD h
 by_cases X8:pk s i=91
 ·have hlt:i<s.size:=bY (by rw [X8];decide)
  have HT:=aB (pG 91 h hs hlt X8)
  have HG:=aB (e7 s n i X8)
  clear h hat X8 L6
  go_enter Tryz.func203,Tryz.ntmps203
  go_wp2_with fail
  refine (aA HT).mono ?_
  rintro e w1 ⟨rfl,mB,hg1⟩
  go_wp2_with fail
  refine (aBY mB hs hlt n (by omega)).mono ?_
  rintro e w2 fN
  rw [← aA HG] at fN
  have he:∃ a,e = .returned (.pointer a):=by
   cases hg:dX s (n+1) i with
   | ok t j=>rw [hg] at fN;obtain ⟨_,_,_,g,he,_⟩:=fN;exact ⟨_,he⟩
   | err p=>rw [hg] at fN;exact ⟨_,fN.2.2.2⟩
  obtain ⟨a,rfl⟩:=he
  have xU:=aB fN
  clear fN
  go_wp2
  go_ret
  exact uU.from_ hg1 (aA xU)
 ·by_cases lX:pk s i=40
  ·have hlt:i<s.size:=bY (by rw [lX];decide)
   have zN:=aB (nB 91 h hs hi X8)
   have HT:=aB (fun n=>pG 40 (w:=w.drewN n) h hs hlt lX)
   have HG:=aB (oP s n i lX)
   have Hpat:=aB L6
   clear h hat X8 lX L6
   go_enter Tryz.func203,Tryz.ntmps203
   go_wp2_with fail
   refine (aA zN).mono ?_
   rintro e w0 ⟨rfl,n0,rfl⟩
   go_wp2_with fail
   refine (aA HT _).mono ?_
   rintro e w1 ⟨rfl,mB,hg1⟩
   go_wp2_with fail
   refine (FJ (n:=n) mB hs hlt (fun w i' hi'=>aA Hpat w i' (by omega)) (by omega)).mono ?_
   rintro e w2 fN
   rw [← aA HG] at fN
   have he:∃ a,e = .returned (.pointer a):=by
    cases hg:dX s (n+1) i with
    | ok t j=>rw [hg] at fN;obtain ⟨_,_,_,g,he,_⟩:=fN;exact ⟨_,he⟩
    | err p=>rw [hg] at fN;exact ⟨_,fN.2.2.2⟩
   obtain ⟨a,rfl⟩:=he
   have xU:=aB fN
   clear fN
   go_wp2
   go_ret
   exact uU.from_ ((aN w n0 _).trans hg1) (aA xU)
  ·have gE:bG (pk s i)=true:=by
    simp [iK,X8,lX] at hat
    exact hat
   have hlt:=iY gE
   have zN:=aB (nB 91 h hs hi X8)
   have XY:=aB (fun n=>nB 40 (w:=w.drewN n) h hs hi lX)
   have HP:=aB (fun n=>zX (w:=w.drewN n) h hs hi)
   have HSg:=aB (fun W=>aBA (pk s i) gE W)
   have HG:=aB (G7 s n i gE)
   have c1:=aC h 1
   have fz:=aM h 1
   simp at c1
   have HB:=aB h
   clear h hat X8 lX L6 gE
   generalize pk s i=a at *
   go_enter Tryz.func203,Tryz.ntmps203
   go_wp2_with fail
   refine (aA zN).mono ?_
   rintro e w0 ⟨rfl,n0,rfl⟩
   go_wp2_with fail
   refine (aA XY _).mono ?_
   rintro e w1 ⟨rfl,n1,rfl⟩
   rw [World.drewN_drewN]
   go_wp2_with fail
   refine (aA HP _).mono ?_
   rintro e w2 ⟨rfl,n2,rfl⟩
   go_wp2_with fail
   refine (aA HSg _).mono ?_
   rintro e w3 ⟨g,rfl,hg3,K4⟩
   go_wp2
   go_ret
   rw [aA HG]
   have hb1:((w.drewN (n0+n1+n2)).setCell ⟨b,1,none⟩ (.int .i64 ((i:Int)+1))).heap[b]? = some (gF s (i+1)):=by
    have:=RD (w:=w.drewN (n0+n1+n2)) (aA HB) (i+1)
    simpa using this
   have hg0:w.grownBy ((w.drewN (n0+n1+n2)).setCell ⟨b,1,none⟩ (.int .i64 ((i:Int)+1))) (some b):=(aN w _ _).trans (aT _ _ _ _)
   have hg1:w.grownBy w3 (some b):=hg0.andThen hg3 (fun k e=>by cases e)
   refine ⟨hlt,hg1,(hg3.block b (aD hb1) (by simp)).trans hb1,g,rfl,?_⟩
   rw [nf]
   exact TR.reY (fun k _ hk=>Nat.lt_of_lt_of_le hk hg0.size) K4
def s9 (b:Nat) (s:ByteArray) (w:World) (Y:Nat->Prop) (t:PT) (j:Nat) (e:Ending) (w':World):Prop:=
 (gZ s t j).2<=s.size/\w.grownBy w' (some b)/\w'.heap[b]? = some (gF s (gZ s t j).2)/\∃ g,e = .returned (.pointer (some ⟨g,0,none⟩))/\TR w' Y (nf (gZ s t j).1) g
theorem MX {w:World} {b:Nat} {s:ByteArray} {j g:Nat} {Y:Nat->Prop} {t:PT} (h:w.heap[b]? = some (gF s j)) (hs:s.size<=120) (hj:j<=s.size) (hT:TR w Y (nf t) g) (hY:∀ k,Y k->k<w.heap.size) (hb:Y b):
  Calls Tryz.prog 204 #[.pointer (some ⟨b,0,none⟩),.pointer (some ⟨g,0,none⟩)] w fun e w'=>s9 b s w Y t j e w':=by
 have HP:=aB (zX h hs hj)
 have c1:=aC h 1
 have fz:=aM h 1
 simp at c1
 have HB:=aB (And.intro h hT)
 clear h hT
 have step:∀ (c:Int) (kind:Int) (n:Nat),pk s j=c->(c=42\/c=43\/c=63)->kV c=kind->j<s.size->
   s9 b s w Y t j (.returned (.pointer (some ⟨w.heap.size+1,0,none⟩))) ((((w.drewN n).setCell ⟨b,1,none⟩ (.int .i64 ((j:Int)+1))).alloc (.cells #[.pointer (some ⟨g,0,none⟩)] 116)).alloc (vG kind 0 (.slice (some ⟨w.heap.size,0,none⟩) 1 1))):=by
  intro c kind n hc hc3 hk hlt
  have hb1:((w.drewN n).setCell ⟨b,1,none⟩ (.int .i64 ((j:Int)+1))).heap[b]? = some (gF s (j+1)):=by
   have:=RD (w:=w.drewN n) (aA HB).1 (j+1)
   simpa using this
  have hg1:w.grownBy ((w.drewN n).setCell ⟨b,1,none⟩ (.int .i64 ((j:Int)+1))) (some b):=(aN w n _).trans (aT _ _ _ _)
  have hsz:((w.drewN n).setCell ⟨b,1,none⟩ (.int .i64 ((j:Int)+1))).heap.size=w.heap.size:=by simp [World.setCell]
  generalize ((w.drewN n).setCell ⟨b,1,none⟩ (.int .i64 ((j:Int)+1)))=W at *
  have hgr:gZ s t j=(.rep c t,j+1):=by rw [gZ,hc,if_pos hc3]
  unfold s9
  rw [hgr]
  refine ⟨hlt,(hg1.trans (World.grownBy_alloc _ _ _)).trans (World.grownBy_alloc _ _ _),heap_alloc_old _ (heap_alloc_old _ hb1),w.heap.size+1,rfl,?_⟩
  rw [nf,TR]
  have CP:=bC W (.cells #[.pointer (some ⟨g,0,none⟩)] 116) (vG kind 0 (.slice (some ⟨w.heap.size,0,none⟩) 1 1))
  rw [hsz] at CP
  refine ⟨fun hy=>by have:=hY _ hy;omega,.slice (some ⟨w.heap.size,0,none⟩) 1 1,g,by rw [hk];exact CP,⟨?_,fun k e hy=>?_⟩,?_⟩
  ·have:=(World.ownsRow_lit (base:=0) (e:=116) (size:=1) W #[.pointer (some ⟨g,0,none⟩)] 1 (by omega) (by unfold maxLen;omega) rfl).alloc (vG kind 0 (.slice (some ⟨w.heap.size,0,none⟩) 1 1))
   rw [hsz] at this
   exact this
  ·have:=hY k hy
   simp [Value.ownBlock] at e
   omega
  ·refine TR.kept (fun k hk hy=>?_) (aA HB).2
   rw [Below.heap_alloc _ _ _ (by simp [hsz];omega),Below.heap_alloc _ _ _ (by omega)]
   exact bE hg1 k hk (fun e=>hy (e▸hb))
 have HS:=aB step
 clear step
 by_cases yB:pk s j=42
 ·have hlt:j<s.size:=bY (by rw [yB];decide)
  have HF:=aB (fun n=>aA HS 42 3 n yB (Or.inl rfl) rfl hlt)
  rw [yB] at HP
  clear yB HS
  go_enter Tryz.func204,Tryz.ntmps204
  go_wp2_with (go_at_call 205;refine (aA HP).mono ?_;rintro e w1 ⟨rfl,n,rfl⟩)
  go_ret
  exact aA HF n
 ·by_cases h43:pk s j=43
  ·have hlt:j<s.size:=bY (by rw [h43];decide)
   have HF:=aB (fun n=>aA HS 43 4 n h43 (Or.inr (Or.inl rfl)) rfl hlt)
   rw [h43] at HP
   clear yB h43 HS
   go_enter Tryz.func204,Tryz.ntmps204
   go_wp2_with (go_at_call 205;refine (aA HP).mono ?_;rintro e w1 ⟨rfl,n,rfl⟩)
   go_ret
   exact aA HF n
  ·by_cases h63:pk s j=63
   ·have hlt:j<s.size:=bY (by rw [h63];decide)
    have HF:=aB (fun n=>aA HS 63 5 n h63 (Or.inr (Or.inr rfl)) rfl hlt)
    rw [h63] at HP
    clear yB h43 h63 HS
    go_enter Tryz.func204,Tryz.ntmps204
    go_wp2_with (go_at_call 205;refine (aA HP).mono ?_;rintro e w1 ⟨rfl,n,rfl⟩)
    go_ret
    exact aA HF n
   ·have q1:(pk s j==42)=false:=by simpa using yB
    have q2:(pk s j==43)=false:=by simpa using h43
    have q3:(pk s j==63)=false:=by simpa using h63
    have HR:Hid (gZ s t j=(t,j)):=by show gZ s t j=_;simp [gZ,yB,h43,h63]
    clear yB h43 h63 HS
    generalize pk s j=a at *
    go_enter Tryz.func204,Tryz.ntmps204
    go_wp2_with (go_at_call 205;refine (aA HP).mono ?_;rintro e w1 ⟨rfl,n,rfl⟩)
    go_ret
    unfold s9
    rw [aA HR]
    exact ⟨hj,aN _ _ _,(aA HB).1,g,rfl,TR.kept (w:=w) (w':=w.drewN n) (fun _ _ _=>rfl) (aA HB).2⟩
def yP (v:Value) (st en:Int):Obj := .cells #[v,.int .i64 st,.int .i64 en] 185 (0,0)
theorem Tryz.infoState:(Tryz.prog.info? 190).map (fun i=>(i.zero,i.size,i.bytes))=some (some (.agg #[.int .u64 0,.int .i64 0,.slice none 0 0]),3,40):=by kernel_rfl
theorem aC2 {w:World} {b:Nat} {v:Value} {st en:Int} (h:w.heap[b]? = some (yP v st en)) (v':Value):(w.setCell ⟨b,0,none⟩ v').heap[b]? = some (yP v' st en):=by
 have:=aK h 0 v'
 simpa [yP] using this
theorem SZ {w:World} {b:Nat} {st en:Int} {pv:Value} {n:Nat} {xs:List Value} (sn nx:Int) (sv:Value) (h:w.heap[b]? = some (yP pv st en))
  (hown:w.ownsRow 0 190 3 pv n xs) (hn:n<=100000) (h1:sv.oneCell'=true):
  Calls Tryz.prog 140 #[.pointer (some ⟨b,0,none⟩),.agg #[.int .u64 sn,.int .i64 nx,sv]] w fun e w'=>∃ g cap,e = .returned (.int .i64 n)/\
   w'.heap[b]? = some (yP (.slice (some ⟨g,0,none⟩) (n+1) cap) st en)/\w'.ownsRow 0 190 3 (.slice (some ⟨g,0,none⟩) (n+1) cap) (n+1) (xs++[.int .u64 sn,.int .i64 nx,sv])/\
   (pv.ownBlock=some g\/w.heap.size<=g)/\Fr (fun k=>k=b\/pv.ownBlock=some k) w w':=by
 obtain ⟨i0,jO,hz0,hz1,hz2⟩:=info_parts Tryz.infoState
 have c5:=aC h 0
 have fz:=aM h 0
 have hbl:=aD h
 have hne:=cM h hown (by decide)
 have aER:pv.ownBlock≠some w.heap.size:=fun e=>Nat.lt_irrefl _ (hown.lt _ e).2
 have HB:=aB h
 clear h
 simp at c5
 have sL:∀ u∈[Value.int .u64 sn,.int .i64 nx,sv],u.oneCell'=true:=by
  intro u hu
  simp at hu
  rcases hu with rfl | rfl | rfl
  ·rfl
  ·rfl
  ·exact h1
 clear h1
 have cz2:∀ o o',((w.alloc o).alloc o').cell? ⟨b,0,none⟩=some pv:=fun o o'=>by rw [World.cell?_alloc_past _ _ _ (by simp;omega),World.cell?_alloc_past _ _ _ hbl];exact c5
 have fz1:∀ o,(w.alloc o).frozen? ⟨b,0,none⟩=false:=fun o=>by rw [World.frozen?_alloc_past _ _ _ hbl];exact fz
 have fz2:∀ o o',((w.alloc o).alloc o').frozen? ⟨b,0,none⟩=false:=fun o o'=>by rw [World.frozen?_alloc_past _ _ _ (by simp;omega)];exact fz1 o
 go_enter Tryz.func140,Tryz.ntmps140
 go_wp2_with fail
 go_region_law
  (refine step_append_lies _ (by rfl) _ _ _ (by rfl) 0 190 i0 _ 3 40 Tryz.underlying183 jO hz0 hz1 hz2 rfl (by omega) pv n xs (by rfl) (((hown.alloc _).alloc _).drew) ⟨w.heap.size+1,0,none⟩ 1 1 [.int .u64 sn,.int .i64 nx,sv] (by rfl) (by rfl) (World.news_of_block (cs := #[.int .u64 sn,.int .i64 nx,sv]) (t:=190) (fr:=(0,0)) (bC w _ _)) sL (by omega) (by unfold maxLen;omega) (by omega) (by simp) (w.heap.size+2) (by simp) ?_;intro g cap w1 hown1 hgrow hat hlt;have k1:w1.cell? ⟨b,0,none⟩=some pv:=(by rw [hgrow.cell_far _ (by simp;omega) (Ne.symm hne)];exact cz2 _ _);have k2:w1.frozen? ⟨b,0,none⟩=false:=(by rw [hgrow.frozen_far _ (by simp;omega) (Ne.symm hne)];exact fz2 _ _))
 all_goals
  go_wp2
  go_ret
  have hb1:w1.heap[b]? = some (yP pv st en):=(hgrow.block b (by simp [iB];omega) (Ne.symm hne)).trans (heap_alloc_old _ (heap_alloc_old _ (aA HB)))
  refine ⟨g,cap,rfl,aC2 hb1 _,hown1.kept (aT w1 b 0 _) (Or.inr (cM hb1 hown1 (by decide))),?_,?_⟩
  ·rcases hat with hat | hat
   ·exact Or.inl hat
   ·exact Or.inr (by omega)
  ·exact ((((Fr.alloc _ w _).trans (Fr.alloc _ _ _)).trans (Fr.drew _ _)).trans (Fr.of_grown hgrow (fun k e _=>Or.inr e))).trans (Fr.set w1 b 0 _ (Or.inl rfl))
structure cA where
 set:List UInt8
 nx:Nat
 free:List Nat
def SR (w:World) (Y:Nat->Prop) (S:List cA) (xs:List Value):Prop:=
 ∀ j p,S[j]? = some p->∃ v,(∃ n:Nat,eU n p.set/\xs[3*j]? = some (.int .u64 (n:Int)))/\xs[3*j+1]? = some (.int .i64 (p.nx:Int))/\xs[3*j+2]? = some v/\
  w.ownsRow 0 3 1 v p.free.length (cG p.free)/\∀ k,v.ownBlock=some k->¬ Y k
structure MO (w:World) (Y:Nat->Prop) (b:Nat) (S:List cA) (st en:Nat) (pv:Value) (xs:List Value):Prop where
 blk:w.heap[b]? = some (yP pv st en)
 own:w.ownsRow 0 190 3 pv S.length xs
 free:SR w Y S xs
 nb:¬ Y b
 np:∀ k,pv.ownBlock=some k->¬ Y k
def MH (w:World) (Y:Nat->Prop) (b:Nat) (S:List cA) (st en:Nat):Prop:=∃ pv xs,MO w Y b S st en pv xs
section
variable {w w':World} {Y Z:Nat->Prop} {b:Nat} {S:List cA} {st en:Nat}
theorem MH.reY (h:MH w Y b S st en) (hZ:∀ k,k<w.heap.size->Z k->Y k):MH w Z b S st en:=by
 obtain ⟨pv,xs,h⟩:=h
 exact ⟨pv,xs,{
  blk:=h.blk
  own:=h.own
  free:=fun j p hp=>by
   obtain ⟨v,h1,h2,h3,h4,h5⟩:=h.free j p hp
   exact ⟨v,h1,h2,h3,h4,fun k hk hz=>h5 k hk (hZ k (aJ h4 k hk) hz)⟩
  nb:=fun hz=>h.nb (hZ b (aD h.blk) hz)
  np:=fun k hk hz=>h.np k hk (hZ k (aJ h.own k hk) hz)}⟩
theorem MH.kept (h:MH w Y b S st en) (key:∀ k,k<w.heap.size->¬ Y k->w'.heap[k]? = w.heap[k]?):MH w' Y b S st en:=by
 obtain ⟨pv,xs,h⟩:=h
 exact ⟨pv,xs,{
  blk:=(key b (aD h.blk) h.nb).trans h.blk
  own:=aI h.own fun k hk=>key k (aJ h.own k hk) (h.np k hk)
  free:=fun j p hp=>by
   obtain ⟨v,h1,h2,h3,h4,h5⟩:=h.free j p hp
   exact ⟨v,h1,h2,h3,aI h4 fun k hk=>key k (aJ h4 k hk) (h5 k hk),h5⟩
  nb:=h.nb
  np:=h.np}⟩
theorem MH.grown {r:Option Nat} (h:MH w Y b S st en) (hg:w.grownBy w' r) (hr:∀ k,r=some k->Y k):MH w' Y b S st en:=
 h.kept fun k hk hy=>hg.block k hk (fun e=>hy (hr k e.symm))
theorem MH.alloc (h:MH w Y b S st en) (o:Obj):MH (w.alloc o) Y b S st en:=h.grown (World.grownBy_alloc w o none) (fun _ h=>by cases h)
theorem MH.drewN (h:MH w Y b S st en) (n:Nat):MH (w.drewN n) Y b S st en:=h.grown (aN w n none) (fun _ h=>by cases h)
theorem MH.drew (h:MH w Y b S st en):MH w.drew Y b S st en:=h.grown (aU w none) (fun _ h=>by cases h)
theorem MH.lt (h:MH w Y b S st en):b<w.heap.size:=by obtain ⟨pv,xs,h⟩:=h;exact aD h.blk
theorem MH.nb (h:MH w Y b S st en):¬ Y b:=by obtain ⟨pv,xs,h⟩:=h;exact h.nb
theorem JL (p:cA) (n:Nat) (sv:Value) (sJ:eU n p.set) (h:MH w Y b S st en) (hn:S.length<=100000) (TJ:w.ownsRow 0 3 1 sv p.free.length (cG p.free)) (hsy:∀ k,sv.ownBlock=some k->¬ Y k) (hY:∀ k,Y k->k<w.heap.size):
  Calls Tryz.prog 140 #[.pointer (some ⟨b,0,none⟩),.agg #[.int .u64 (n:Int),.int .i64 (p.nx:Int),sv]] w fun e w'=>e = .returned (.int .i64 (S.length:Int))/\MH w' Y b (S++[p]) st en/\Kp Y w w':=by
 obtain ⟨pv,xs,h⟩:=h
 refine (SZ n p.nx sv h.blk h.own hn (V0 TJ)).mono ?_
 rintro e w' ⟨g,cap,rfl,hb,ho,hg,hf⟩
 have key:∀ k,k<w.heap.size->k≠b->pv.ownBlock≠some k->w'.heap[k]? = w.heap[k]? := fun k hk h1 h2=>hf.block k hk (fun e=>e.elim h1 h2)
 have hx:=h.blk
 refine ⟨rfl,⟨.slice (some ⟨g,0,none⟩) (S.length+1) cap,xs++[.int .u64 (n:Int),.int .i64 (p.nx:Int),sv],?_⟩,Kp.of_fr hf (fun k _ hy e=>e.elim (fun e=>h.nb (e▸hy)) (fun e=>h.np k e hy))⟩
 exact {
  blk:=hb
  own:=by simpa using ho
  free:=by
   intro j q hq
   have hlen:=h.own.1
   rcases Nat.lt_or_ge j S.length with hj | hj
   ·have hq':S[j]? = some q:=by rw [List.getElem?_append_left hj] at hq;exact hq
    obtain ⟨v,h1,h2,h3,h4,h5⟩:=h.free j q hq'
    refine ⟨v,?_,?_,?_,aI h4 fun k hk=>key k (aJ h4 k hk) (fun e=>cM hx h4 (by decide) (by rw [hk,e])) (nF h4 h.own (by decide) k hk),h5⟩
    ·obtain ⟨n1,h6,h7⟩:=h1
     exact ⟨n1,h6,by rw [List.getElem?_append_left (by omega)];exact h7⟩
    ·rw [List.getElem?_append_left (by omega)];exact h2
    ·rw [List.getElem?_append_left (by omega)];exact h3
   ·have hj':j=S.length:=by
     have:=(List.getElem?_eq_some_iff.1 hq).1
     simp at this
     omega
    subst hj'
    have hq':q=p:=by simpa using hq.symm
    subst hq'
    refine ⟨sv,?_,?_,?_,aI TJ fun k hk=>key k (aJ TJ k hk) (fun e=>cM hx TJ (by decide) (by rw [hk,e])) (nF TJ h.own (by decide) k hk),hsy⟩
    ·exact ⟨n,sJ,by rw [List.getElem?_append_right (by omega),show 3*S.length-xs.length=0 by omega];rfl⟩
    ·rw [List.getElem?_append_right (by omega),show 3*S.length+1-xs.length=1 by omega];rfl
    ·rw [List.getElem?_append_right (by omega),show 3*S.length+2-xs.length=2 by omega];rfl
  nb:=h.nb
  np:=by
   intro k hk hy
   simp [Value.ownBlock] at hk
   subst hk
   rcases hg with hg | hg
   ·exact h.np _ hg hy
   ·have:=hY _ hy;omega}
end
def eL (s:ByteArray) (i:Nat):Obj := .cells #[.string s,.int .i64 i] 142 (0,0)
def pe (s:ByteArray) (i:Nat):Int:=if i<s.size then pk s i else -1
theorem QU (c:Int) {w:World}:Calls Tryz.prog 126 #[.int .u8 c] w fun e w'=>e = .returned (.bool (jR c))/\w'=w:=by
 by_cases h1:c=32
 ·subst h1
  go_enter Tryz.func126,Tryz.ntmps126
  go_wp2
  go_ret
  exact ⟨rfl,rfl⟩
 ·by_cases h2:c=10
  ·subst h2
   go_enter Tryz.func126,Tryz.ntmps126
   go_wp2
   go_ret
   exact ⟨rfl,rfl⟩
  ·have q1:(c==32)=false:=by simpa using h1
   have q2:(c==10)=false:=by simpa using h2
   have H:Hid (jR c=false):=by simp [Hid,jR,h1,h2]
   clear h1 h2
   go_enter Tryz.func126,Tryz.ntmps126
   go_wp2
   go_ret
   rw [aA H]
   exact ⟨rfl,rfl⟩
theorem AZ {w:World} {b:Nat} {s:ByteArray} {i:Nat} (h:w.heap[b]? = some (eL s i)) (hs:s.size<=120) (hi:i<=s.size):
  Calls Tryz.prog 81 #[.pointer (some ⟨b,0,none⟩)] w fun e w'=>e = .returned (.int .i64 (pe s (aF s i)))/\w'.heap[b]? = some (eL s (aF s i))/\w.grownBy w' (some b):=by
 go_enter Tryz.func81,Tryz.ntmps81
 go_wp2_with fail
 go_loopg [3] (s.size-i) (fun k _ wv=>∃ j,j<=s.size/\s.size-j<=k/\aF s j=aF s i/\wv.heap[b]? = some (eL s j)/\w.grownBy wv (some b))
 case atStart=>exact ⟨i,hi,Nat.le_refl _,rfl,h,World.grownBy.refl _ _⟩
 case round=>
  obtain ⟨j,hj,hk,hsk,hb,hg⟩:=hrel
  have HR:=aB (And.intro hk (And.intro hsk (And.intro hb hg)))
  have c0:=aC hb 0
  have c1:=aC hb 1
  have fz:=aM hb 1
  clear hk hsk hb hg h
  simp at c0 c1
  by_cases hlt:j<s.size
  ·have hd:(j:Int)<(s.size:Int):=by omega
   have C7:pk s j=(s[j].toNat:Int):=by simp [pk,hlt]
   by_cases hbl:jR (pk s j)=true
   ·have HB:Hid (jR (s[j].toNat:Int)=true):=by rw [← C7];exact hbl
    have HC:=aB (fun W:World=>QU (s[j].toNat:Int) (w:=W))
    rw [aA HB] at HC
    clear C7 hbl
    go_wp2_with fail
    go_quiet (first | (go_at_call 126;refine Calls.quiet_of_same (aA HC _)))
    go_wp2_with fail
    go_roundg (gk-1)
    case measure=>have:=(aA HR).1;omega
    case rel=>
     obtain ⟨hk,hsk,hb,hg⟩:=aA HR
     refine ⟨j+1,by omega,by omega,?_,?_,?_⟩
     ·rw [← hsk,vB s j hlt (by simp only [pk,hlt,dif_pos];exact aA HB)]
     ·have h1:=aK (w:=wr.drewN nq) hb 1 (.int .i64 ((j:Int)+1))
      simpa [eL] using h1
     ·exact (hg.trans (aN _ nq _)).trans (aT _ _ _ _)
   ·have hbf:jR (pk s j)=false:=by simpa using hbl
    have HB:Hid (jR (s[j].toNat:Int)=false):=by rw [← C7];exact hbf
    have HC:=aB (fun W:World=>QU (s[j].toNat:Int) (w:=W))
    rw [aA HB] at HC
    have HF:Hid (aF s j=j/\pe s j=(s[j].toNat:Int)):=⟨pV s j hbf,by simp [pe,hlt,C7]⟩
    have hq:((j:Int)==(s.size:Int))=false:=by rw [beq_eq_false_iff_ne];omega
    clear C7 hbl hbf
    go_wp2_with fail
    go_quiet (first | (go_at_call 126;refine Calls.quiet_of_same (aA HC _)))
    rename_i n1
    go_wp2_with fail
    go_quiet (fail)
    go_wp2_with fail
    go_quiet (fail)
    go_wp2
    go_ret
    obtain ⟨hk,hsk,hb,hg⟩:=aA HR
    rw [← hsk,(aA HF).1,(aA HF).2]
    have aC8:wrap64 (s[j].toNat:Int)=(s[j].toNat:Int):=by have:=(s[j]).toNat_lt;unfold wrap64;omega
    exact ⟨by rw [aC8];rfl,hb,by simpa using hg.trans (aN _ _ _)⟩
  ·have hd:decide ((j:Int)<(s.size:Int))=false:=by simp;omega
   have hje:j=s.size:=by omega
   have hq:((j:Int)==(s.size:Int))=true:=by rw [beq_iff_eq];omega
   have HF:Hid (aF s j=j/\pe s j = -1):=⟨pV s j (by simp [pk,hlt];rfl),by simp [pe,hlt]⟩
   go_wp2_with fail
   go_quiet (fail)
   go_wp2_with fail
   go_quiet (fail)
   go_wp2
   go_ret
   obtain ⟨hk,hsk,hb,hg⟩:=aA HR
   rw [← hsk,(aA HF).1,(aA HF).2]
   exact ⟨rfl,hb,by simpa using hg.trans (aN _ _ _)⟩
end Go.Proofs.YtlljggefbngkeaaGreatDoor
