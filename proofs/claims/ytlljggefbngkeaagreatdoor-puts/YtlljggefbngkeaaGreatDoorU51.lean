import Derived.Test.YtlljggefbngkeaaGreatDoorU17
import Derived.Deep.RegionHeld3
set_option maxRecDepth 100000
set_option maxHeartbeats 6400000
namespace Go.Proofs.YtlljggefbngkeaaGreatDoor
open Go.RowKit
structure fD (c:BT):Prop where
 go:∀ {w:World} {g:Nat} {P:List iD} {L:List lS} {r:Nat} {f:ByteArray} {gp cap gl cl:Nat} {xs:List Value} {k:Nat} {v s:List UInt8},GM w g P L r f gp cap gl cl xs->P.length<=90000->LN P L c k->M (bV c) v->M (bS c) s->v.length<=1000->s.length<=1000->
  Calls Tryz.prog 21 #[.pointer (some ⟨g,0,none⟩),.int .i64 k,.string (aE v),.string (aE s)] w fun e w'=>Z8 w (cB c v s) e w'
theorem ZC (t:PT):fD (.pat t):=by
 refine ⟨?_⟩
 intro w g P L r f gp cap gl cl xs k v s hG dI hc hv hs dB fU
 obtain ⟨l,hl,_,hlk⟩:=hc
 have eE:=(List.getElem?_eq_some_iff.1 hl).1
 have eC:=hG.lt
 have oU:=hG.ll
 have CS:(k:Int)<(L.length:Int):=by omega
 have c1:=hG.c1
 obtain ⟨l0,l1,l2,l3,l4,l5,l6,l7⟩:=hG.eight hl
 rcases l with ⟨lk,la,lb,lp,lvw,ldf,ls,lv⟩
 simp only at l0 l1 l2 l3 l4 l5 l6 l7 hlk
 subst hlk
 clear hG hl hv hs
 go_enter Tryz.func21,Tryz.ntmps21
 go_wp2
 go_ret
 exact ⟨by rw [cB];rfl,Kp.alloc _ _ _⟩
theorem ZD (t:PT) (x d:List UInt8):fD (.key t x d):=by
 refine ⟨?_⟩
 intro w g P L r f gp cap gl cl xs k v s hG dI hc hv hs dB fU
 obtain ⟨l,hl,_,hlk,_⟩:=hc
 have eE:=(List.getElem?_eq_some_iff.1 hl).1
 have eC:=hG.lt
 have oU:=hG.ll
 have CS:(k:Int)<(L.length:Int):=by omega
 have c1:=hG.c1
 obtain ⟨l0,l1,l2,l3,l4,l5,l6,l7⟩:=hG.eight hl
 rcases l with ⟨lk,la,lb,lp,lvw,ldf,ls,lv⟩
 simp only at l0 l1 l2 l3 l4 l5 l6 l7 hlk
 subst hlk
 clear hG hl hv hs
 go_enter Tryz.func21,Tryz.ntmps21
 go_wp2
 go_ret
 exact ⟨by rw [cB];rfl,Kp.alloc _ _ _⟩
theorem ZI {p:Nat} {a b:BT} {v s:List UInt8} (h:M (bS a) s) (h2:M (bV a) v):cB (.two 124 p a b) v s=cB a v s:=by rw [cB,if_pos rfl,if_pos h,if_pos h2]
theorem ZH {p:Nat} {a b:BT} {v s:List UInt8} (h:M (bS a) s) (h2:¬ M (bV a) v):cB (.two 124 p a b) v s=bA (.two 124 p a b) v:=by rw [cB,if_pos rfl,if_pos h,if_neg h2]
theorem ZF {p:Nat} {a b:BT} {v s:List UInt8} (h:¬ M (bS a) s) (h2:M (bV b) v):cB (.two 124 p a b) v s=cB b v s:=by rw [cB,if_pos rfl,if_neg h,if_pos h2]
theorem ZG {p:Nat} {a b:BT} {v s:List UInt8} (h:¬ M (bS a) s) (h2:¬ M (bV b) v):cB (.two 124 p a b) v s=bA (.two 124 p a b) v:=by rw [cB,if_pos rfl,if_neg h,if_neg h2]
theorem ZE {p:Nat} {a b:BT} (im:dD (.two 124 p a b)) (ia:fD a) (ib:fD b):fD (.two 124 p a b):=by
 refine ⟨?_⟩
 intro w g P L r f gp cap gl cl xs k v s hG dI hc hv hs dB fU
 have HM:=aB (fun (W:World) (hk:K0 w W)=>im.go (hG.k0 hk) dI hc hv dB)
 obtain ⟨l,hl,oN,hlk,_,hat,gY,kX⟩:=hc
 obtain ⟨x,hx,hx1⟩:=gY.node
 obtain ⟨y,hy,nL⟩:=kX.node
 have eE:=(List.getElem?_eq_some_iff.1 hl).1
 have aY:=(List.getElem?_eq_some_iff.1 hx).1
 have hk2:=(List.getElem?_eq_some_iff.1 hy).1
 clear oN hat
 rcases l with ⟨lk,la,lb,lp,lvw,ldf,ls,lv⟩
 obtain rfl:lk=124:=hlk
 simp only at hx hy aY hk2 gY kX
 have eC:=hG.lt
 have oU:=hG.ll
 have HA:=aB (fun (W:World) (hk:K0 w W)=>gin (d:=aE s) (hG.k0 hk).c0 (hG.k0 hk).pm (by omega) hx1.2.1 hx1.1.2.2.1 (by rw [aO];omega))
 have HVa:=aB (fun (W:World) (hk:K0 w W)=>gin (d:=aE v) (hG.k0 hk).c0 (hG.k0 hk).pm (by omega) hx1.2.2 hx1.1.2.2.2 (by rw [aO];omega))
 have HVb:=aB (fun (W:World) (hk:K0 w W)=>gin (d:=aE v) (hG.k0 hk).c0 (hG.k0 hk).pm (by omega) nL.2.2 nL.1.2.2.2 (by rw [aO];omega))
 have HL:=aB (fun (W:World) (hk:K0 w W) (h:M (bV a) v) (h2:M (bS a) s)=>ia.go (hG.k0 hk) dI gY h h2 dB fU)
 have HR:=aB (fun (W:World) (hk:K0 w W) (h:M (bV b) v) (h2:M (bS b) s)=>ib.go (hG.k0 hk) dI kX h h2 dB fU)
 have HG:=aB (And.intro hG (And.intro hx hy))
 have CS:(k:Int)<(L.length:Int):=by omega
 have hai:(la:Int)<(L.length:Int):=by omega
 have hbi:(lb:Int)<(L.length:Int):=by omega
 have c1:=hG.c1
 obtain ⟨l0,l1,l2,l3,l4,l5,l6,l7⟩:=hG.eight hl
 simp only at l0 l1 l2 l3 l4 l5 l6 l7
 have HU:=aB (o8 hs)
 clear hl hx hy hG hx1 nL dI gY kX hv hs
 go_enter Tryz.func21,Tryz.ntmps21
 go_wp2_with fail
 obtain ⟨w1,dC,hs1,b0,cT⟩:=jL w (jW ⟨124,la,lb,lp,lvw,ldf,ls,lv⟩)
 unfold jW at dC b0
 rw [dC]
 have m1:=aC b0 1
 have m2:=aC b0 2
 simp at m1 m2
 obtain ⟨_,_,_,_,_,_,x6,_⟩:=((aA HG).1.k0 cT).eight (aA HG).2.1
 have d1:=((aA HG).1.k0 cT).c1
 have fV:K0 w w1.drew:=cT.trans (Kp.drew _ _)
 have HAS:Hid (∀ W:World,(K0 w W/\W.cell? ⟨g,1,none⟩=some (.slice (some ⟨gl,0,none⟩) L.length cl)/\W.cell? ⟨w.heap.size,1,none⟩=some (.int .i64 la)/\W.cell? ⟨w.heap.size,2,none⟩=some (.int .i64 lb)/\W.cell? ⟨gl,la*8+6,none⟩=some (.int .i64 x.s))->Calls Tryz.prog 30 #[.pointer (some ⟨g,0,none⟩),.int .i64 x.s,.string (aE s)] W fun e W'=>(∃ z:Bool,e = .returned (.bool z)/\(z=true↔M (bS a) (aE s).data.toList))/\(K0 w W'/\W'.cell? ⟨g,1,none⟩=some (.slice (some ⟨gl,0,none⟩) L.length cl)/\W'.cell? ⟨w.heap.size,1,none⟩=some (.int .i64 la)/\W'.cell? ⟨w.heap.size,2,none⟩=some (.int .i64 lb)/\W'.cell? ⟨gl,la*8+6,none⟩=some (.int .i64 x.s))):=
  aB (fun W h=>(aA HA W h.1).mono (fun e W' h2=>by
   obtain ⟨z,rfl,hz,hk⟩:=h2
   exact ⟨⟨z,rfl,hz⟩,h.1.trans hk,hk.cell h.2.1,hk.cell h.2.2.1,hk.cell h.2.2.2.1,hk.cell h.2.2.2.2⟩))
 clear dC c1 l0 l1 l2 l3 l4 l5 l6 l7 cT b0 HA
 go_region_held3 (fun W=>(K0 w W/\W.cell? ⟨g,1,none⟩=some (.slice (some ⟨gl,0,none⟩) L.length cl)/\W.cell? ⟨w.heap.size,1,none⟩=some (.int .i64 la)/\W.cell? ⟨w.heap.size,2,none⟩=some (.int .i64 lb)/\W.cell? ⟨gl,la*8+6,none⟩=some (.int .i64 x.s))) (go_keep) (first | (go_at_call 30;refine (aA HAS _ (by assumption)).mono ?_;rintro e w2 ⟨⟨z,rfl,hz⟩,iH⟩))
 clear x6 d1 m1 m2 fV HAS
 rw [lC] at hz
 obtain ⟨jX,d1,m1,m2,_⟩:=iH
 cases z
 ·have i6:¬ M (bS a) s:=fun h=>by have:=hz.2 h;cases this
  have JP:=aB (And.intro i6 ((aA HU).resolve_left i6))
  obtain ⟨_,_,_,_,_,_,_,y7⟩:=((aA HG).1.k0 jX).eight (aA HG).2.2
  clear hz i6
  go_wp2_with fail
  refine (aA HVb _ jX).mono ?_
  rintro e w3 ⟨z,rfl,hz,hk3⟩
  rw [lC] at hz
  have vN:=jX.trans hk3
  clear m1 m2 d1 y7 hk3
  cases z
  ·have HZ:=aB (show ¬ M (bV b) v from fun h=>by have:=hz.2 h;cases this)
   clear hz
   go_wp2_with fail
   refine (aA HM _ vN).mono ?_
   rintro e w4 ⟨rfl,hk4⟩
   go_wp2
   go_ret
   exact ⟨by rw [ZG (aA JP).1 (aA HZ)];rfl,vN.trans hk4⟩
  ·have HZ:=aB (hz.1 rfl)
   clear hz
   go_wp2_with fail
   refine (aA HR _ vN (aA HZ) (aA JP).2).mono ?_
   rintro e w4 ⟨rfl,hk4⟩
   go_wp2
   go_ret
   exact ⟨by rw [ZF (aA JP).1 (aA HZ)];rfl,vN.trans hk4⟩
 ·have JP:=aB (hz.1 rfl)
  obtain ⟨_,_,_,_,_,_,_,x7⟩:=((aA HG).1.k0 jX).eight (aA HG).2.1
  clear hz
  go_wp2_with fail
  refine (aA HVa _ jX).mono ?_
  rintro e w3 ⟨z,rfl,hz,hk3⟩
  rw [lC] at hz
  have vN:=jX.trans hk3
  clear m1 m2 d1 x7 hk3
  cases z
  ·have HZ:=aB (show ¬ M (bV a) v from fun h=>by have:=hz.2 h;cases this)
   clear hz
   go_wp2_with fail
   refine (aA HM _ vN).mono ?_
   rintro e w4 ⟨rfl,hk4⟩
   go_wp2
   go_ret
   exact ⟨by rw [ZH (aA JP) (aA HZ)];rfl,vN.trans hk4⟩
  ·have HZ:=aB (hz.1 rfl)
   clear hz
   go_wp2_with fail
   refine (aA HL _ vN (aA HZ) (aA JP)).mono ?_
   rintro e w4 ⟨rfl,hk4⟩
   go_wp2
   go_ret
   exact ⟨by rw [ZI (aA JP) (aA HZ)];rfl,vN.trans hk4⟩
theorem ZB {p:Nat} {a b:BT} (hne:pQ (.two 114 p a b)) (hsz:fH (.two 114 p a b)<=800) (ia:fD a) (ib:fD b):fD (.two 114 p a b):=by
 refine ⟨?_⟩
 intro w g P L r f gp cap gl cl xs k v s hG dI hc hv hs dB fU
 obtain ⟨l,hl,oN,hlk,_,hat,gY,kX⟩:=hc
 obtain ⟨x,hx,hx1⟩:=gY.node
 obtain ⟨y,hy,nL⟩:=kX.node
 have eE:=(List.getElem?_eq_some_iff.1 hl).1
 have aY:=(List.getElem?_eq_some_iff.1 hx).1
 have hk2:=(List.getElem?_eq_some_iff.1 hy).1
 clear oN hat
 have eC:=hG.lt
 have oU:=hG.ll
 have hcut:=T6 (p:=p) (by decide:(114:Int)≠124) (by decide) hv
 obtain ⟨_,dU,h1,h2,_⟩:=bQ hcut
 have hcs:=wS (p:=p) (by decide:(114:Int)≠124) hs
 obtain ⟨_,aCN,s1,s2,_⟩:=bQ hcs
 have hlen:=qA _ hne v s hv hs
 have fQ:=e9 (n:=v.length) hsz dB
 have HV:=aB (fun (W:World) (hk:K0 w W)=>F4 (l:=l) (hG.k0 hk) dI hlk gY kX hcut dB)
 have HP:=aB (fun (W:World) (hk:K0 w W)=>nR (hG.k0 hk).c0 (hG.k0 hk).pm dI hx1.2.1 hx1.1.2.2.1 nL.2.1 nL.1.2.2.1 fU hcs)
 have HL:=aB (fun (W:World) (hk:K0 w W)=>ia.go (hG.k0 hk) dI gY h1 s1 (by rw [List.length_take];omega) (by rw [List.length_take];omega))
 have HR:=aB (fun (W:World) (hk:K0 w W)=>ib.go (hG.k0 hk) dI kX h2 s2 (by rw [List.length_drop];omega) (by rw [List.length_drop];omega))
 have HG:=aB (And.intro hG (And.intro hx hy))
 have CS:(k:Int)<(L.length:Int):=by omega
 have hai:(l.a:Int)<(L.length:Int):=by omega
 have hbi:(l.b:Int)<(L.length:Int):=by omega
 have c1:=hG.c1
 obtain ⟨l0,l1,l2,l3,l4,l5,l6,l7⟩:=hG.eight hl
 rcases l with ⟨lk,la,lb,lp,lvw,ldf,ls,lv⟩
 obtain rfl:lk=114:=hlk
 simp only at l0 l1 l2 l3 l4 l5 l6 l7 gY kX hx hy aY hk2 hai hbi
 unfold C0 at HV
 simp only at HV HL HR HG
 have hF:cB (.two 114 p a b) v s=cB a (v.take (aH (bV a) (bV b) v)) (s.take (aH (bS a) (bS b) s))++cB b (v.drop (aH (bV a) (bV b) v)) (s.drop (aH (bS a) (bS b) s)):=by rw [cB,if_neg (by decide),if_neg (by decide)]
 have C6:(cB a (v.take (aH (bV a) (bV b) v)) (s.take (aH (bS a) (bS b) s))).length+(cB b (v.drop (aH (bV a) (bV b) v)) (s.drop (aH (bS a) (bS b) s))).length<=98000000:=by
  have:=congrArg List.length hF
  rw [List.length_append] at this
  omega
 have HF:=aB hF
 have aFA:((aH (bS a) (bS b) s:Nat):Int)<=(s.length:Int):=by omega
 have AK:(aE s).extract 0 (aH (bS a) (bS b) s)=aE (s.take (aH (bS a) (bS b) s)):=mW _ _
 have WZ:(aE s).extract (aH (bS a) (bS b) s) s.length=aE (s.drop (aH (bS a) (bS b) s)):=kF _ _
 have hsu:(aE s).size=s.length:=aO s
 have e1:(aE (cB a (v.take (aH (bV a) (bV b) v)) (s.take (aH (bS a) (bS b) s)))).size+(aE (cB b (v.drop (aH (bV a) (bV b) v)) (s.drop (aH (bS a) (bS b) s)))).size<=98000000:=by rw [aO,aO];omega
 clear hl hx hy hG hx1 nL dI gY kX hv hs hF hcut hcs h1 h2 s1 s2 hne hsz hlen fQ ia ib dU aCN C6
 generalize aH (bS a) (bS b) s=j at *
 generalize aH (bV a) (bV b) v=i at *
 generalize cB a (v.take i) (s.take j)=ra at *
 generalize cB b (v.drop i) (s.drop j)=rb at *
 go_enter Tryz.func21,Tryz.ntmps21
 go_wp2_with fail
 obtain ⟨w1,dC,hs1,b0,cT⟩:=jL w (jW ⟨114,la,lb,lp,lvw,ldf,ls,lv⟩)
 unfold jW at dC b0
 rw [dC]
 clear dC c1 l0 l1 l2 l3 l4 l5 l6 l7
 refine (aA HV _ cT).mono ?_
 rintro e w2 ⟨rfl,jX⟩
 have b2:=(jX.heap (aD b0)).trans b0
 have lJ:=cT.trans jX
 have m1:=aC b2 1
 have m2:=aC b2 2
 simp at m1 m2
 obtain ⟨_,_,_,_,_,_,x6,_⟩:=((aA HG).1.k0 lJ).eight (aA HG).2.1
 obtain ⟨_,_,_,_,_,_,y6,_⟩:=((aA HG).1.k0 lJ).eight (aA HG).2.2
 have d1:=((aA HG).1.k0 lJ).c1
 have fV:K0 w w2.drew:=lJ.trans (Kp.drew _ _)
 have gA:∀ W W':World,(K0 w W/\W.cell? ⟨g,1,none⟩=some (.slice (some ⟨gl,0,none⟩) L.length cl)/\W.cell? ⟨w.heap.size,1,none⟩=some (.int .i64 la)/\W.cell? ⟨w.heap.size,2,none⟩=some (.int .i64 lb)/\W.cell? ⟨gl,la*8+6,none⟩=some (.int .i64 x.s)/\W.cell? ⟨gl,lb*8+6,none⟩=some (.int .i64 y.s))->K0 W W'->(K0 w W'/\W'.cell? ⟨g,1,none⟩=some (.slice (some ⟨gl,0,none⟩) L.length cl)/\W'.cell? ⟨w.heap.size,1,none⟩=some (.int .i64 la)/\W'.cell? ⟨w.heap.size,2,none⟩=some (.int .i64 lb)/\W'.cell? ⟨gl,la*8+6,none⟩=some (.int .i64 x.s)/\W'.cell? ⟨gl,lb*8+6,none⟩=some (.int .i64 y.s)):=fun W W' h hk=>⟨h.1.trans hk,hk.cell h.2.1,hk.cell h.2.2.1,hk.cell h.2.2.2.1,hk.cell h.2.2.2.2.1,hk.cell h.2.2.2.2.2⟩
 have m9:Hid (∀ W:World,(K0 w W/\W.cell? ⟨g,1,none⟩=some (.slice (some ⟨gl,0,none⟩) L.length cl)/\W.cell? ⟨w.heap.size,1,none⟩=some (.int .i64 la)/\W.cell? ⟨w.heap.size,2,none⟩=some (.int .i64 lb)/\W.cell? ⟨gl,la*8+6,none⟩=some (.int .i64 x.s)/\W.cell? ⟨gl,lb*8+6,none⟩=some (.int .i64 y.s))->Calls Tryz.prog 29 #[.pointer (some ⟨g,0,none⟩),.int .i64 x.s,.int .i64 y.s,.string (aE s)] W fun e W'=>(∃ n:Int,e = .returned (.tuple #[.int .i64 n,.int .i64 ((j:Nat):Int)]))/\(K0 w W'/\W'.cell? ⟨g,1,none⟩=some (.slice (some ⟨gl,0,none⟩) L.length cl)/\W'.cell? ⟨w.heap.size,1,none⟩=some (.int .i64 la)/\W'.cell? ⟨w.heap.size,2,none⟩=some (.int .i64 lb)/\W'.cell? ⟨gl,la*8+6,none⟩=some (.int .i64 x.s)/\W'.cell? ⟨gl,lb*8+6,none⟩=some (.int .i64 y.s))):=
  aB (fun W h=>(aA HP W h.1).mono (fun e W' h2=>⟨h2.1,gA W W' h h2.2⟩))
 have lM:Hid (∀ W:World,(K0 w W/\W.cell? ⟨g,1,none⟩=some (.slice (some ⟨gl,0,none⟩) L.length cl)/\W.cell? ⟨w.heap.size,1,none⟩=some (.int .i64 la)/\W.cell? ⟨w.heap.size,2,none⟩=some (.int .i64 lb)/\W.cell? ⟨gl,la*8+6,none⟩=some (.int .i64 x.s)/\W.cell? ⟨gl,lb*8+6,none⟩=some (.int .i64 y.s))->Calls Tryz.prog 21 #[.pointer (some ⟨g,0,none⟩),.int .i64 la,.string (aE (v.take i)),.string (aE (s.take j))] W fun e W'=>e = .returned (.string (aE ra))/\(K0 w W'/\W'.cell? ⟨g,1,none⟩=some (.slice (some ⟨gl,0,none⟩) L.length cl)/\W'.cell? ⟨w.heap.size,1,none⟩=some (.int .i64 la)/\W'.cell? ⟨w.heap.size,2,none⟩=some (.int .i64 lb)/\W'.cell? ⟨gl,la*8+6,none⟩=some (.int .i64 x.s)/\W'.cell? ⟨gl,lb*8+6,none⟩=some (.int .i64 y.s))):=
  aB (fun W h=>(aA HL W h.1).mono (fun e W' h2=>⟨h2.1,gA W W' h h2.2⟩))
 have tE:Hid (∀ W:World,(K0 w W/\W.cell? ⟨g,1,none⟩=some (.slice (some ⟨gl,0,none⟩) L.length cl)/\W.cell? ⟨w.heap.size,1,none⟩=some (.int .i64 la)/\W.cell? ⟨w.heap.size,2,none⟩=some (.int .i64 lb)/\W.cell? ⟨gl,la*8+6,none⟩=some (.int .i64 x.s)/\W.cell? ⟨gl,lb*8+6,none⟩=some (.int .i64 y.s))->Calls Tryz.prog 21 #[.pointer (some ⟨g,0,none⟩),.int .i64 lb,.string (aE (v.drop i)),.string (aE (s.drop j))] W fun e W'=>e = .returned (.string (aE rb))/\(K0 w W'/\W'.cell? ⟨g,1,none⟩=some (.slice (some ⟨gl,0,none⟩) L.length cl)/\W'.cell? ⟨w.heap.size,1,none⟩=some (.int .i64 la)/\W'.cell? ⟨w.heap.size,2,none⟩=some (.int .i64 lb)/\W'.cell? ⟨gl,la*8+6,none⟩=some (.int .i64 x.s)/\W'.cell? ⟨gl,lb*8+6,none⟩=some (.int .i64 y.s))):=
  aB (fun W h=>(aA HR W h.1).mono (fun e W' h2=>⟨h2.1,gA W W' h h2.2⟩))
 clear cT b0 b2 jX lJ gA HP HL HR HG HV
 go_wp2_with fail
 go_region_held3 (fun W=>(K0 w W/\W.cell? ⟨g,1,none⟩=some (.slice (some ⟨gl,0,none⟩) L.length cl)/\W.cell? ⟨w.heap.size,1,none⟩=some (.int .i64 la)/\W.cell? ⟨w.heap.size,2,none⟩=some (.int .i64 lb)/\W.cell? ⟨gl,la*8+6,none⟩=some (.int .i64 x.s)/\W.cell? ⟨gl,lb*8+6,none⟩=some (.int .i64 y.s))) (go_keep) (first | (go_at_call 29;refine (aA m9 _ (by assumption)).mono ?_;rintro e w3 ⟨⟨n,rfl⟩,fX⟩))
 clear x6 y6 d1 m1 m2 fV m9
 have GR:K0 w w3.drew:=fX.1.trans (Kp.drew _ _)
 go_wp2_with fail
 go_region_held3 (fun W=>(K0 w W/\W.cell? ⟨g,1,none⟩=some (.slice (some ⟨gl,0,none⟩) L.length cl)/\W.cell? ⟨w.heap.size,1,none⟩=some (.int .i64 la)/\W.cell? ⟨w.heap.size,2,none⟩=some (.int .i64 lb)/\W.cell? ⟨gl,la*8+6,none⟩=some (.int .i64 x.s)/\W.cell? ⟨gl,lb*8+6,none⟩=some (.int .i64 y.s))) (go_keep) (first | (go_at_call 21;refine (aA lM _ (by assumption)).mono ?_;rintro e w4 ⟨rfl,mD⟩))
 clear fX GR lM
 have aCG:K0 w w4.drew:=mD.1.trans (Kp.drew _ _)
 go_wp2_with fail
 go_region_held3 (fun W=>(K0 w W/\W.cell? ⟨g,1,none⟩=some (.slice (some ⟨gl,0,none⟩) L.length cl)/\W.cell? ⟨w.heap.size,1,none⟩=some (.int .i64 la)/\W.cell? ⟨w.heap.size,2,none⟩=some (.int .i64 lb)/\W.cell? ⟨gl,la*8+6,none⟩=some (.int .i64 x.s)/\W.cell? ⟨gl,lb*8+6,none⟩=some (.int .i64 y.s))) (go_keep) (first | (go_at_call 21;refine (aA tE _ (by assumption)).mono ?_;rintro e w5 ⟨rfl,UH⟩))
 clear mD aCG tE
 have HK5:=aB UH.1
 clear UH
 go_wp2
 go_ret
 refine ⟨?_,aA HK5⟩
 rw [aA HF,cU]
 rfl
theorem RJ {p:Nat} {a b:BT} (hne:pQ (.two 126 p a b)) (hsz:fH (.two 126 p a b)<=800) (ia:fD a) (ib:fD b):fD (.two 126 p a b):=by
 refine ⟨?_⟩
 intro w g P L r f gp cap gl cl xs k v s hG dI hc hv hs dB fU
 obtain ⟨l,hl,oN,hlk,_,hat,gY,kX⟩:=hc
 obtain ⟨x,hx,hx1⟩:=gY.node
 obtain ⟨y,hy,nL⟩:=kX.node
 have eE:=(List.getElem?_eq_some_iff.1 hl).1
 have aY:=(List.getElem?_eq_some_iff.1 hx).1
 have hk2:=(List.getElem?_eq_some_iff.1 hy).1
 clear oN hat
 have eC:=hG.lt
 have oU:=hG.ll
 have hcut:=n9 hv
 obtain ⟨_,dU,h1,h2,_⟩:=bQ hcut
 have hcs:=wS (p:=p) (by decide:(126:Int)≠124) hs
 obtain ⟨_,aCN,s1,s2,_⟩:=bQ hcs
 have hlen:=qA _ hne v s hv hs
 have fQ:=e9 (n:=v.length) hsz dB
 have HV:=aB (fun (W:World) (hk:K0 w W)=>e6 (l:=l) (hG.k0 hk) dI hlk gY kX hcut dB)
 have HP:=aB (fun (W:World) (hk:K0 w W)=>nR (hG.k0 hk).c0 (hG.k0 hk).pm dI hx1.2.1 hx1.1.2.2.1 nL.2.1 nL.1.2.2.1 fU hcs)
 have HL:=aB (fun (W:World) (hk:K0 w W)=>ia.go (hG.k0 hk) dI gY h2 s1 (by rw [List.length_drop];omega) (by rw [List.length_take];omega))
 have HR:=aB (fun (W:World) (hk:K0 w W)=>ib.go (hG.k0 hk) dI kX h1 s2 (by rw [List.length_take];omega) (by rw [List.length_drop];omega))
 have HG:=aB (And.intro hG (And.intro hx hy))
 have CS:(k:Int)<(L.length:Int):=by omega
 have hai:(l.a:Int)<(L.length:Int):=by omega
 have hbi:(l.b:Int)<(L.length:Int):=by omega
 have c1:=hG.c1
 obtain ⟨l0,l1,l2,l3,l4,l5,l6,l7⟩:=hG.eight hl
 rcases l with ⟨lk,la,lb,lp,lvw,ldf,ls,lv⟩
 obtain rfl:lk=126:=hlk
 simp only at l0 l1 l2 l3 l4 l5 l6 l7 gY kX hx hy aY hk2 hai hbi
 unfold C0 at HV
 simp only at HV HL HR HG
 have hF:cB (.two 126 p a b) v s=cB a (v.drop (aH (bV b) (bV a) v)) (s.take (aH (bS a) (bS b) s))++cB b (v.take (aH (bV b) (bV a) v)) (s.drop (aH (bS a) (bS b) s)):=by rw [cB,if_neg (by decide),if_pos rfl]
 have C6:(cB a (v.drop (aH (bV b) (bV a) v)) (s.take (aH (bS a) (bS b) s))).length+(cB b (v.take (aH (bV b) (bV a) v)) (s.drop (aH (bS a) (bS b) s))).length<=98000000:=by
  have:=congrArg List.length hF
  rw [List.length_append] at this
  omega
 have HF:=aB hF
 have aFA:((aH (bS a) (bS b) s:Nat):Int)<=(s.length:Int):=by omega
 have AK:(aE s).extract 0 (aH (bS a) (bS b) s)=aE (s.take (aH (bS a) (bS b) s)):=mW _ _
 have WZ:(aE s).extract (aH (bS a) (bS b) s) s.length=aE (s.drop (aH (bS a) (bS b) s)):=kF _ _
 have hsu:(aE s).size=s.length:=aO s
 have e1:(aE (cB a (v.drop (aH (bV b) (bV a) v)) (s.take (aH (bS a) (bS b) s)))).size+(aE (cB b (v.take (aH (bV b) (bV a) v)) (s.drop (aH (bS a) (bS b) s)))).size<=98000000:=by rw [aO,aO];omega
 clear hl hx hy hG hx1 nL dI gY kX hv hs hF hcut hcs h1 h2 s1 s2 hne hsz hlen fQ ia ib dU aCN C6
 generalize aH (bS a) (bS b) s=j at *
 generalize aH (bV b) (bV a) v=i at *
 generalize cB a (v.drop i) (s.take j)=ra at *
 generalize cB b (v.take i) (s.drop j)=rb at *
 go_enter Tryz.func21,Tryz.ntmps21
 go_wp2_with fail
 obtain ⟨w1,dC,hs1,b0,cT⟩:=jL w (jW ⟨126,la,lb,lp,lvw,ldf,ls,lv⟩)
 unfold jW at dC b0
 rw [dC]
 clear dC c1 l0 l1 l2 l3 l4 l5 l6 l7
 refine (aA HV _ cT).mono ?_
 rintro e w2 ⟨rfl,jX⟩
 have b2:=(jX.heap (aD b0)).trans b0
 have lJ:=cT.trans jX
 have m1:=aC b2 1
 have m2:=aC b2 2
 simp at m1 m2
 obtain ⟨_,_,_,_,_,_,x6,_⟩:=((aA HG).1.k0 lJ).eight (aA HG).2.1
 obtain ⟨_,_,_,_,_,_,y6,_⟩:=((aA HG).1.k0 lJ).eight (aA HG).2.2
 have d1:=((aA HG).1.k0 lJ).c1
 have fV:K0 w w2.drew:=lJ.trans (Kp.drew _ _)
 have gA:∀ W W':World,(K0 w W/\W.cell? ⟨g,1,none⟩=some (.slice (some ⟨gl,0,none⟩) L.length cl)/\W.cell? ⟨w.heap.size,1,none⟩=some (.int .i64 la)/\W.cell? ⟨w.heap.size,2,none⟩=some (.int .i64 lb)/\W.cell? ⟨gl,la*8+6,none⟩=some (.int .i64 x.s)/\W.cell? ⟨gl,lb*8+6,none⟩=some (.int .i64 y.s))->K0 W W'->(K0 w W'/\W'.cell? ⟨g,1,none⟩=some (.slice (some ⟨gl,0,none⟩) L.length cl)/\W'.cell? ⟨w.heap.size,1,none⟩=some (.int .i64 la)/\W'.cell? ⟨w.heap.size,2,none⟩=some (.int .i64 lb)/\W'.cell? ⟨gl,la*8+6,none⟩=some (.int .i64 x.s)/\W'.cell? ⟨gl,lb*8+6,none⟩=some (.int .i64 y.s)):=fun W W' h hk=>⟨h.1.trans hk,hk.cell h.2.1,hk.cell h.2.2.1,hk.cell h.2.2.2.1,hk.cell h.2.2.2.2.1,hk.cell h.2.2.2.2.2⟩
 have m9:Hid (∀ W:World,(K0 w W/\W.cell? ⟨g,1,none⟩=some (.slice (some ⟨gl,0,none⟩) L.length cl)/\W.cell? ⟨w.heap.size,1,none⟩=some (.int .i64 la)/\W.cell? ⟨w.heap.size,2,none⟩=some (.int .i64 lb)/\W.cell? ⟨gl,la*8+6,none⟩=some (.int .i64 x.s)/\W.cell? ⟨gl,lb*8+6,none⟩=some (.int .i64 y.s))->Calls Tryz.prog 29 #[.pointer (some ⟨g,0,none⟩),.int .i64 x.s,.int .i64 y.s,.string (aE s)] W fun e W'=>(∃ n:Int,e = .returned (.tuple #[.int .i64 n,.int .i64 ((j:Nat):Int)]))/\(K0 w W'/\W'.cell? ⟨g,1,none⟩=some (.slice (some ⟨gl,0,none⟩) L.length cl)/\W'.cell? ⟨w.heap.size,1,none⟩=some (.int .i64 la)/\W'.cell? ⟨w.heap.size,2,none⟩=some (.int .i64 lb)/\W'.cell? ⟨gl,la*8+6,none⟩=some (.int .i64 x.s)/\W'.cell? ⟨gl,lb*8+6,none⟩=some (.int .i64 y.s))):=
  aB (fun W h=>(aA HP W h.1).mono (fun e W' h2=>⟨h2.1,gA W W' h h2.2⟩))
 have lM:Hid (∀ W:World,(K0 w W/\W.cell? ⟨g,1,none⟩=some (.slice (some ⟨gl,0,none⟩) L.length cl)/\W.cell? ⟨w.heap.size,1,none⟩=some (.int .i64 la)/\W.cell? ⟨w.heap.size,2,none⟩=some (.int .i64 lb)/\W.cell? ⟨gl,la*8+6,none⟩=some (.int .i64 x.s)/\W.cell? ⟨gl,lb*8+6,none⟩=some (.int .i64 y.s))->Calls Tryz.prog 21 #[.pointer (some ⟨g,0,none⟩),.int .i64 la,.string (aE (v.drop i)),.string (aE (s.take j))] W fun e W'=>e = .returned (.string (aE ra))/\(K0 w W'/\W'.cell? ⟨g,1,none⟩=some (.slice (some ⟨gl,0,none⟩) L.length cl)/\W'.cell? ⟨w.heap.size,1,none⟩=some (.int .i64 la)/\W'.cell? ⟨w.heap.size,2,none⟩=some (.int .i64 lb)/\W'.cell? ⟨gl,la*8+6,none⟩=some (.int .i64 x.s)/\W'.cell? ⟨gl,lb*8+6,none⟩=some (.int .i64 y.s))):=
  aB (fun W h=>(aA HL W h.1).mono (fun e W' h2=>⟨h2.1,gA W W' h h2.2⟩))
 have tE:Hid (∀ W:World,(K0 w W/\W.cell? ⟨g,1,none⟩=some (.slice (some ⟨gl,0,none⟩) L.length cl)/\W.cell? ⟨w.heap.size,1,none⟩=some (.int .i64 la)/\W.cell? ⟨w.heap.size,2,none⟩=some (.int .i64 lb)/\W.cell? ⟨gl,la*8+6,none⟩=some (.int .i64 x.s)/\W.cell? ⟨gl,lb*8+6,none⟩=some (.int .i64 y.s))->Calls Tryz.prog 21 #[.pointer (some ⟨g,0,none⟩),.int .i64 lb,.string (aE (v.take i)),.string (aE (s.drop j))] W fun e W'=>e = .returned (.string (aE rb))/\(K0 w W'/\W'.cell? ⟨g,1,none⟩=some (.slice (some ⟨gl,0,none⟩) L.length cl)/\W'.cell? ⟨w.heap.size,1,none⟩=some (.int .i64 la)/\W'.cell? ⟨w.heap.size,2,none⟩=some (.int .i64 lb)/\W'.cell? ⟨gl,la*8+6,none⟩=some (.int .i64 x.s)/\W'.cell? ⟨gl,lb*8+6,none⟩=some (.int .i64 y.s))):=
  aB (fun W h=>(aA HR W h.1).mono (fun e W' h2=>⟨h2.1,gA W W' h h2.2⟩))
 clear cT b0 b2 jX lJ gA HP HL HR HG HV
 go_wp2_with fail
 go_region_held3 (fun W=>(K0 w W/\W.cell? ⟨g,1,none⟩=some (.slice (some ⟨gl,0,none⟩) L.length cl)/\W.cell? ⟨w.heap.size,1,none⟩=some (.int .i64 la)/\W.cell? ⟨w.heap.size,2,none⟩=some (.int .i64 lb)/\W.cell? ⟨gl,la*8+6,none⟩=some (.int .i64 x.s)/\W.cell? ⟨gl,lb*8+6,none⟩=some (.int .i64 y.s))) (go_keep) (first | (go_at_call 29;refine (aA m9 _ (by assumption)).mono ?_;rintro e w3 ⟨⟨n,rfl⟩,fX⟩))
 clear x6 y6 d1 m1 m2 fV m9
 have GR:K0 w w3.drew:=fX.1.trans (Kp.drew _ _)
 go_wp2_with fail
 go_region_held3 (fun W=>(K0 w W/\W.cell? ⟨g,1,none⟩=some (.slice (some ⟨gl,0,none⟩) L.length cl)/\W.cell? ⟨w.heap.size,1,none⟩=some (.int .i64 la)/\W.cell? ⟨w.heap.size,2,none⟩=some (.int .i64 lb)/\W.cell? ⟨gl,la*8+6,none⟩=some (.int .i64 x.s)/\W.cell? ⟨gl,lb*8+6,none⟩=some (.int .i64 y.s))) (go_keep) (first | (go_at_call 21;refine (aA lM _ (by assumption)).mono ?_;rintro e w4 ⟨rfl,mD⟩))
 clear fX GR lM
 have aCG:K0 w w4.drew:=mD.1.trans (Kp.drew _ _)
 go_wp2_with fail
 go_region_held3 (fun W=>(K0 w W/\W.cell? ⟨g,1,none⟩=some (.slice (some ⟨gl,0,none⟩) L.length cl)/\W.cell? ⟨w.heap.size,1,none⟩=some (.int .i64 la)/\W.cell? ⟨w.heap.size,2,none⟩=some (.int .i64 lb)/\W.cell? ⟨gl,la*8+6,none⟩=some (.int .i64 x.s)/\W.cell? ⟨gl,lb*8+6,none⟩=some (.int .i64 y.s))) (go_keep) (first | (go_at_call 21;refine (aA tE _ (by assumption)).mono ?_;rintro e w5 ⟨rfl,UH⟩))
 clear mD aCG tE
 have HK5:=aB UH.1
 clear UH
 go_wp2
 go_ret
 refine ⟨?_,aA HK5⟩
 rw [aA HF,cU]
 rfl
theorem pX {f:List UInt8->List UInt8->List UInt8} {g:List UInt8->List UInt8}:∀ (p p' q:List (List UInt8)),bT f g (p++p') q=bT f g p q++bT f g p' (q.drop p.length)
 | [],p',q=>by simp [bT]
 | x::p,p',[]=>by
  have:=pX (f:=f) (g:=g) p p' []
  rw [List.cons_append,bT,bT,this,List.append_assoc]
  simp
 | x::p,p',y::q=>by
  have:=pX (f:=f) (g:=g) p p' q
  rw [List.cons_append,bT,bT,this,List.append_assoc]
  simp
theorem BD {f:List UInt8->List UInt8->List UInt8} {g:List UInt8->List UInt8} {p q:List (List UInt8)} {m:Nat} (h:m<p.length):
  bT f g (p.take (m+1)) q=bT f g (p.take m) q++bT f g [p[m]] (q.drop m):=by
 have e:p.take (m+1)=p.take m++[p[m]]:=by rw [List.take_add_one,List.getElem?_eq_getElem h];rfl
 rw [e,pX,List.length_take,Nat.min_eq_left (by omega)]
theorem MW {f:List UInt8->List UInt8->List UInt8} {g:List UInt8->List UInt8} {x:List UInt8} {q:List (List UInt8)} {m:Nat} (h:m<q.length):bT f g [x] (q.drop m)=f x q[m]:=by
 rw [List.drop_eq_getElem_cons h,bT,bT,List.append_nil]
theorem FH {f:List UInt8->List UInt8->List UInt8} {g:List UInt8->List UInt8} {x:List UInt8} {q:List (List UInt8)} {m:Nat} (h:q.length<=m):bT f g [x] (q.drop m)=g x:=by
 rw [List.drop_eq_nil_of_le h,bT,bT,List.append_nil]
theorem A0 {f:List UInt8->List UInt8->List UInt8} {g:List UInt8->List UInt8} (p q:List (List UInt8)) (m:Nat):(bT f g (p.take m) q).length<=(bT f g p q).length:=by
 have:=pX (f:=f) (g:=g) (p.take m) (p.drop m) q
 rw [List.take_append_drop] at this
 rw [this,List.length_append]
 omega
theorem BQ {A:PT} (h0:¬ M A []) {u:List UInt8} (h:M (.rep 42 A) u):(∀ y,y∈dV A u->M A y/\y.length<=u.length)/\(dV A u).length<=u.length:=by
 obtain ⟨eI,eG⟩:=lH h0 h
 refine ⟨fun y hy=>⟨(eI y hy).1,?_⟩,?_⟩
 ·have:y.length<=(dV A u).flatten.length:=(List.sublist_flatten_of_mem hy).length_le
  rw [eG] at this
  omega
 ·have:(dV A u).length<=(dV A u).flatten.length:=by
   generalize dV A u=q at eI
   clear eG
   induction q with
   | nil=>simp
   | cons y q ih=>
    have h1:=ih (fun z hz=>eI z (List.mem_cons_of_mem _ hz))
    have h2:=List.length_pos_iff.2 (eI y List.mem_cons_self).2
    rw [List.flatten_cons,List.length_append,List.length_cons]
    omega
  rw [eG] at this
  omega
theorem aAI {a:BT} {pp:Nat} {w:World} {g:Nat} {P:List iD} {L:List lS} {r:Nat} {f:ByteArray} {gp cap gl cl:Nat} {xs:List Value} {l:lS} {v s:List UInt8} (hne:pQ (.star pp a)) (hsz:fH (.star pp a)<=800) (ia:fD a) (im:dD a) (hG:GM w g P L r f gp cap gl cl xs) (dI:P.length<=90000) (gY:LN P L a l.a)
  (hv:M (bV (.star pp a)) v) (hs:M (bS (.star pp a)) s) (dB:v.length<=1000) (fU:s.length<=1000):
  Calls Tryz.prog 38 #[.pointer (some ⟨g,0,none⟩),C0 l,.string (aE v),.string (aE s)] w fun e w'=>Z8 w (cB (.star pp a) v s) e w':=by
 obtain ⟨x,hx,hx1⟩:=gY.node
 have aY:=(List.getElem?_eq_some_iff.1 hx).1
 rcases l with ⟨lk,la,lb,lp,lvw,ldf,ls,lv⟩
 simp only at hx aY gY
 have eC:=hG.lt
 have oU:=hG.ll
 obtain ⟨hpv,f9⟩:=BQ hne.2.1 (u:=v) hv
 obtain ⟨hqv,hqn⟩:=BQ hne.1 (u:=s) hs
 have hlen:=qA _ hne v s hv hs
 have fQ:=e9 (n:=v.length) hsz dB
 have HPV:=aB (fun (W:World) (hk:K0 w W)=>r7 (hG.k0 hk).c0 (hG.k0 hk).pm dI hx1.2.2 hx1.1.2.1 hx1.1.2.2.2 hne.2.1 hv dB)
 have HPQ:=aB (fun (W:World) (hk:K0 w W)=>r7 (hG.k0 hk).c0 (hG.k0 hk).pm dI hx1.2.1 hx1.1.1 hx1.1.2.2.1 hne.1 hs fU)
 have HL:=aB (fun (W:World) (hk:K0 w W) (y:List UInt8) (hy:y∈dV (bV a) v) (z:List UInt8) (hz:z∈dV (bS a) s)=>ia.go (hG.k0 hk) dI gY (hpv y hy).1 (hqv z hz).1 (by have:=(hpv y hy).2;omega) (by have:=(hqv z hz).2;omega))
 have HC:=aB (fun (W:World) (hk:K0 w W) (y:List UInt8) (hy:y∈dV (bV a) v)=>im.go (hG.k0 hk) dI gY (hpv y hy).1 (by have:=(hpv y hy).2;omega))
 have HG:=aB (And.intro hG hx)
 have hai:(la:Int)<(L.length:Int):=by omega
 have hF:cB (.star pp a) v s=bT (cB a) (bA a) (dV (bV a) v) (dV (bS a) s):=by rw [cB]
 have aEG:(bT (cB a) (bA a) (dV (bV a) v) (dV (bS a) s)).length<=98000000:=by rw [← hF];omega
 have aIG:(dV (bV a) v).length<=1000:=by omega
 have aIE:(dV (bS a) s).length<=1000:=by omega
 have HF:=aB hF
 clear hx hG hx1 dI gY hv hs hF hne hsz hlen fQ ia im hpv hqv f9 hqn
 generalize dV (bV a) v=p at *
 generalize dV (bS a) s=q at *
 generalize cB a=fa at *
 generalize bA a=ma at *
 unfold C0
 simp only
 go_enter Tryz.func38,Tryz.ntmps38
 go_wp2_with fail
 obtain ⟨w1,dC,hs1,b0,cT⟩:=jL w (jW ⟨lk,la,lb,lp,lvw,ldf,ls,lv⟩)
 unfold jW at dC b0
 rw [dC]
 have m1:=aC b0 1
 simp at m1
 obtain ⟨_,_,_,_,_,_,x6,x7⟩:=((aA HG).1.k0 cT).eight (aA HG).2
 have d1:=((aA HG).1.k0 cT).c1
 have fV:K0 w w1.drew:=cT.trans (Kp.drew _ _)
 have gA:∀ W W':World,(K0 w W/\W.cell? ⟨g,1,none⟩=some (.slice (some ⟨gl,0,none⟩) L.length cl)/\W.cell? ⟨w.heap.size,1,none⟩=some (.int .i64 la)/\W.cell? ⟨gl,la*8+6,none⟩=some (.int .i64 x.s)/\W.cell? ⟨gl,la*8+7,none⟩=some (.int .i64 x.v))->K0 W W'->(K0 w W'/\W'.cell? ⟨g,1,none⟩=some (.slice (some ⟨gl,0,none⟩) L.length cl)/\W'.cell? ⟨w.heap.size,1,none⟩=some (.int .i64 la)/\W'.cell? ⟨gl,la*8+6,none⟩=some (.int .i64 x.s)/\W'.cell? ⟨gl,la*8+7,none⟩=some (.int .i64 x.v)):=fun W W' h hk=>⟨h.1.trans hk,hk.cell h.2.1,hk.cell h.2.2.1,hk.cell h.2.2.2.1,hk.cell h.2.2.2.2⟩
 have aGD:Hid (∀ W:World,(K0 w W/\W.cell? ⟨g,1,none⟩=some (.slice (some ⟨gl,0,none⟩) L.length cl)/\W.cell? ⟨w.heap.size,1,none⟩=some (.int .i64 la)/\W.cell? ⟨gl,la*8+6,none⟩=some (.int .i64 x.s)/\W.cell? ⟨gl,la*8+7,none⟩=some (.int .i64 x.v))->Calls Tryz.prog 36 #[.pointer (some ⟨g,0,none⟩),.int .i64 x.v,.string (aE v)] W fun e W'=>(∃ z,e = .returned z/\W'.ownsRow 0 9 1 z p.length (cD p))/\(K0 w W'/\W'.cell? ⟨g,1,none⟩=some (.slice (some ⟨gl,0,none⟩) L.length cl)/\W'.cell? ⟨w.heap.size,1,none⟩=some (.int .i64 la)/\W'.cell? ⟨gl,la*8+6,none⟩=some (.int .i64 x.s)/\W'.cell? ⟨gl,la*8+7,none⟩=some (.int .i64 x.v))):=
  aB (fun W h=>(aA HPV W h.1).mono (fun e W' h2=>by
   obtain ⟨z,rfl,ho,hk⟩:=h2
   exact ⟨⟨z,rfl,ho⟩,gA W W' h hk⟩))
 have aGE:Hid (∀ W:World,(K0 w W/\W.cell? ⟨g,1,none⟩=some (.slice (some ⟨gl,0,none⟩) L.length cl)/\W.cell? ⟨w.heap.size,1,none⟩=some (.int .i64 la)/\W.cell? ⟨gl,la*8+6,none⟩=some (.int .i64 x.s)/\W.cell? ⟨gl,la*8+7,none⟩=some (.int .i64 x.v))->Calls Tryz.prog 36 #[.pointer (some ⟨g,0,none⟩),.int .i64 x.s,.string (aE s)] W fun e W'=>(∃ z,e = .returned z/\W'.ownsRow 0 9 1 z q.length (cD q)/\K0 W W')/\(K0 w W'/\W'.cell? ⟨g,1,none⟩=some (.slice (some ⟨gl,0,none⟩) L.length cl)/\W'.cell? ⟨w.heap.size,1,none⟩=some (.int .i64 la)/\W'.cell? ⟨gl,la*8+6,none⟩=some (.int .i64 x.s)/\W'.cell? ⟨gl,la*8+7,none⟩=some (.int .i64 x.v))):=
  aB (fun W h=>(aA HPQ W h.1).mono (fun e W' h2=>by
   obtain ⟨z,rfl,ho,hk⟩:=h2
   exact ⟨⟨z,rfl,ho,hk⟩,gA W W' h hk⟩))
 clear dC cT b0 HPV HPQ HG gA
 go_region_held3 (fun W=>(K0 w W/\W.cell? ⟨g,1,none⟩=some (.slice (some ⟨gl,0,none⟩) L.length cl)/\W.cell? ⟨w.heap.size,1,none⟩=some (.int .i64 la)/\W.cell? ⟨gl,la*8+6,none⟩=some (.int .i64 x.s)/\W.cell? ⟨gl,la*8+7,none⟩=some (.int .i64 x.v))) (go_keep) (first | (go_at_call 36;refine (aA aGD _ (by assumption)).mono ?_;rintro e w2 ⟨⟨zp,rfl,hop⟩,iH⟩))
 clear x6 x7 d1 m1 fV aGD
 have HOp:=aB hop
 obtain ⟨ap,cpp,rfl⟩:=aG hop
 clear hop
 have NX:K0 w w2.drew:=iH.1.trans (Kp.drew _ _)
 go_wp2_with fail
 go_region_held3 (fun W=>(K0 w W/\W.cell? ⟨g,1,none⟩=some (.slice (some ⟨gl,0,none⟩) L.length cl)/\W.cell? ⟨w.heap.size,1,none⟩=some (.int .i64 la)/\W.cell? ⟨gl,la*8+6,none⟩=some (.int .i64 x.s)/\W.cell? ⟨gl,la*8+7,none⟩=some (.int .i64 x.v))) (go_keep) (first | (go_at_call 36;refine (aA aGE w2.drew (by first | assumption | go_keep)).mono ?_;rintro e w3 ⟨⟨zq,rfl,hoq,aF0⟩,fX⟩))
 clear NX aGE iH
 obtain ⟨aq,cpq,rfl⟩:=aG hoq
 have hkx:K0 w2 w3:=K0.trans (Kp.drew _ _) aF0
 have HO:=aB (And.intro (aI (aA HOp) (fun j e=>hkx.heap (aJ (aA HOp) j e))) (And.intro hoq fX.1))
 obtain ⟨_,_,m1,_,_⟩:=fX
 clear HOp hoq aF0 hkx
 go_wp2_with fail
 go_loopg [9,12] (p.length+2) (fun gk ov iv wv=>∃ m:Nat,iv = .int .i64 (m:Int)/\m<=p.length/\p.length-m<gk/\ov = .string (aE (bT fa ma (p.take m) q))/\K0 w3 wv)
 case atStart=>exact ⟨0,rfl,Nat.zero_le _,by omega,by rw [List.take_zero,bT];rfl,K0.refl _⟩
 case round=>
  obtain ⟨m,rfl,hm,fW,rfl,hK⟩:=hrel
  have dC:IntKind.i64.wrap ((m:Int)+1)=(m:Int)+1:=IntWalk.i64_in _ (by omega)
  by_cases hlt:m<p.length
  ·have q7:(m:Int)<(p.length:Int):=by omega
   obtain ⟨vb,cap2,e,_,aIC⟩:=(aA HO).1.form (by omega)
   injection e with e1 e2 e3
   subst e1
   clear e2 e3 cap2
   have n1:wr.cell? ⟨w.heap.size,1,none⟩=some (.int .i64 la):=hK.cell m1
   have ns:wr.cell? ⟨vb,m,none⟩=some (.string (aE p[m])):=by
    have h2:=(aA HO).1.cellAt m (by omega)
    have:(cD p)[m]? = some (.string (aE p[m])):=by simp [cD,hlt]
    rw [this] at h2
    exact hK.cell h2
   have fV:K0 w wr.drew:=((aA HO).2.2.trans hK).trans (Kp.drew _ _)
   have hkw:K0 w3 wr.drew:=hK.trans (Kp.drew _ _)
   have AK:=BD (f:=fa) (g:=ma) (q:=q) hlt
   have hle:=A0 (f:=fa) (g:=ma) p q (m+1)
   rw [AK,List.length_append] at hle
   by_cases hq:m<q.length
   ·have mB:(m:Int)<(q.length:Int):=by omega
    obtain ⟨qb,cap3,e,_,hql⟩:=(aA HO).2.1.form (by omega)
    injection e with e1 e2 e3
    subst e1
    clear e2 e3 cap3
    have nq:wr.cell? ⟨qb,m,none⟩=some (.string (aE q[m])):=by
     have h2:=(aA HO).2.1.cellAt m (by omega)
     have:(cD q)[m]? = some (.string (aE q[m])):=by simp [cD,hq]
     rw [this] at h2
     exact hK.cell h2
    rw [MW hq] at AK hle
    have lM:Hid (∀ W:World,(K0 w W/\K0 w3 W/\W.cell? ⟨w.heap.size,1,none⟩=some (.int .i64 la)/\W.cell? ⟨vb,m,none⟩=some (.string (aE p[m]))/\W.cell? ⟨qb,m,none⟩=some (.string (aE q[m])))->
      Calls Tryz.prog 21 #[.pointer (some ⟨g,0,none⟩),.int .i64 la,.string (aE p[m]),.string (aE q[m])] W fun e W'=>e = .returned (.string (aE (fa p[m] q[m])))/\(K0 w W'/\K0 w3 W'/\W'.cell? ⟨w.heap.size,1,none⟩=some (.int .i64 la)/\W'.cell? ⟨vb,m,none⟩=some (.string (aE p[m]))/\W'.cell? ⟨qb,m,none⟩=some (.string (aE q[m])))):=
     aB (fun W h=>(aA HL W h.1 p[m] (List.getElem_mem hlt) q[m] (List.getElem_mem hq)).mono (fun e W' h2=>⟨h2.1,h.1.trans h2.2,h.2.1.trans h2.2,h2.2.cell h.2.2.1,h2.2.cell h.2.2.2.1,h2.2.cell h.2.2.2.2⟩))
    have s1:(aE (bT fa ma (p.take m) q)).size+(aE (fa p[m] q[m])).size<=98000000:=by rw [aO,aO];omega
    have HT:=aB AK
    clear hK AK hle
    go_wp2_with fail
    go_region_held3 (fun W=>K0 w W/\K0 w3 W/\W.cell? ⟨w.heap.size,1,none⟩=some (.int .i64 la)/\W.cell? ⟨vb,m,none⟩=some (.string (aE p[m]))/\W.cell? ⟨qb,m,none⟩=some (.string (aE q[m]))) (go_keep) (first | (go_at_call 21;refine (aA lM _ (by assumption)).mono ?_;rintro e w4 ⟨rfl,mD⟩))
    clear lM fV hkw n1 ns nq
    have HS4:=aB mD
    clear mD
    go_wp2_with fail
    go_roundg (gk-1)
    case measure=>omega
    case rel=>exact ⟨m+1,by go_num,by omega,by omega,by rw [aA HT,cU],(aA HS4).2.1⟩
   ·have mB:¬ (m:Int)<(q.length:Int):=by omega
    rw [FH (by omega)] at AK hle
    have lM:Hid (∀ W:World,(K0 w W/\K0 w3 W/\W.cell? ⟨w.heap.size,1,none⟩=some (.int .i64 la)/\W.cell? ⟨vb,m,none⟩=some (.string (aE p[m])))->
      Calls Tryz.prog 23 #[.pointer (some ⟨g,0,none⟩),.int .i64 la,.string (aE p[m])] W fun e W'=>e = .returned (.string (aE (ma p[m])))/\(K0 w W'/\K0 w3 W'/\W'.cell? ⟨w.heap.size,1,none⟩=some (.int .i64 la)/\W'.cell? ⟨vb,m,none⟩=some (.string (aE p[m])))):=
     aB (fun W h=>(aA HC W h.1 p[m] (List.getElem_mem hlt)).mono (fun e W' h2=>⟨h2.1,h.1.trans h2.2,h.2.1.trans h2.2,h2.2.cell h.2.2.1,h2.2.cell h.2.2.2⟩))
    have s1:(aE (bT fa ma (p.take m) q)).size+(aE (ma p[m])).size<=98000000:=by rw [aO,aO];omega
    have HT:=aB AK
    clear hK AK hle
    go_wp2_with fail
    go_region_held3 (fun W=>K0 w W/\K0 w3 W/\W.cell? ⟨w.heap.size,1,none⟩=some (.int .i64 la)/\W.cell? ⟨vb,m,none⟩=some (.string (aE p[m]))) (go_keep) (first | (go_at_call 23;refine (aA lM _ (by assumption)).mono ?_;rintro e w4 ⟨rfl,mD⟩))
    clear lM fV hkw n1 ns
    have HS4:=aB mD
    clear mD
    go_wp2_with fail
    go_roundg (gk-1)
    case measure=>omega
    case rel=>exact ⟨m+1,by go_num,by omega,by omega,by rw [aA HT,cU],(aA HS4).2.1⟩
  ·have q7:¬ (m:Int)<(p.length:Int):=by omega
   obtain rfl:m=p.length:=by omega
   have HK:=aB ((aA HO).2.2.trans hK)
   clear hK
   go_wp2
   go_ret
   refine ⟨?_,aA HK⟩
   rw [aA HF]
   first | rfl | (rw [List.take_length];rfl)
theorem RK {p:Nat} {a:BT} (hne:pQ (.star p a)) (hsz:fH (.star p a)<=800) (ia:fD a) (im:dD a):fD (.star p a):=by
 refine ⟨?_⟩
 intro w g P L r f gp cap gl cl xs k v s hG dI hc hv hs dB fU
 obtain ⟨l,hl,oN,hlk,hat,gY⟩:=hc
 have eE:=(List.getElem?_eq_some_iff.1 hl).1
 clear oN hat
 have eC:=hG.lt
 have oU:=hG.ll
 have HP:=aB (fun (W:World) (hk:K0 w W)=>aAI (l:=l) hne hsz ia im (hG.k0 hk) dI gY hv hs dB fU)
 have CS:(k:Int)<(L.length:Int):=by omega
 have c1:=hG.c1
 obtain ⟨l0,l1,l2,l3,l4,l5,l6,l7⟩:=hG.eight hl
 rcases l with ⟨lk,la,lb,lp,lvw,ldf,ls,lv⟩
 obtain rfl:lk=42:=hlk
 simp only at l0 l1 l2 l3 l4 l5 l6 l7
 unfold C0 at HP
 simp only at HP
 clear hl hG dI gY hv hs hne hsz ia im
 go_enter Tryz.func21,Tryz.ntmps21
 go_wp2_with fail
 refine (aA HP _ (Kp.alloc _ _ _)).mono ?_
 rintro e w2 ⟨rfl,hk2⟩
 go_wp2
 go_ret
 exact ⟨rfl,K0.trans (Kp.alloc _ _ _) hk2⟩
theorem wX:∀ (c:BT),pQ c->fH c<=800->fD c
 | .pat t,_,_=>ZC t
 | .key t v d,_,_=>ZD t v d
 | .two kd p a b,h,hz=>by
  have im:dD (.two kd p a b):=mL _ h hz
  have ia:fD a:=wX a h.2.1 (by rw [fH] at hz;omega)
  have ib:fD b:=wX b h.2.2 (by rw [fH] at hz;omega)
  rcases h.1 with rfl | rfl | rfl
  ·exact ZB h hz ia ib
  ·exact ZE im ia ib
  ·exact RJ h hz ia ib
 | .star p a,h,hz=>RK h hz (wX a h.2.2 (by rw [fH] at hz;omega)) (mL a h.2.2 (by rw [fH] at hz;omega))
end Go.Proofs.YtlljggefbngkeaaGreatDoor
