import Derived.Test.YtlljggefbngkeaaGreatDoorU17
import Derived.Deep.RegionLaw
import Derived.Deep.RegionHeld3
set_option maxRecDepth 100000
set_option maxHeartbeats 3200000
namespace Go.Proofs.YtlljggefbngkeaaGreatDoor
open Go.RowKit
theorem aCZ {p:Nat} {a b:BT} {u:List UInt8} (h:M (bS a) u):dA (.two 124 p a b) u=dA a u:=by rw [dA,if_pos rfl,if_pos h]
theorem aCY {p:Nat} {a b:BT} {u:List UInt8} (h:¬ M (bS a) u):dA (.two 124 p a b) u=dA b u:=by rw [dA,if_pos rfl,if_neg h]
structure iE (c:BT):Prop where
 go:∀ {w:World} {g:Nat} {P:List iD} {L:List lS} {r:Nat} {f:ByteArray} {gp cap gl cl:Nat} {xs:List Value} {k:Nat} {u:List UInt8},GM w g P L r f gp cap gl cl xs->P.length<=90000->LN P L c k->M (bS c) u->u.length<=1000->
  Calls Tryz.prog 17 #[.pointer (some ⟨g,0,none⟩),.int .i64 k,.string (aE u)] w fun e w'=>Z8 w (dA c u) e w'
theorem aAK (t:PT):iE (.pat t):=by
 refine ⟨?_⟩
 intro w g P L r f gp cap gl cl xs k u hG dI hc hu fF
 obtain ⟨l,hl,_,hlk⟩:=hc
 have eE:=(List.getElem?_eq_some_iff.1 hl).1
 have eC:=hG.lt
 have oU:=hG.ll
 have CS:(k:Int)<(L.length:Int):=by omega
 have c1:=hG.c1
 obtain ⟨l0,l1,l2,l3,l4,l5,l6,l7⟩:=hG.eight hl
 rcases l with ⟨lk,la,lb,lp,lvw,ldf,ls,lv⟩
 simp only at l0 l1 l2 l3 l4 l5 l6 l7 hlk
 subst hlk
 clear hG hl hu
 go_enter Tryz.func17,Tryz.ntmps17
 go_wp2
 go_ret
 exact ⟨by rw [dA];rfl,Kp.alloc _ _ _⟩
theorem aAL (t:PT) (v d:List UInt8):iE (.key t v d):=by
 refine ⟨?_⟩
 intro w g P L r f gp cap gl cl xs k u hG dI hc hu fF
 obtain ⟨l,hl,_,hlk,hlv,_⟩:=hc
 have eE:=(List.getElem?_eq_some_iff.1 hl).1
 have eC:=hG.lt
 have oU:=hG.ll
 have CS:(k:Int)<(L.length:Int):=by omega
 have c1:=hG.c1
 obtain ⟨l0,l1,l2,l3,l4,l5,l6,l7⟩:=hG.eight hl
 rcases l with ⟨lk,la,lb,lp,lvw,ldf,ls,lv⟩
 simp only at l0 l1 l2 l3 l4 l5 l6 l7 hlk hlv
 subst hlk
 subst hlv
 clear hG hl hu
 go_enter Tryz.func17,Tryz.ntmps17
 go_wp2
 go_ret
 exact ⟨by rw [dA];rfl,Kp.alloc _ _ _⟩
theorem aAM {p:Nat} {a b:BT} (ia:iE a) (ib:iE b):iE (.two 124 p a b):=by
 refine ⟨?_⟩
 intro w g P L r f gp cap gl cl xs k u hG dI hc hu fF
 obtain ⟨l,hl,oN,hlk,_,hat,gY,kX⟩:=hc
 obtain ⟨x,hx,hx1⟩:=gY.node
 have eE:=(List.getElem?_eq_some_iff.1 hl).1
 have aY:=(List.getElem?_eq_some_iff.1 hx).1
 clear oN hat
 rcases l with ⟨lk,la,lb,lp,lvw,ldf,ls,lv⟩
 obtain rfl:lk=124:=hlk
 simp only at hx aY gY kX
 have eC:=hG.lt
 have oU:=hG.ll
 have HA:=aB (fun (W:World) (hk:K0 w W)=>gin (d:=aE u) (hG.k0 hk).c0 (hG.k0 hk).pm (by omega) hx1.2.1 hx1.1.2.2.1 (by rw [aO];omega))
 have HL:=aB (fun (W:World) (hk:K0 w W) (h:M (bS a) u)=>ia.go (hG.k0 hk) dI gY h fF)
 have HR:=aB (fun (W:World) (hk:K0 w W) (h:M (bS b) u)=>ib.go (hG.k0 hk) dI kX h fF)
 have HG:=aB (And.intro hG hx)
 have CS:(k:Int)<(L.length:Int):=by omega
 have hai:(la:Int)<(L.length:Int):=by omega
 have c1:=hG.c1
 obtain ⟨l0,l1,l2,l3,l4,l5,l6,l7⟩:=hG.eight hl
 simp only at l0 l1 l2 l3 l4 l5 l6 l7
 have HU:=aB (o8 hu)
 clear hl hx hG hx1 dI gY kX hu
 go_enter Tryz.func17,Tryz.ntmps17
 go_wp2_with fail
 obtain ⟨w1,dC,hs1,b0,cT⟩:=jL w (jW ⟨124,la,lb,lp,lvw,ldf,ls,lv⟩)
 unfold jW at dC b0
 rw [dC]
 have m1:=aC b0 1
 simp at m1
 obtain ⟨_,_,_,_,_,_,x6,_⟩:=((aA HG).1.k0 cT).eight (aA HG).2
 have d1:=((aA HG).1.k0 cT).c1
 have HK1:=aB cT
 have HB0:=aB b0
 clear dC c1 l0 l1 l2 l3 l4 l5 l6 l7 cT b0
 go_region_law (go_simp;go_at_call 30;refine (aA HA _ ((aA HK1).trans (Kp.drew _ _))).mono ?_;rintro e w2 ⟨v,rfl,hv,jX⟩)
 all_goals
  have lJ:=((aA HK1).trans (Kp.drew _ w1)).trans jX
  have a0:=(jX.heap (aD (aA HB0):w.heap.size<w1.drew.heap.size)).trans (aA HB0)
  have n1:=aC a0 1
  have n2:=aC a0 2
  simp at n1 n2
  rw [lC] at hv
  have HV:=aB hv
  have M8:=aB lJ
  clear hv lJ jX a0 d1 x6 m1
  cases v
  ·have i6:¬ M (bS a) u:=fun h=>by have:=(aA HV).2 h;cases this
   have HC:=aB (aA HR _ (aA M8) ((aA HU).resolve_left i6))
   have JP:=aB i6
   clear i6
   go_wp2_with fail
   refine (aA HC).mono ?_
   rintro e w3 ⟨rfl,hk3⟩
   go_wp2
   go_ret
   exact ⟨by rw [aCY (aA JP)];rfl,(aA M8).trans hk3⟩
  ·have i6:M (bS a) u:=(aA HV).1 rfl
   have HC:=aB (aA HL _ (aA M8) i6)
   have JP:=aB i6
   clear i6
   go_wp2_with fail
   refine (aA HC).mono ?_
   rintro e w3 ⟨rfl,hk3⟩
   go_wp2
   go_ret
   exact ⟨by rw [aCZ (aA JP)];rfl,(aA M8).trans hk3⟩
theorem LL {kd:Int} {p:Nat} {a b:BT} (fV:kd=114\/kd=126) (hne:pQ (.two kd p a b)) (hsz:fH (.two kd p a b)<=800) (ia:iE a) (ib:iE b):iE (.two kd p a b):=by
 refine ⟨?_⟩
 intro w g P L r f gp cap gl cl xs k u hG dI hc hu fF
 obtain ⟨l,hl,oN,hlk,_,hat,gY,kX⟩:=hc
 obtain ⟨x,hx,hx1⟩:=gY.node
 obtain ⟨y,hy,nL⟩:=kX.node
 have eE:=(List.getElem?_eq_some_iff.1 hl).1
 have aY:=(List.getElem?_eq_some_iff.1 hx).1
 have hk2:=(List.getElem?_eq_some_iff.1 hy).1
 clear oN hat
 rcases l with ⟨lk,la,lb,lp,lvw,ldf,ls,lv⟩
 obtain rfl:lk=kd:=hlk
 simp only at hx hy aY hk2 gY kX
 have aBG:lk≠124:=by omega
 have eC:=hG.lt
 have oU:=hG.ll
 have hcut:=wS aBG hu
 obtain ⟨_,dU,h1,h2,_⟩:=bQ hcut
 have hlen:=tT _ hne u hu
 have fQ:=e9 (n:=u.length) hsz fF
 have HP:=aB (fun (W:World) (hk:K0 w W)=>nR (hG.k0 hk).c0 (hG.k0 hk).pm dI hx1.2.1 hx1.1.2.2.1 nL.2.1 nL.1.2.2.1 fF hcut)
 have HL:=aB (fun (W:World) (hk:K0 w W)=>ia.go (hG.k0 hk) dI gY h1 (by rw [List.length_take];omega))
 have HR:=aB (fun (W:World) (hk:K0 w W)=>ib.go (hG.k0 hk) dI kX h2 (by rw [List.length_drop];omega))
 have HG:=aB (And.intro hG (And.intro hx hy))
 have CS:(k:Int)<(L.length:Int):=by omega
 have hai:(la:Int)<(L.length:Int):=by omega
 have hbi:(lb:Int)<(L.length:Int):=by omega
 have c1:=hG.c1
 obtain ⟨l0,l1,l2,l3,l4,l5,l6,l7⟩:=hG.eight hl
 simp only at l0 l1 l2 l3 l4 l5 l6 l7
 have hF:dA (.two lk p a b) u=if lk=126 then dA b (u.drop (aH (bS a) (bS b) u))++dA a (u.take (aH (bS a) (bS b) u)) else dA a (u.take (aH (bS a) (bS b) u))++dA b (u.drop (aH (bS a) (bS b) u)):=by rw [dA,if_neg aBG]
 have C6:(dA a (u.take (aH (bS a) (bS b) u))).length+(dA b (u.drop (aH (bS a) (bS b) u))).length<=98000000:=by
  have:(dA (.two lk p a b) u).length=(dA a (u.take (aH (bS a) (bS b) u))).length+(dA b (u.drop (aH (bS a) (bS b) u))).length:=by
   rw [hF]
   split
   ·rw [List.length_append];omega
   ·rw [List.length_append]
  omega
 have HF:=aB hF
 have NZ:((aH (bS a) (bS b) u:Nat):Int)<=(u.length:Int):=by omega
 have AK:(aE u).extract 0 (aH (bS a) (bS b) u)=aE (u.take (aH (bS a) (bS b) u)):=mW _ _
 have WZ:(aE u).extract (aH (bS a) (bS b) u) u.length=aE (u.drop (aH (bS a) (bS b) u)):=kF _ _
 have hsu:(aE u).size=u.length:=aO u
 have e1:((aE (dA a (u.take (aH (bS a) (bS b) u)))).size:Int)<=98000000:=by rw [aO];omega
 have e2:((aE (dA b (u.drop (aH (bS a) (bS b) u)))).size:Int)<=98000000:=by rw [aO];omega
 clear hl hx hy hG hx1 nL dI gY kX hu hF hcut h1 h2 hne hsz hlen fQ ia ib dU C6
 generalize aH (bS a) (bS b) u=i at *
 generalize dA a (u.take i)=ra at *
 generalize dA b (u.drop i)=rb at *
 go_enter Tryz.func17,Tryz.ntmps17
 rcases fV with rfl | rfl
 ·go_wp2_with fail
  obtain ⟨w1,dC,hs1,b0,cT⟩:=jL w (jW ⟨114,la,lb,lp,lvw,ldf,ls,lv⟩)
  unfold jW at dC b0
  rw [dC]
  have m0:=aC b0 0
  have m1:=aC b0 1
  have m2:=aC b0 2
  simp at m0 m1 m2
  obtain ⟨_,_,_,_,_,_,x6,_⟩:=((aA HG).1.k0 cT).eight (aA HG).2.1
  obtain ⟨_,_,_,_,_,_,y6,_⟩:=((aA HG).1.k0 cT).eight (aA HG).2.2
  have d1:=((aA HG).1.k0 cT).c1
  have fV:K0 w w1.drew:=cT.trans (Kp.drew _ _)
  have gA:∀ W W':World,(K0 w W/\W.cell? ⟨g,1,none⟩=some (.slice (some ⟨gl,0,none⟩) L.length cl)/\W.cell? ⟨w.heap.size,1,none⟩=some (.int .i64 la)/\W.cell? ⟨w.heap.size,2,none⟩=some (.int .i64 lb)/\W.cell? ⟨gl,la*8+6,none⟩=some (.int .i64 x.s)/\W.cell? ⟨gl,lb*8+6,none⟩=some (.int .i64 y.s)/\W.cell? ⟨w.heap.size,0,none⟩=some (.int .u8 114))->K0 W W'->(K0 w W'/\W'.cell? ⟨g,1,none⟩=some (.slice (some ⟨gl,0,none⟩) L.length cl)/\W'.cell? ⟨w.heap.size,1,none⟩=some (.int .i64 la)/\W'.cell? ⟨w.heap.size,2,none⟩=some (.int .i64 lb)/\W'.cell? ⟨gl,la*8+6,none⟩=some (.int .i64 x.s)/\W'.cell? ⟨gl,lb*8+6,none⟩=some (.int .i64 y.s)/\W'.cell? ⟨w.heap.size,0,none⟩=some (.int .u8 114)):=fun W W' h hk=>⟨h.1.trans hk,hk.cell h.2.1,hk.cell h.2.2.1,hk.cell h.2.2.2.1,hk.cell h.2.2.2.2.1,hk.cell h.2.2.2.2.2.1,hk.cell h.2.2.2.2.2.2⟩
  have m9:Hid (∀ W:World,(K0 w W/\W.cell? ⟨g,1,none⟩=some (.slice (some ⟨gl,0,none⟩) L.length cl)/\W.cell? ⟨w.heap.size,1,none⟩=some (.int .i64 la)/\W.cell? ⟨w.heap.size,2,none⟩=some (.int .i64 lb)/\W.cell? ⟨gl,la*8+6,none⟩=some (.int .i64 x.s)/\W.cell? ⟨gl,lb*8+6,none⟩=some (.int .i64 y.s)/\W.cell? ⟨w.heap.size,0,none⟩=some (.int .u8 114))->Calls Tryz.prog 29 #[.pointer (some ⟨g,0,none⟩),.int .i64 x.s,.int .i64 y.s,.string (aE u)] W fun e W'=>(∃ n:Int,e = .returned (.tuple #[.int .i64 n,.int .i64 ((i:Nat):Int)]))/\(K0 w W'/\W'.cell? ⟨g,1,none⟩=some (.slice (some ⟨gl,0,none⟩) L.length cl)/\W'.cell? ⟨w.heap.size,1,none⟩=some (.int .i64 la)/\W'.cell? ⟨w.heap.size,2,none⟩=some (.int .i64 lb)/\W'.cell? ⟨gl,la*8+6,none⟩=some (.int .i64 x.s)/\W'.cell? ⟨gl,lb*8+6,none⟩=some (.int .i64 y.s)/\W'.cell? ⟨w.heap.size,0,none⟩=some (.int .u8 114))):=
   aB (fun W h=>(aA HP W h.1).mono (fun e W' h2=>⟨h2.1,gA W W' h h2.2⟩))
  have lM:Hid (∀ W:World,(K0 w W/\W.cell? ⟨g,1,none⟩=some (.slice (some ⟨gl,0,none⟩) L.length cl)/\W.cell? ⟨w.heap.size,1,none⟩=some (.int .i64 la)/\W.cell? ⟨w.heap.size,2,none⟩=some (.int .i64 lb)/\W.cell? ⟨gl,la*8+6,none⟩=some (.int .i64 x.s)/\W.cell? ⟨gl,lb*8+6,none⟩=some (.int .i64 y.s)/\W.cell? ⟨w.heap.size,0,none⟩=some (.int .u8 114))->Calls Tryz.prog 17 #[.pointer (some ⟨g,0,none⟩),.int .i64 la,.string (aE (u.take i))] W fun e W'=>e = .returned (.string (aE ra))/\(K0 w W'/\W'.cell? ⟨g,1,none⟩=some (.slice (some ⟨gl,0,none⟩) L.length cl)/\W'.cell? ⟨w.heap.size,1,none⟩=some (.int .i64 la)/\W'.cell? ⟨w.heap.size,2,none⟩=some (.int .i64 lb)/\W'.cell? ⟨gl,la*8+6,none⟩=some (.int .i64 x.s)/\W'.cell? ⟨gl,lb*8+6,none⟩=some (.int .i64 y.s)/\W'.cell? ⟨w.heap.size,0,none⟩=some (.int .u8 114))):=
   aB (fun W h=>(aA HL W h.1).mono (fun e W' h2=>⟨h2.1,gA W W' h h2.2⟩))
  have tE:Hid (∀ W:World,(K0 w W/\W.cell? ⟨g,1,none⟩=some (.slice (some ⟨gl,0,none⟩) L.length cl)/\W.cell? ⟨w.heap.size,1,none⟩=some (.int .i64 la)/\W.cell? ⟨w.heap.size,2,none⟩=some (.int .i64 lb)/\W.cell? ⟨gl,la*8+6,none⟩=some (.int .i64 x.s)/\W.cell? ⟨gl,lb*8+6,none⟩=some (.int .i64 y.s)/\W.cell? ⟨w.heap.size,0,none⟩=some (.int .u8 114))->Calls Tryz.prog 17 #[.pointer (some ⟨g,0,none⟩),.int .i64 lb,.string (aE (u.drop i))] W fun e W'=>e = .returned (.string (aE rb))/\(K0 w W'/\W'.cell? ⟨g,1,none⟩=some (.slice (some ⟨gl,0,none⟩) L.length cl)/\W'.cell? ⟨w.heap.size,1,none⟩=some (.int .i64 la)/\W'.cell? ⟨w.heap.size,2,none⟩=some (.int .i64 lb)/\W'.cell? ⟨gl,la*8+6,none⟩=some (.int .i64 x.s)/\W'.cell? ⟨gl,lb*8+6,none⟩=some (.int .i64 y.s)/\W'.cell? ⟨w.heap.size,0,none⟩=some (.int .u8 114))):=
   aB (fun W h=>(aA HR W h.1).mono (fun e W' h2=>⟨h2.1,gA W W' h h2.2⟩))
  clear dC c1 l0 l1 l2 l3 l4 l5 l6 l7 cT b0 gA HP HL HR HG
  go_region_held3 (fun W=>(K0 w W/\W.cell? ⟨g,1,none⟩=some (.slice (some ⟨gl,0,none⟩) L.length cl)/\W.cell? ⟨w.heap.size,1,none⟩=some (.int .i64 la)/\W.cell? ⟨w.heap.size,2,none⟩=some (.int .i64 lb)/\W.cell? ⟨gl,la*8+6,none⟩=some (.int .i64 x.s)/\W.cell? ⟨gl,lb*8+6,none⟩=some (.int .i64 y.s)/\W.cell? ⟨w.heap.size,0,none⟩=some (.int .u8 114))) (go_keep) (first | (go_at_call 29;refine (aA m9 _ (by assumption)).mono ?_;rintro e w2 ⟨⟨n,rfl⟩,iH⟩))
  clear x6 y6 d1 m0 m1 m2 fV m9
  have NX:K0 w w2.drew:=iH.1.trans (Kp.drew _ _)
  go_wp2_with fail
  go_region_held3 (fun W=>(K0 w W/\W.cell? ⟨g,1,none⟩=some (.slice (some ⟨gl,0,none⟩) L.length cl)/\W.cell? ⟨w.heap.size,1,none⟩=some (.int .i64 la)/\W.cell? ⟨w.heap.size,2,none⟩=some (.int .i64 lb)/\W.cell? ⟨gl,la*8+6,none⟩=some (.int .i64 x.s)/\W.cell? ⟨gl,lb*8+6,none⟩=some (.int .i64 y.s)/\W.cell? ⟨w.heap.size,0,none⟩=some (.int .u8 114))) (go_keep) (first | (go_at_call 17;refine (aA lM _ (by assumption)).mono ?_;rintro e w3 ⟨rfl,fX⟩))
  clear iH NX lM
  have GR:K0 w w3.drew:=fX.1.trans (Kp.drew _ _)
  go_wp2_with fail
  go_region_held3 (fun W=>(K0 w W/\W.cell? ⟨g,1,none⟩=some (.slice (some ⟨gl,0,none⟩) L.length cl)/\W.cell? ⟨w.heap.size,1,none⟩=some (.int .i64 la)/\W.cell? ⟨w.heap.size,2,none⟩=some (.int .i64 lb)/\W.cell? ⟨gl,la*8+6,none⟩=some (.int .i64 x.s)/\W.cell? ⟨gl,lb*8+6,none⟩=some (.int .i64 y.s)/\W.cell? ⟨w.heap.size,0,none⟩=some (.int .u8 114))) (go_keep) (first | (go_at_call 17;refine (aA tE _ (by assumption)).mono ?_;rintro e w4 ⟨rfl,mD⟩))
  clear fX GR tE
  obtain ⟨hk4,_,_,_,_,_,m0⟩:=mD
  go_wp2
  go_ret
  refine ⟨?_,hk4⟩
  rw [aA HF,if_neg (by decide),cU]
  rfl
 ·go_wp2_with fail
  obtain ⟨w1,dC,hs1,b0,cT⟩:=jL w (jW ⟨126,la,lb,lp,lvw,ldf,ls,lv⟩)
  unfold jW at dC b0
  rw [dC]
  have m0:=aC b0 0
  have m1:=aC b0 1
  have m2:=aC b0 2
  simp at m0 m1 m2
  obtain ⟨_,_,_,_,_,_,x6,_⟩:=((aA HG).1.k0 cT).eight (aA HG).2.1
  obtain ⟨_,_,_,_,_,_,y6,_⟩:=((aA HG).1.k0 cT).eight (aA HG).2.2
  have d1:=((aA HG).1.k0 cT).c1
  have fV:K0 w w1.drew:=cT.trans (Kp.drew _ _)
  have gA:∀ W W':World,(K0 w W/\W.cell? ⟨g,1,none⟩=some (.slice (some ⟨gl,0,none⟩) L.length cl)/\W.cell? ⟨w.heap.size,1,none⟩=some (.int .i64 la)/\W.cell? ⟨w.heap.size,2,none⟩=some (.int .i64 lb)/\W.cell? ⟨gl,la*8+6,none⟩=some (.int .i64 x.s)/\W.cell? ⟨gl,lb*8+6,none⟩=some (.int .i64 y.s)/\W.cell? ⟨w.heap.size,0,none⟩=some (.int .u8 126))->K0 W W'->(K0 w W'/\W'.cell? ⟨g,1,none⟩=some (.slice (some ⟨gl,0,none⟩) L.length cl)/\W'.cell? ⟨w.heap.size,1,none⟩=some (.int .i64 la)/\W'.cell? ⟨w.heap.size,2,none⟩=some (.int .i64 lb)/\W'.cell? ⟨gl,la*8+6,none⟩=some (.int .i64 x.s)/\W'.cell? ⟨gl,lb*8+6,none⟩=some (.int .i64 y.s)/\W'.cell? ⟨w.heap.size,0,none⟩=some (.int .u8 126)):=fun W W' h hk=>⟨h.1.trans hk,hk.cell h.2.1,hk.cell h.2.2.1,hk.cell h.2.2.2.1,hk.cell h.2.2.2.2.1,hk.cell h.2.2.2.2.2.1,hk.cell h.2.2.2.2.2.2⟩
  have m9:Hid (∀ W:World,(K0 w W/\W.cell? ⟨g,1,none⟩=some (.slice (some ⟨gl,0,none⟩) L.length cl)/\W.cell? ⟨w.heap.size,1,none⟩=some (.int .i64 la)/\W.cell? ⟨w.heap.size,2,none⟩=some (.int .i64 lb)/\W.cell? ⟨gl,la*8+6,none⟩=some (.int .i64 x.s)/\W.cell? ⟨gl,lb*8+6,none⟩=some (.int .i64 y.s)/\W.cell? ⟨w.heap.size,0,none⟩=some (.int .u8 126))->Calls Tryz.prog 29 #[.pointer (some ⟨g,0,none⟩),.int .i64 x.s,.int .i64 y.s,.string (aE u)] W fun e W'=>(∃ n:Int,e = .returned (.tuple #[.int .i64 n,.int .i64 ((i:Nat):Int)]))/\(K0 w W'/\W'.cell? ⟨g,1,none⟩=some (.slice (some ⟨gl,0,none⟩) L.length cl)/\W'.cell? ⟨w.heap.size,1,none⟩=some (.int .i64 la)/\W'.cell? ⟨w.heap.size,2,none⟩=some (.int .i64 lb)/\W'.cell? ⟨gl,la*8+6,none⟩=some (.int .i64 x.s)/\W'.cell? ⟨gl,lb*8+6,none⟩=some (.int .i64 y.s)/\W'.cell? ⟨w.heap.size,0,none⟩=some (.int .u8 126))):=
   aB (fun W h=>(aA HP W h.1).mono (fun e W' h2=>⟨h2.1,gA W W' h h2.2⟩))
  have lM:Hid (∀ W:World,(K0 w W/\W.cell? ⟨g,1,none⟩=some (.slice (some ⟨gl,0,none⟩) L.length cl)/\W.cell? ⟨w.heap.size,1,none⟩=some (.int .i64 la)/\W.cell? ⟨w.heap.size,2,none⟩=some (.int .i64 lb)/\W.cell? ⟨gl,la*8+6,none⟩=some (.int .i64 x.s)/\W.cell? ⟨gl,lb*8+6,none⟩=some (.int .i64 y.s)/\W.cell? ⟨w.heap.size,0,none⟩=some (.int .u8 126))->Calls Tryz.prog 17 #[.pointer (some ⟨g,0,none⟩),.int .i64 la,.string (aE (u.take i))] W fun e W'=>e = .returned (.string (aE ra))/\(K0 w W'/\W'.cell? ⟨g,1,none⟩=some (.slice (some ⟨gl,0,none⟩) L.length cl)/\W'.cell? ⟨w.heap.size,1,none⟩=some (.int .i64 la)/\W'.cell? ⟨w.heap.size,2,none⟩=some (.int .i64 lb)/\W'.cell? ⟨gl,la*8+6,none⟩=some (.int .i64 x.s)/\W'.cell? ⟨gl,lb*8+6,none⟩=some (.int .i64 y.s)/\W'.cell? ⟨w.heap.size,0,none⟩=some (.int .u8 126))):=
   aB (fun W h=>(aA HL W h.1).mono (fun e W' h2=>⟨h2.1,gA W W' h h2.2⟩))
  have tE:Hid (∀ W:World,(K0 w W/\W.cell? ⟨g,1,none⟩=some (.slice (some ⟨gl,0,none⟩) L.length cl)/\W.cell? ⟨w.heap.size,1,none⟩=some (.int .i64 la)/\W.cell? ⟨w.heap.size,2,none⟩=some (.int .i64 lb)/\W.cell? ⟨gl,la*8+6,none⟩=some (.int .i64 x.s)/\W.cell? ⟨gl,lb*8+6,none⟩=some (.int .i64 y.s)/\W.cell? ⟨w.heap.size,0,none⟩=some (.int .u8 126))->Calls Tryz.prog 17 #[.pointer (some ⟨g,0,none⟩),.int .i64 lb,.string (aE (u.drop i))] W fun e W'=>e = .returned (.string (aE rb))/\(K0 w W'/\W'.cell? ⟨g,1,none⟩=some (.slice (some ⟨gl,0,none⟩) L.length cl)/\W'.cell? ⟨w.heap.size,1,none⟩=some (.int .i64 la)/\W'.cell? ⟨w.heap.size,2,none⟩=some (.int .i64 lb)/\W'.cell? ⟨gl,la*8+6,none⟩=some (.int .i64 x.s)/\W'.cell? ⟨gl,lb*8+6,none⟩=some (.int .i64 y.s)/\W'.cell? ⟨w.heap.size,0,none⟩=some (.int .u8 126))):=
   aB (fun W h=>(aA HR W h.1).mono (fun e W' h2=>⟨h2.1,gA W W' h h2.2⟩))
  clear dC c1 l0 l1 l2 l3 l4 l5 l6 l7 cT b0 gA HP HL HR HG
  go_region_held3 (fun W=>(K0 w W/\W.cell? ⟨g,1,none⟩=some (.slice (some ⟨gl,0,none⟩) L.length cl)/\W.cell? ⟨w.heap.size,1,none⟩=some (.int .i64 la)/\W.cell? ⟨w.heap.size,2,none⟩=some (.int .i64 lb)/\W.cell? ⟨gl,la*8+6,none⟩=some (.int .i64 x.s)/\W.cell? ⟨gl,lb*8+6,none⟩=some (.int .i64 y.s)/\W.cell? ⟨w.heap.size,0,none⟩=some (.int .u8 126))) (go_keep) (first | (go_at_call 29;refine (aA m9 _ (by assumption)).mono ?_;rintro e w2 ⟨⟨n,rfl⟩,iH⟩))
  clear x6 y6 d1 m0 m1 m2 fV m9
  have NX:K0 w w2.drew:=iH.1.trans (Kp.drew _ _)
  go_wp2_with fail
  go_region_held3 (fun W=>(K0 w W/\W.cell? ⟨g,1,none⟩=some (.slice (some ⟨gl,0,none⟩) L.length cl)/\W.cell? ⟨w.heap.size,1,none⟩=some (.int .i64 la)/\W.cell? ⟨w.heap.size,2,none⟩=some (.int .i64 lb)/\W.cell? ⟨gl,la*8+6,none⟩=some (.int .i64 x.s)/\W.cell? ⟨gl,lb*8+6,none⟩=some (.int .i64 y.s)/\W.cell? ⟨w.heap.size,0,none⟩=some (.int .u8 126))) (go_keep) (first | (go_at_call 17;refine (aA lM _ (by assumption)).mono ?_;rintro e w3 ⟨rfl,fX⟩))
  clear iH NX lM
  have GR:K0 w w3.drew:=fX.1.trans (Kp.drew _ _)
  go_wp2_with fail
  go_region_held3 (fun W=>(K0 w W/\W.cell? ⟨g,1,none⟩=some (.slice (some ⟨gl,0,none⟩) L.length cl)/\W.cell? ⟨w.heap.size,1,none⟩=some (.int .i64 la)/\W.cell? ⟨w.heap.size,2,none⟩=some (.int .i64 lb)/\W.cell? ⟨gl,la*8+6,none⟩=some (.int .i64 x.s)/\W.cell? ⟨gl,lb*8+6,none⟩=some (.int .i64 y.s)/\W.cell? ⟨w.heap.size,0,none⟩=some (.int .u8 126))) (go_keep) (first | (go_at_call 17;refine (aA tE _ (by assumption)).mono ?_;rintro e w4 ⟨rfl,mD⟩))
  clear fX GR tE
  obtain ⟨hk4,_,_,_,_,_,m0⟩:=mD
  go_wp2
  go_ret
  refine ⟨?_,hk4⟩
  first | rw [aA HF,if_pos rfl,cU] | rw [aA HF,cU] | rw [aA HF,if_pos trivial,cU]
  rfl
theorem UU {p:Nat} {a:BT} (hne:pQ (.star p a)) (hsz:fH (.star p a)<=800) (ia:iE a):iE (.star p a):=by
 refine ⟨?_⟩
 intro w g P L r f gp cap gl cl xs k u hG dI hc hu fF
 obtain ⟨l,hl,oN,hlk,hat,gY⟩:=hc
 obtain ⟨x,hx,hx1⟩:=gY.node
 have eE:=(List.getElem?_eq_some_iff.1 hl).1
 have aY:=(List.getElem?_eq_some_iff.1 hx).1
 clear oN hat
 rcases l with ⟨lk,la,lb,lp,lvw,ldf,ls,lv⟩
 obtain rfl:lk=42:=hlk
 simp only at hx aY gY
 have eC:=hG.lt
 have oU:=hG.ll
 obtain ⟨eI,eG⟩:=lH hne.1 (u:=u) hu
 have hlen:=tT _ hne u hu
 have fQ:=e9 (n:=u.length) hsz fF
 have hpl:∀ y,y∈dV (bS a) u->y.length<=1000:=fun y hy=>by
  have:y.length<=(dV (bS a) u).flatten.length:=(List.sublist_flatten_of_mem hy).length_le
  rw [eG] at this
  omega
 have f9:(dV (bS a) u).length<=1000:=by
  have:(dV (bS a) u).length<=(dV (bS a) u).flatten.length:=by
   generalize dV (bS a) u=q at eI
   clear hlen
   induction q with
   | nil=>simp
   | cons y q ih=>
    have h1:=ih (fun z hz=>eI z (List.mem_cons_of_mem _ hz))
    have h2:=List.length_pos_iff.2 (eI y List.mem_cons_self).2
    rw [List.flatten_cons,List.length_append,List.length_cons]
    omega
  rw [eG] at this
  omega
 have HP:=aB (fun (W:World) (hk:K0 w W)=>r7 (hG.k0 hk).c0 (hG.k0 hk).pm dI hx1.2.1 hx1.1.1 hx1.1.2.2.1 hne.1 hu fF)
 have HL:=aB (fun (W:World) (hk:K0 w W) (y:List UInt8) (hy:y∈dV (bS a) u)=>ia.go (hG.k0 hk) dI gY (eI y hy).1 (hpl y hy))
 have HG:=aB (And.intro hG hx)
 have CS:(k:Int)<(L.length:Int):=by omega
 have hai:(la:Int)<(L.length:Int):=by omega
 have c1:=hG.c1
 obtain ⟨l0,l1,l2,l3,l4,l5,l6,l7⟩:=hG.eight hl
 simp only at l0 l1 l2 l3 l4 l5 l6 l7
 have hF:dA (.star p a) u=(dV (bS a) u).flatMap (dA a):=by rw [dA]
 have aEG:((dV (bS a) u).flatMap (dA a)).length<=98000000:=by rw [← hF];omega
 have HF:=aB hF
 clear hl hx hG hx1 dI gY hu hF hne hsz hlen fQ ia eI eG hpl
 generalize dV (bS a) u=q at *
 generalize dA a=fa at *
 go_enter Tryz.func17,Tryz.ntmps17
 go_wp2_with fail
 obtain ⟨w1,dC,hs1,b0,cT⟩:=jL w (jW ⟨42,la,lb,lp,lvw,ldf,ls,lv⟩)
 unfold jW at dC b0
 rw [dC]
 have m1:=aC b0 1
 simp at m1
 obtain ⟨_,_,_,_,_,_,x6,_⟩:=((aA HG).1.k0 cT).eight (aA HG).2
 have d1:=((aA HG).1.k0 cT).c1
 have fV:K0 w w1.drew:=cT.trans (Kp.drew _ _)
 have m9:Hid (∀ W:World,(K0 w W/\W.cell? ⟨g,1,none⟩=some (.slice (some ⟨gl,0,none⟩) L.length cl)/\W.cell? ⟨w.heap.size,1,none⟩=some (.int .i64 la)/\W.cell? ⟨gl,la*8+6,none⟩=some (.int .i64 x.s))->
   Calls Tryz.prog 36 #[.pointer (some ⟨g,0,none⟩),.int .i64 x.s,.string (aE u)] W fun e W'=>(∃ v,e = .returned v/\W'.ownsRow 0 9 1 v q.length (cD q))/\(K0 w W'/\W'.cell? ⟨g,1,none⟩=some (.slice (some ⟨gl,0,none⟩) L.length cl)/\W'.cell? ⟨w.heap.size,1,none⟩=some (.int .i64 la)/\W'.cell? ⟨gl,la*8+6,none⟩=some (.int .i64 x.s))):=
  aB (fun W h=>(aA HP W h.1).mono (fun e W' h2=>by
   obtain ⟨v,rfl,ho,hk⟩:=h2
   exact ⟨⟨v,rfl,ho⟩,h.1.trans hk,hk.cell h.2.1,hk.cell h.2.2.1,hk.cell h.2.2.2⟩))
 clear dC c1 l0 l1 l2 l3 l4 l5 l6 l7 cT b0 HP HG
 go_region_held3 (fun W=>K0 w W/\W.cell? ⟨g,1,none⟩=some (.slice (some ⟨gl,0,none⟩) L.length cl)/\W.cell? ⟨w.heap.size,1,none⟩=some (.int .i64 la)/\W.cell? ⟨gl,la*8+6,none⟩=some (.int .i64 x.s)) (go_keep) (first | (go_at_call 36;refine (aA m9 _ (by assumption)).mono ?_;rintro e w2 ⟨⟨v,rfl,ho⟩,iH⟩))
 clear x6 d1 m1 fV m9
 obtain ⟨ao,cp,rfl⟩:=aG ho
 obtain ⟨hk2,_,m1,_⟩:=iH
 have HO:=aB (And.intro ho hk2)
 clear ho hk2
 go_wp2_with fail
 go_loopg [9,11] (q.length+2) (fun gk ov iv wv=>∃ m:Nat,iv = .int .i64 (m:Int)/\m<=q.length/\q.length-m<gk/\ov = .string (aE ((q.take m).flatMap fa))/\K0 w2 wv)
 case atStart=>exact ⟨0,rfl,Nat.zero_le _,by omega,rfl,K0.refl _⟩
 case round=>
  obtain ⟨m,rfl,hm,fW,rfl,hK⟩:=hrel
  have dC:IntKind.i64.wrap ((m:Int)+1)=(m:Int)+1:=IntWalk.i64_in _ (by omega)
  by_cases hlt:m<q.length
  ·have q7:(m:Int)<(q.length:Int):=by omega
   obtain ⟨vb,cap2,e,_,dB⟩:=(aA HO).1.form (by omega)
   injection e with e1 e2 e3
   subst e1
   clear e2 e3 cap2
   have n1:wr.cell? ⟨w.heap.size,1,none⟩=some (.int .i64 la):=hK.cell m1
   have ns:wr.cell? ⟨vb,m,none⟩=some (.string (aE q[m])):=by
    have h2:=(aA HO).1.cellAt m (by omega)
    have:(cD q)[m]? = some (.string (aE q[m])):=by simp [cD,hlt]
    rw [this] at h2
    exact hK.cell h2
   have fV:K0 w wr.drew:=((aA HO).2.trans hK).trans (Kp.drew _ _)
   have hkw:K0 w2 wr.drew:=hK.trans (Kp.drew _ _)
   have lM:Hid (∀ W:World,(K0 w W/\K0 w2 W/\W.cell? ⟨w.heap.size,1,none⟩=some (.int .i64 la)/\W.cell? ⟨vb,m,none⟩=some (.string (aE q[m])))->
     Calls Tryz.prog 17 #[.pointer (some ⟨g,0,none⟩),.int .i64 la,.string (aE q[m])] W fun e W'=>e = .returned (.string (aE (fa q[m])))/\(K0 w W'/\K0 w2 W'/\W'.cell? ⟨w.heap.size,1,none⟩=some (.int .i64 la)/\W'.cell? ⟨vb,m,none⟩=some (.string (aE q[m])))):=
    aB (fun W h=>(aA HL W h.1 q[m] (List.getElem_mem hlt)).mono (fun e W' h2=>⟨h2.1,h.1.trans h2.2,h.2.1.trans h2.2,h2.2.cell h.2.2.1,h2.2.cell h.2.2.2⟩))
   have s1:(aE ((q.take m).flatMap fa)).size+(aE (fa q[m])).size<=98000000:=by
    have:=rC (f:=fa) q (m+1)
    rw [mH hlt,List.length_append] at this
    rw [aO,aO]
    omega
   clear hK
   go_wp2_with fail
   go_region_held3 (fun W=>K0 w W/\K0 w2 W/\W.cell? ⟨w.heap.size,1,none⟩=some (.int .i64 la)/\W.cell? ⟨vb,m,none⟩=some (.string (aE q[m]))) (go_keep) (first | (go_at_call 17;refine (aA lM _ (by assumption)).mono ?_;rintro e w3 ⟨rfl,fX⟩))
   clear lM fV hkw n1 ns
   have HS3:=aB fX
   clear fX
   go_wp2_with fail
   go_roundg (gk-1)
   case measure=>omega
   case rel=>exact ⟨m+1,by go_num,by omega,by omega,by rw [mH hlt,cU],(aA HS3).2.1⟩
  ·have q7:¬ (m:Int)<(q.length:Int):=by omega
   obtain rfl:m=q.length:=by omega
   have HK:=aB ((aA HO).2.trans hK)
   clear hK
   go_wp2
   go_ret
   refine ⟨?_,aA HK⟩
   rw [aA HF]
   rfl
theorem xP:∀ (c:BT),pQ c->fH c<=800->iE c
 | .pat t,_,_=>aAK t
 | .key t v d,_,_=>aAL t v d
 | .two kd p a b,h,hz=>by
  have ia:iE a:=xP a h.2.1 (by rw [fH] at hz;omega)
  have ib:iE b:=xP b h.2.2 (by rw [fH] at hz;omega)
  rcases h.1 with rfl | rfl | rfl
  ·exact LL (.inl rfl) h hz ia ib
  ·exact aAM ia ib
  ·exact LL (.inr rfl) h hz ia ib
 | .star p a,h,hz=>UU h hz (xP a h.2.2 (by rw [fH] at hz;omega))
end Go.Proofs.YtlljggefbngkeaaGreatDoor
