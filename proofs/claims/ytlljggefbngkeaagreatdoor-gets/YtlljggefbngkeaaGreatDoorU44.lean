import Derived.Test.YtlljggefbngkeaaGreatDoorU43
import Derived.Test.YtlljggefbngkeaaGreatDoorU42
import Derived.Test.YtlljggefbngkeaaGreatDoorU38
set_option maxRecDepth 100000
set_option maxHeartbeats 3200000
namespace Go.Proofs.YtlljggefbngkeaaGreatDoor
open Go.RowKit Go.Shelf
theorem RU (m:Int):∀ (ps:List (Nat×Nat)) (i:Nat) (p:Nat×Nat),ps[i]? = some p->(ps.flatMap (A9 m))[i*3]? = some (.int .i64 m)/\(ps.flatMap (A9 m))[i*3+1]? = some (.pointer (some ⟨p.1,0,none⟩))/\(ps.flatMap (A9 m))[i*3+2]? = some (.pointer (some ⟨p.2,0,none⟩))
 | [],i,p,h=>by simp at h
 | x::ps,0,p,h=>by
  rw [List.getElem?_cons_zero] at h
  obtain rfl:=Option.some.inj h
  simp [A9]
 | x::ps,i+1,p,h=>by
  rw [List.getElem?_cons_succ] at h
  obtain ⟨h1,h2,h3⟩:=RU m ps i p h
  have hl:(A9 m x).length=3:=rfl
  rw [List.flatMap_cons,List.getElem?_append_right (by rw [hl];omega),List.getElem?_append_right (by rw [hl];omega),List.getElem?_append_right (by rw [hl];omega),hl]
  rw [show (i+1)*3-3=i*3 by omega,show (i+1)*3+1-3=i*3+1 by omega,show (i+1)*3+2-3=i*3+2 by omega]
  exact ⟨h1,h2,h3⟩
theorem QE.cells {Y:Nat->Prop} {w:World} {m:Int} {sb n cap:Nat} {ps:List (Nat×Nat)} {AB:List (PT×PT)} (h:QE Y w m (.slice (some ⟨sb,0,none⟩) n cap) ps AB) {i:Nat} {p:Nat×Nat} (hp:ps[i]? = some p):w.cell? ⟨sb,i*3,none⟩=some (.int .i64 m)/\w.cell? ⟨sb,i*3+1,none⟩=some (.pointer (some ⟨p.1,0,none⟩))/\w.cell? ⟨sb,i*3+2,none⟩=some (.pointer (some ⟨p.2,0,none⟩)):=by
 have hi:=(List.getElem?_eq_some_iff.1 hp).1
 have hn:n=ps.length:=by
  rcases h.own.2 with ⟨h',_⟩ | ⟨g',cap',cur,h',_⟩
  ·simp at h'
  ·injection h'
 subst hn
 obtain ⟨h1,h2,h3⟩:=RU m ps i p hp
 rw [h.own.cellAt (i*3) (by omega),h.own.cellAt (i*3+1) (by omega),h.own.cellAt (i*3+2) (by omega)]
 exact ⟨h1,h2,h3⟩
theorem tX:∀ (c:BT),pQ c->∀ c',c'∈eD c->pQ c'
 | .pat t,h,c',hc=>by rw [eD,List.mem_singleton] at hc;rw [hc];exact h
 | .key t v d,h,c',hc=>by rw [eD,List.mem_singleton] at hc;rw [hc];exact h
 | .two kd p a b,h,c',hc=>by
  rw [eD,List.mem_cons,List.mem_append] at hc
  rcases hc with rfl | hc | hc
  ·exact h
  ·exact tX a h.2.1 c' hc
  ·exact tX b h.2.2 c' hc
 | .star p a,h,c',hc=>by
  rw [eD,List.mem_cons] at hc
  rcases hc with rfl | hc
  ·exact h
  ·exact tX a h.2.2 c' hc
theorem tW:∀ (c:BT),∀ c',c'∈eD c->fH c'<=fH c
 | .pat t,c',hc=>by rw [eD,List.mem_singleton] at hc;rw [hc];exact Nat.le_refl _
 | .key t v d,c',hc=>by rw [eD,List.mem_singleton] at hc;rw [hc];exact Nat.le_refl _
 | .two kd p a b,c',hc=>by
  rw [eD,List.mem_cons,List.mem_append] at hc
  rcases hc with rfl | hc | hc
  ·exact Nat.le_refl _
  ·have:=tW a c' hc;rw [fH];omega
  ·have:=tW b c' hc;rw [fH];omega
 | .star p a,c',hc=>by
  rw [eD,List.mem_cons] at hc
  rcases hc with rfl | hc
  ·exact Nat.le_refl _
  ·have:=tW a c' hc;rw [fH];omega
theorem RA {kd:Int} {l:List LT} {ps:List Nat} {m:Nat} {t:LT} {p:Nat} (hl:ps.length+1=l.length) (ht:l[m+1]? = some t) (hp:ps[m]? = some p) (hne:pQ (cX kd l ps)) (hsz:fH (cX kd l ps)<=800):
  pQ (cX kd (l.take (m+1)) (ps.take m))/\pQ (bP t)/\fH (cX kd (l.take (m+1)) (ps.take m))<=800/\fH (bP t)<=800:=by
 have hc:=(iR kd (.two kd p (cX kd (l.take (m+1)) (ps.take m)) (bP t)) ps.length l ps hl.symm rfl).2 (.inr ⟨m,t,p,ht,hp,rfl⟩)
 have h1:=tX _ hne _ hc
 have h2:=tW _ _ hc
 rw [fH] at h2
 exact ⟨h1.2.1,h1.2.2,by omega,by omega⟩
theorem pU {α:Type} {l:List α} {m:Nat} {x:α} (h:l[m]? = some x):l.take (m+1)=l.take m++[x]:=by rw [List.take_add_one,h];rfl
theorem KG (v:Bool) {l:List LT} {ps:List Nat} {m:Nat} (hn:m+1<=l.length) (h:∀ t,t∈l->jZ t) (u:List UInt8):M (gM ((aW v l).take (m+1))) u↔M (bM v (cX 114 (l.take (m+1)) (ps.take m))) u:=by
 rw [A4 v (by rw [List.length_take];omega) (lF v _ fun t ht=>h t (List.mem_of_mem_take ht)),zM,oH]
theorem QZ {Y:Nat->Prop} {w:World} {l:List LT} {ps:List Nat} {sl sls slv:Value} {gs:List Nat} {pss psv:List (Nat×Nat)} (hY:∀ k,Y k->k<w.heap.size) (hC:CsO Y w sl gs (l.map bP)) (hS:QE Y w 1 sls pss (qD (aW false l) (l.length-1))) (hV:QE Y w 2 slv psv (qD (aW true l) (l.length-1))) (hl:ps.length+1=l.length) (h2:2<=l.length) (hN:∀ t,t∈l->jZ t) (hne:pQ (cX 114 l ps)) (hsz:fH (cX 114 l ps)<=800):
  Calls Tryz.prog 75 #[sl,sls,slv] w fun e w'=>lT Y w (cX 114 l ps) e w':=by
 obtain ⟨q,hq⟩:∃ q,l.length=q+1:=⟨l.length-1,by omega⟩
 rw [show l.length-1=q by omega] at hS hV
 have eC:gs.length=q+1:=by rw [hC.len,List.length_map,hq]
 have fU:pss.length=q:=by rw [hS.len,nE]
 have dB:psv.length=q:=by rw [hV.len,nE]
 have hpl:ps.length=q:=by omega
 obtain ⟨vb,cap,rfl,_,aEF⟩:=hC.own.form (by omega)
 obtain ⟨sb,cas,rfl,_,aGU⟩:=hS.own.form (by omega)
 obtain ⟨ub,cau,rfl,_,aID⟩:=hV.own.form (by omega)
 have mC:=hC.few
 have CT:gs.length<=cap:=by
  rcases hC.own.2 with ⟨h',_⟩ | ⟨g',cap',cur,h',_,_,hnc,_⟩
  ·simp at h'
  ·injection h' with _ _ hc
   omega
 have nY:cap<=9223372036854775807:=by
  rcases hC.own.2 with ⟨h',_⟩ | ⟨g',cap',cur,h',_,_,hnc,hcm,_⟩
  ·simp at h'
  ·injection h' with _ _ hc
   unfold maxLen at hcm
   omega
 obtain ⟨g0,hg0⟩:∃ g0,gs[0]? = some g0:=⟨_,List.getElem?_eq_getElem (by omega)⟩
 obtain ⟨t0,ht0⟩:∃ t0,l[0]? = some t0:=⟨_,List.getElem?_eq_getElem (by omega)⟩
 have c0:w.cell? ⟨vb,0,none⟩=some (.pointer (some ⟨g0,0,none⟩)):=by
  rw [hC.own.cellAt 0 (by omega)]
  simp [bD,hg0]
 have hst:CL Y w g0 (cX 114 (l.take 1) (ps.take 0)):=by
  have:=hC.at_ 0 g0 (bP t0) hg0 (by rw [List.getElem?_map,ht0];rfl)
  rw [pU ht0,List.take_zero,List.nil_append,nA]
  exact this
 rw [fU,dB,eC]
 rw [fU] at hS
 rw [dB] at hV
 rw [eC] at hC
 have HE:=aB (And.intro hC (And.intro hS (And.intro hV (And.intro hY (And.intro hN (And.intro hne (And.intro hsz (And.intro (And.intro hpl hq) (And.intro eC (And.intro fU dB))))))))))
 have HST:=aB hst
 have q7:(0:Int)<(q:Int)+1:=by omega
 have XP:(1:Int)<=(q:Int)+1:=by omega
 have i8:(1:Int)<=(cap:Int):=by omega
 rw [eC] at mC CT
 have mB:1<=q:=by omega
 clear hC hS hV hY hN hne hsz hst hg0 ht0 eC fU dB hl hpl h2 hq
 go_enter Tryz.func75,Tryz.ntmps75
 go_wp2_with fail
 clear c0
 go_loopg [7,16] (q+2) (fun gk v7 v16 wv=>∃ (i b:Nat),v7 = .pointer (some ⟨b,0,none⟩)/\v16 = .int .i64 (i:Int)/\i<=q/\q-i<gk/\CL Y wv b (cX 114 (l.take (i+1)) (ps.take i))/\K0 w wv)
 case atStart=>exact ⟨0,g0,rfl,rfl,Nat.zero_le _,by omega,aA HST,K0.refl _⟩
 case round=>
  clear HST
  obtain ⟨i,b,rfl,rfl,hi,fW,rN,hK⟩:=hrel
  obtain ⟨hC,hS,hV,hY,hN,hne,hsz,⟨hl,hn⟩,eC,fU,dB⟩:=aA HE
  by_cases hlt:i<q
  ·have hd:(i:Int)<(q:Int):=by omega
   obtain ⟨g1,hg1⟩:∃ g1,gs[i+1]? = some g1:=⟨_,List.getElem?_eq_getElem (by omega)⟩
   obtain ⟨t1,CJ⟩:∃ t1,l[i+1]? = some t1:=⟨_,List.getElem?_eq_getElem (by omega)⟩
   obtain ⟨pj,hpj⟩:∃ pj,ps[i]? = some pj:=⟨_,List.getElem?_eq_getElem (by omega)⟩
   obtain ⟨⟨p1,p2⟩,hp⟩:∃ p,pss[i]? = some p:=⟨_,List.getElem?_eq_getElem (by omega)⟩
   obtain ⟨⟨q1,q2⟩,hq⟩:∃ p,psv[i]? = some p:=⟨_,List.getElem?_eq_getElem (by omega)⟩
   have ck:wr.cell? ⟨vb,1+i,none⟩=some (.pointer (some ⟨g1,0,none⟩)):=by
    refine hK.cellz (a:=⟨vb,1+i,none⟩) ?_
    have ho:=hC.own
    rw [eC] at ho
    rw [ho.cellAt (1+i) (by omega),Nat.add_comm]
    simp [bD,hg1]
   obtain ⟨s0,s1,s2⟩:=hS.cells hp
   obtain ⟨u0,u1,u2⟩:=hV.cells hq
   have x0:=hK.cellz s0
   have x1:=hK.cellz s1
   have x2:=hK.cellz s2
   have y0:=hK.cellz u0
   have y1:=hK.cellz u1
   have y2:=hK.cellz u2
   simp only at x1 x2 y1 y2 s1 s2 u1 u2
   obtain ⟨r1,r2,r3,r4⟩:=RA (kd:=114) (by omega) CJ hpj hne hsz
   have mS:=hS.at_ i (p1,p2) _ hp (pH _ _ _ hlt)
   have mV:=hV.at_ i (q1,q2) _ hq (pH _ _ _ hlt)
   rw [kI false l _ t1 CJ] at mS
   rw [kI true l _ t1 CJ] at mV
   have hct:=hC.at_ (i+1) g1 (bP t1) hg1 (by rw [List.getElem?_map,CJ];rfl)
   have HP:Hid (∀ V:World,K0 wr V->Calls Tryz.prog 115 #[.pointer (some ⟨b,0,none⟩),.pointer (some ⟨g1,0,none⟩),.agg #[.int .i64 1,.pointer (some ⟨p1,0,none⟩),.pointer (some ⟨p2,0,none⟩)],.agg #[.int .i64 2,.pointer (some ⟨q1,0,none⟩),.pointer (some ⟨q2,0,none⟩)]] V fun e V'=>lT Y V (cX 114 (l.take (i+1+1)) (ps.take (i+1))) e V'):=aB (fun V hKV=>by
    have hk2:KY Y w V:=(hK.trans hKV).ky Y
    rw [pU CJ,pU hpj,tL 114 t1 pj (l.take (i+1)) (ps.take i) (by rw [List.length_take,List.length_take];omega)]
    exact NC pj (fun k hk=>by have:=hY k hk;have:=hK.size;have:=hKV.size;omega) (rN.ky (hKV.ky Y)) (hct.ky hk2) (mS.1.ky hk2) (mS.2.ky hk2) (mV.1.ky hk2) (mV.2.ky hk2) (KG false (by omega) hN) (fun u=>(cV false t1 (hN t1 (List.mem_of_getElem? CJ)) u).symm) (KG true (by omega) hN) (fun u=>(cV true t1 (hN t1 (List.mem_of_getElem? CJ)) u).symm) r1 r2 r3 r4)
   have m9:Hid (∀ V:World,(K0 w V/\V.cell? ⟨sb,i*3,none⟩=some (.int .i64 1)/\V.cell? ⟨sb,i*3+1,none⟩=some (.pointer (some ⟨p1,0,none⟩))/\V.cell? ⟨sb,i*3+2,none⟩=some (.pointer (some ⟨p2,0,none⟩))/\V.cell? ⟨ub,i*3,none⟩=some (.int .i64 2)/\V.cell? ⟨ub,i*3+1,none⟩=some (.pointer (some ⟨q1,0,none⟩))/\V.cell? ⟨ub,i*3+2,none⟩=some (.pointer (some ⟨q2,0,none⟩)))->K0 wr V->Calls Tryz.prog 115 #[.pointer (some ⟨b,0,none⟩),.pointer (some ⟨g1,0,none⟩),.agg #[.int .i64 1,.pointer (some ⟨p1,0,none⟩),.pointer (some ⟨p2,0,none⟩)],.agg #[.int .i64 2,.pointer (some ⟨q1,0,none⟩),.pointer (some ⟨q2,0,none⟩)]] V fun e V'=>(∃ b',e = .returned (.pointer (some ⟨b',0,none⟩))/\CL Y V' b' (cX 114 (l.take (i+1+1)) (ps.take (i+1))))/\(K0 w V'/\V'.cell? ⟨sb,i*3,none⟩=some (.int .i64 1)/\V'.cell? ⟨sb,i*3+1,none⟩=some (.pointer (some ⟨p1,0,none⟩))/\V'.cell? ⟨sb,i*3+2,none⟩=some (.pointer (some ⟨p2,0,none⟩))/\V'.cell? ⟨ub,i*3,none⟩=some (.int .i64 2)/\V'.cell? ⟨ub,i*3+1,none⟩=some (.pointer (some ⟨q1,0,none⟩))/\V'.cell? ⟨ub,i*3+2,none⟩=some (.pointer (some ⟨q2,0,none⟩)))):=aB (fun V h hKV=>(aA HP V hKV).mono (fun e V' h2=>by
    obtain ⟨b',e1,e2,e3⟩:=h2
    exact ⟨⟨b',e1,e2⟩,h.1.trans e3,e3.cellz h.2.1,e3.cellz h.2.2.1,e3.cellz h.2.2.2.1,e3.cellz h.2.2.2.2.1,e3.cellz h.2.2.2.2.2.1,e3.cellz h.2.2.2.2.2.2⟩))
   have fV:K0 w wr.drew:=hK.trans (Kp.drew _ _)
   have NX:K0 wr wr.drew:=Kp.drew _ _
   have hHK:=aB hK
   clear hC hS hV hY hN hne hsz hl hn eC fU dB rN hg1 CJ hpj hp hq r1 r2 r3 r4 mS mV hct HP s0 s1 s2 u0 u1 u2 hK
   go_wp2_with fail
   go_region_held3 (fun V=>(K0 w V/\V.cell? ⟨sb,i*3,none⟩=some (.int .i64 1)/\V.cell? ⟨sb,i*3+1,none⟩=some (.pointer (some ⟨p1,0,none⟩))/\V.cell? ⟨sb,i*3+2,none⟩=some (.pointer (some ⟨p2,0,none⟩))/\V.cell? ⟨ub,i*3,none⟩=some (.int .i64 2)/\V.cell? ⟨ub,i*3+1,none⟩=some (.pointer (some ⟨q1,0,none⟩))/\V.cell? ⟨ub,i*3+2,none⟩=some (.pointer (some ⟨q2,0,none⟩)))) (go_keep) (first | (go_at_call 115;refine (aA m9 _ (by assumption) (by assumption)).mono ?_;rintro e w2 ⟨⟨b',rfl,aFZ⟩,iH⟩))
   have H2:=aB (And.intro aFZ iH.1)
   clear aFZ iH
   go_wp2_with fail
   go_roundg (gk-1)
   case measure=>omega
   case rel=>exact ⟨i+1,b',rfl,by simp,by omega,by omega,(aA H2).1,(aA H2).2⟩
  ·have hd:¬ (i:Int)<(q:Int):=by omega
   have H7:=aB (And.intro rN (And.intro hK (And.intro hl hn)))
   clear hC hS hV hY hN hne hsz hl hn eC fU dB rN hK
   go_wp2
   go_ret
   obtain ⟨rN,hK,hl,hn⟩:=aA H7
   obtain rfl:i=q:=by omega
   rw [List.take_of_length_le (by omega),List.take_of_length_le (by omega)] at rN
   exact ⟨b,rfl,rN,hK⟩
theorem KY.set {Y:Nat->Prop} {w w':World} (h:KY Y w w') {b:Nat} (hb:Y b) (o:Nat) (v:Value):KY Y w (w'.setCell ⟨b,o,none⟩ v):=h.trans (Kp.set _ _ _ _ (fun hn=>hn hb))
def aDL (w:World) (m:Int) (A B:PT) (e:Ending) (w':World):Prop:=∃ ba bb,e = .returned (.agg #[.int .i64 m,.pointer (some ⟨ba,0,none⟩),.pointer (some ⟨bb,0,none⟩)])/\bR w' (fun k=>k<w.heap.size) A ba/\bR w' (fun k=>k<w.heap.size) B bb/\K0 w w'
theorem A5 {s:ByteArray} {v:Bool} {p:Nat} {a:LT} {w:World} {Y:Nat->Prop} {g:Nat} (hL:LR s w Y (.many p a) g) (hO:J3 (.many p a)) (hY:∀ k,Y k->k<w.heap.size) (gG:aX (aS v a)) (PJ:aP (aS v a)<=1000) (pK:aP (.rep 42 (aS v a))<=1000):
  Calls Tryz.prog 74 #[.int .i64 (rR v),.pointer (some ⟨g,0,none⟩)] w fun e w'=>aDL w (fB v) (aS v a) (.rep 42 (aS v a)) e w':=by
 have aEN:aX (.rep 42 (aS v a)):=by rw [aX];exact ⟨.inl rfl,gG⟩
 have XY:=aB (fun (W:World) (hk:K0 w W)=>lP (v:=v) (.many p a) W Y g (LR.kept (fun k dS _=>hk.heap dS) hL) hO (fun k h=>Nat.lt_of_lt_of_le (hY k h) hk.size))
 have hL':=hL
 rw [LR] at hL'
 obtain ⟨hgy,pv,jv,ga,hb,⟨nX,f9⟩,_,hLa⟩:=hL'
 obtain ⟨vb,cap,rfl,_,dB⟩:=nX.form (by simp)
 have zN:=aB (fun (W:World) (hk:K0 w W)=>lP (v:=v) a W Y ga (LR.kept (fun k dS _=>hk.heap dS) hLa) (hO.part (by simp [parts])) (fun k h=>Nat.lt_of_lt_of_le (hY k h) hk.size))
 have HN:=aB (fun (W:World) (pa pb:Nat) (hA:TR W Y (aS v a) pa) (hB:TR W Y (.rep 42 (aS v a)) pb)=>qV (v:=v) hA hB gG aEN PJ pK)
 have c1:w.cell? ⟨g,1,none⟩=some (.slice (some ⟨vb,0,none⟩) 1 cap):=by rw [aC hb 1];rfl
 have c2:w.cell? ⟨vb,0,none⟩=some (.pointer (some ⟨ga,0,none⟩)):=by
  rw [nX.cellAt 0 (by simp)]
  simp [bD]
 have z1:∀ o,(w.alloc o).cell? ⟨g,1,none⟩=some (.slice (some ⟨vb,0,none⟩) 1 cap):=fun o=>by rw [World.cell?_alloc_past _ _ _ (aD hb)];exact c1
 have z2:∀ o,(w.alloc o).cell? ⟨vb,0,none⟩=some (.pointer (some ⟨ga,0,none⟩)):=fun o=>by rw [World.cell?_alloc_past _ _ _ dB];exact c2
 clear hL hO hY gG PJ pK aEN hgy hb nX f9 hLa c1 c2
 go_enter Tryz.func74,Tryz.ntmps74
 go_wp2_with fail
 have hb0:=heap_alloc_new w (.cells #[.int .i64 0,.pointer none,.pointer none] 128)
 have aY:K0 w (w.alloc (.cells #[.int .i64 0,.pointer none,.pointer none] 128)):=Kp.alloc _ _ _
 have hs0:(w.alloc (.cells #[.int .i64 0,.pointer none,.pointer none] 128)).heap.size=w.heap.size+1:=by simp
 refine (aA zN _ aY).mono ?_
 rintro e w1 ⟨pa,rfl,hg1,vR⟩
 have hk2:=K0.of_grownz hg1
 have dZ:=aY.trans hk2
 have hb1:=(hk2.heap (aD hb0)).trans hb0
 have HA:=aB vR
 clear vR z1 z2
 go_wp2_with fail
 refine (aA XY _ dZ).mono ?_
 rintro e w2 ⟨pb,rfl,hg2,D9⟩
 have hk3:=K0.of_grownz hg2
 have hb2:=(hk3.heap (aD hb1)).trans hb1
 have XT:=TR.kept (w':=w2) (fun k dS _=>hk3.heap dS) (aA HA)
 have HA2:=aB (And.intro XT D9)
 clear D9 XT HA
 go_wp2_with fail
 refine (aA HN w2 pa pb (aA HA2).1 (aA HA2).2).mono ?_
 rintro e w3 ⟨⟨ba,bb,rfl,EM,E0⟩,hk4⟩
 have hb3:=(hk4.heap (aD hb2)).trans hb2
 have c0:=aC hb3 0
 have c1:=aC hb3 1
 have c2:=aC hb3 2
 have f0:=aM hb3 0
 have f1:=aM hb3 1
 have f2:=aM hb3 2
 simp at c0 c1 c2
 have LA:=(dZ.trans hk3).trans hk4
 have HM:=aB (And.intro EM E0)
 have hs1:=hk2.size
 have hs2:=hk3.size
 clear EM E0 HA2
 go_wp2
 have g0:=aK hb3 0 (.int .i64 (fB v))
 have g1:=aK g0 1 (.pointer (some ⟨ba,0,none⟩))
 have g2:=aK g1 2 (.pointer (some ⟨bb,0,none⟩))
 simp at g2
 have e0:=aC g2 0
 have e1:=aC g2 1
 have e2:=aC g2 2
 simp at e0 e1 e2
 have uE:KY (fun k=>k<w2.heap.size) w3 (((w3.setCell ⟨w.heap.size,0,none⟩ (.int .i64 (fB v))).setCell ⟨w.heap.size,1,none⟩ (.pointer (some ⟨ba,0,none⟩))).setCell ⟨w.heap.size,2,none⟩ (.pointer (some ⟨bb,0,none⟩))):=KY.set (KY.set (KY.set (KY.refl _ _) (by omega) _ _) (by omega) _ _) (by omega) _ _
 refine bodyPost_ret (v := .agg #[.int .i64 (fB v),.pointer (some ⟨ba,0,none⟩),.pointer (some ⟨bb,0,none⟩)]) ?_ rfl ?_
 ·simp [results,Tryz.f74,go_sem,e0,e1,e2]
 ·exact ⟨ba,bb,rfl,((aA HM).1.ky uE).reY (fun k _ hz=>by omega),((aA HM).2.ky uE).reY (fun k _ hz=>by omega),K0.set (K0.set (K0.set LA (Nat.le_refl _) 0 _) (Nat.le_refl _) 1 _) (Nat.le_refl _) 2 _⟩
def aDK (w:World) (m:Int) (ts:List PT) (e:Ending) (w':World):Prop:=∃ sl bs,e = .returned (.agg #[.int .i64 m,sl])/\OZ (fun k=>k<w.heap.size) w' sl bs ts/\K0 w w'
theorem BC {s:ByteArray} {v:Bool} {t:LT} {w:World} {Y:Nat->Prop} {g:Nat} (hL:LR s w Y t g) (hO:J3 t) (hY:∀ k,Y k->k<w.heap.size) (gG:∀ x,x∈cL v t->aX x/\aP x<=1000):
  Calls Tryz.prog 77 #[.int .i64 (rR v),.pointer (some ⟨g,0,none⟩)] w fun e w'=>aDK w (fB v) (cL v t) e w':=by
 have HP:=aB (fun (W:World) (hk:K0 w W)=>U2 (v:=v) (fun u _=>lP u) (LR.kept (w':=W) (fun k dS _=>hk.heap dS) hL) hO (fun k h=>Nat.lt_of_lt_of_le (hY k h) hk.size))
 have fU:=tK v t
 have hpl:=hO.len
 have HE:=aB gG
 clear hL hO hY gG
 go_enter Tryz.func77,Tryz.ntmps77
 go_wp2_with fail
 refine (sG v _).mono ?_
 rintro e w' ⟨rfl,rfl⟩
 go_wp2_with fail
 have hb0:=heap_alloc_new w (.cells #[.int .i64 0,.slice none 0 0] 137)
 have aY:K0 w (w.alloc (.cells #[.int .i64 0,.slice none 0 0] 137)):=Kp.alloc _ _ _
 have hs0:(w.alloc (.cells #[.int .i64 0,.slice none 0 0] 137)).heap.size=w.heap.size+1:=by simp
 refine (aA HP _ aY).mono ?_
 rintro e w1 ⟨v1,gs,rfl,hR⟩
 have hlen:=hR.trl.len
 have hk2:=K0.of_grownz hR.gr
 have hb1:=(hk2.heap (aD hb0)).trans hb0
 have HM:=aB (IS (Yt:=Y) hR.own hlen (fun i p t' hp ht=>⟨ES hR.trY i t' p ht hp,aA HE t' (List.mem_of_getElem? ht)⟩) (by omega))
 clear hR hlen HP HE
 go_wp2_with fail
 refine (aA HM).mono ?_
 rintro e w2 ⟨sl,bs,rfl,hM,hk3⟩
 obtain ⟨ao,cp,rfl⟩:=aG hM.own
 have hb2:=(hk3.heap (aD hb1)).trans hb1
 have c0:=aC hb2 0
 have c1:=aC hb2 1
 have f0:=aM hb2 0
 have f1:=aM hb2 1
 simp at c0 c1
 have LA:=(aY.trans hk2).trans hk3
 have hs1:=hk2.size
 have T3:=aB hM
 clear hM HM
 go_wp2
 have g0:=aK hb2 0 (.int .i64 (fB v))
 have g1:=aK g0 1 (.slice ao bs.length cp)
 simp at g1
 have e0:=aC g1 0
 have e1:=aC g1 1
 simp at e0 e1
 have uE:KY (fun k=>k<w1.heap.size) w2 ((w2.setCell ⟨w.heap.size,0,none⟩ (.int .i64 (fB v))).setCell ⟨w.heap.size,1,none⟩ (.slice ao bs.length cp)):=KY.set (KY.set (KY.refl _ _) (by omega) _ _) (by omega) _ _
 refine bodyPost_ret (v := .agg #[.int .i64 (fB v),.slice ao bs.length cp]) ?_ rfl ?_
 ·simp [results,Tryz.f77,go_sem,e0,e1]
 ·exact ⟨_,bs,rfl,((aA T3).ky uE).reY (fun k _ hz=>by omega),K0.set (K0.set LA (Nat.le_refl _) 0 _) (Nat.le_refl _) 1 _⟩
def xW (ts:List PT) (i:Nat) (t:PT) (u:List UInt8):Prop:=ts[i]? = some t/\M t u/\∀ (j:Nat) (t':PT),j<i->ts[j]? = some t'->¬ M t' u
theorem xW.uniq {ts:List PT} {i j:Nat} {t t':PT} {u:List UInt8} (h:xW ts i t u) (k:xW ts j t' u):i=j:=by
 rcases Nat.lt_trichotomy i j with h1 | h1 | h1
 ·exact absurd h.2.1 (k.2.2 i t h1 h.1)
 ·exact h1
 ·exact absurd k.2.1 (h.2.2 j t' h1 k.1)
theorem I0 (u:List UInt8):∀ ts:List PT,(∃ i t,xW ts i t u)\/∀ t,t∈ts->¬ M t u
 | [] => .inr fun t h=>by cases h
 | t::ts=>by
  rcases Classical.em (M t u) with h | h
  ·exact .inl ⟨0,t,rfl,h,fun j _ hj=>by omega⟩
  ·rcases I0 u ts with ⟨i,t',h1,h2,h3⟩ | h1
   ·refine .inl ⟨i+1,t',by simpa using h1,h2,fun j x hj hx=>?_⟩
    cases j with
    | zero=>rw [List.getElem?_cons_zero] at hx;rw [← Option.some.inj hx];exact h
    | succ j=>exact h3 j x (by omega) (by simpa using hx)
   ·refine .inr fun x hx=>?_
    rcases List.mem_cons.1 hx with rfl | hx
    ·exact h
    ·exact h1 x hx
theorem mT {w:World} {sl:Value} {gs:List Nat} {ts:List PT} {m:Int} {u:List UInt8} {i:Nat} {t:PT} (h:qO w sl gs ts) (hu:u.length<=1000) (hf:xW ts i t u):
  Calls Tryz.prog 117 #[.agg #[.int .i64 m,sl],.string (aE u)] w fun e w'=>e = .returned (.int .i64 (i:Int))/\K0 w w':=by
 refine (t6 (m:=m) h hu).mono ?_
 rintro e w' ⟨(⟨j,t',h1,h2,h3,rfl⟩ | ⟨h1,_⟩),hk⟩
 ·rw [hf.uniq ⟨h1,h2,h3⟩]
  exact ⟨rfl,hk⟩
 ·exact absurd hf.2.1 (h1 t (List.mem_of_getElem? hf.1))
theorem wI {w:World} {sl:Value} {gs:List Nat} {ts:List PT} {m:Int} {u:List UInt8} (h:qO w sl gs ts) (hu:u.length<=1000) (hf:∀ t,t∈ts->¬ M t u):
  Calls Tryz.prog 117 #[.agg #[.int .i64 m,sl],.string (aE u)] w fun e w'=>e = .panicked (kL m)/\K0 w w':=by
 refine (t6 (m:=m) h hu).mono ?_
 rintro e w' ⟨(⟨j,t',h1,h2,h3,rfl⟩ | ⟨h1,rfl⟩),hk⟩
 ·exact absurd h2 (hf t' (List.mem_of_getElem? h1))
 ·exact ⟨rfl,hk⟩
def z7 (v:Value):Obj := .cells #[v] 112 (0,0)
def sC (m:Int) (v:Value):Obj := .cells #[.int .i64 m,v] 137 (0,0)
theorem aD8 {Y:Nat->Prop} {W:World} {ts:List PT} {bs:List Nat} {P:List UInt8->Prop} {G:List UInt8->List UInt8} {m:Int} {Bp Br vb n cap cp i g:Nat} {ao:Option Addr} {F1 F2 F3:Value} {t:PT} {u:List UInt8}
  (hp:W.heap[Bp]? = some (z7 (.slice (some ⟨vb,0,none⟩) n cap))) (hr:W.heap[Br]? = some (sC m (.slice ao n cp))) (hM:qO W (.slice ao n cp) bs ts) (hc:W.cell? ⟨vb,i,none⟩=some (.pointer (some ⟨g,0,none⟩))) (hi:i<n) (hb:W.heap[g]? = some (gB F1 F2 F3)) (hf:zO Y W F1 P G m) (hu:u.length<=1000) (hF:xW ts i t u) (hP:P u):
  Calls Tryz.prog 116 #[.string (aE u),.pointer (some ⟨Bp,0,none⟩),.pointer (some ⟨Br,0,none⟩)] W fun e w'=>e = .returned (.string (aE (G u)))/\K0 W w':=by
 have c0:=aC hp 0
 have r0:=aC hr 0
 have r1:=aC hr 1
 have b0:=aC hb 0
 simp at c0 r0 r1 b0
 have hii:(i:Int)<(n:Int):=by omega
 have jO:(0:Int)<=(i:Int):=by omega
 obtain ⟨N,x,y,rfl,n1,s1⟩:=hf
 have gA:∀ V V':World,(K0 W V/\V.cell? ⟨Bp,0,none⟩=some (.slice (some ⟨vb,0,none⟩) n cap)/\V.cell? ⟨Br,0,none⟩=some (.int .i64 m)/\V.cell? ⟨Br,1,none⟩=some (.slice ao n cp)/\V.cell? ⟨vb,i,none⟩=some (.pointer (some ⟨g,0,none⟩))/\V.cell? ⟨g,0,none⟩=some (.func (.func N) x y))->K0 V V'->(K0 W V'/\V'.cell? ⟨Bp,0,none⟩=some (.slice (some ⟨vb,0,none⟩) n cap)/\V'.cell? ⟨Br,0,none⟩=some (.int .i64 m)/\V'.cell? ⟨Br,1,none⟩=some (.slice ao n cp)/\V'.cell? ⟨vb,i,none⟩=some (.pointer (some ⟨g,0,none⟩))/\V'.cell? ⟨g,0,none⟩=some (.func (.func N) x y)):=fun V V' h hk=>⟨h.1.trans hk,hk.cellz h.2.1,hk.cellz h.2.2.1,hk.cellz h.2.2.2.1,hk.cellz h.2.2.2.2.1,hk.cellz h.2.2.2.2.2⟩
 have HW:Hid (∀ V:World,(K0 W V/\V.cell? ⟨Bp,0,none⟩=some (.slice (some ⟨vb,0,none⟩) n cap)/\V.cell? ⟨Br,0,none⟩=some (.int .i64 m)/\V.cell? ⟨Br,1,none⟩=some (.slice ao n cp)/\V.cell? ⟨vb,i,none⟩=some (.pointer (some ⟨g,0,none⟩))/\V.cell? ⟨g,0,none⟩=some (.func (.func N) x y))->Calls Tryz.prog 117 #[.agg #[.int .i64 m,.slice ao n cp],.string (aE u)] V fun e V'=>e = .returned (.int .i64 (i:Int))/\(K0 W V'/\V'.cell? ⟨Bp,0,none⟩=some (.slice (some ⟨vb,0,none⟩) n cap)/\V'.cell? ⟨Br,0,none⟩=some (.int .i64 m)/\V'.cell? ⟨Br,1,none⟩=some (.slice ao n cp)/\V'.cell? ⟨vb,i,none⟩=some (.pointer (some ⟨g,0,none⟩))/\V'.cell? ⟨g,0,none⟩=some (.func (.func N) x y))):=aB (fun V h=>(mT (m:=m) (hM.k0 h.1) hu hF).mono (fun e V' h2=>⟨h2.1,gA V V' h h2.2⟩))
 have HF:Hid (∀ V:World,(K0 W V/\V.cell? ⟨Bp,0,none⟩=some (.slice (some ⟨vb,0,none⟩) n cap)/\V.cell? ⟨Br,0,none⟩=some (.int .i64 m)/\V.cell? ⟨Br,1,none⟩=some (.slice ao n cp)/\V.cell? ⟨vb,i,none⟩=some (.pointer (some ⟨g,0,none⟩))/\V.cell? ⟨g,0,none⟩=some (.func (.func N) x y))->Calls Tryz.prog N (x.push (.string (aE u))++y) V fun e V'=>e = .returned (.string (aE (G u)))/\(K0 W V'/\V'.cell? ⟨Bp,0,none⟩=some (.slice (some ⟨vb,0,none⟩) n cap)/\V'.cell? ⟨Br,0,none⟩=some (.int .i64 m)/\V'.cell? ⟨Br,1,none⟩=some (.slice ao n cp)/\V'.cell? ⟨vb,i,none⟩=some (.pointer (some ⟨g,0,none⟩))/\V'.cell? ⟨g,0,none⟩=some (.func (.func N) x y))):=aB (fun V h=>(s1 V u (h.1.ky Y) hu).mono (fun e V' h2=>by
  obtain ⟨(⟨_,h3⟩ | ⟨h3,_⟩),h4⟩:=h2
  ·exact ⟨h3,gA V V' h h4⟩
  ·exact absurd hP h3))
 have fV:K0 W W.drew:=Kp.drew _ _
 obtain ⟨r,PK⟩:∃ r,G u=r:=⟨_,rfl⟩
 rw [PK] at HF ⊢
 clear hp hr hM hb s1 gA hF hP PK
 unfold wG at n1
 go_enter Tryz.func116,Tryz.ntmps116
 go_wp2_with fail
 go_region_held3 (fun V=>(K0 W V/\V.cell? ⟨Bp,0,none⟩=some (.slice (some ⟨vb,0,none⟩) n cap)/\V.cell? ⟨Br,0,none⟩=some (.int .i64 m)/\V.cell? ⟨Br,1,none⟩=some (.slice ao n cp)/\V.cell? ⟨vb,i,none⟩=some (.pointer (some ⟨g,0,none⟩))/\V.cell? ⟨g,0,none⟩=some (.func (.func N) x y))) (go_keep) (first | (go_at_call 117;refine (aA HW _ (by assumption)).mono ?_;rintro e w2 ⟨rfl,iH⟩) | (refine (aA HF _ (by assumption)).mono ?_;rintro e w3 ⟨rfl,fX⟩))
 go_wp2
 go_ret
 exact ⟨rfl,fX.1⟩
theorem aD9 {W:World} {ts:List PT} {bs:List Nat} {m:Int} {Bp Br vb n cap cp:Nat} {ao:Option Addr} {u:List UInt8}
  (hp:W.heap[Bp]? = some (z7 (.slice (some ⟨vb,0,none⟩) n cap))) (hr:W.heap[Br]? = some (sC m (.slice ao n cp))) (hM:qO W (.slice ao n cp) bs ts) (hu:u.length<=1000) (hF:∀ t,t∈ts->¬ M t u):
  Calls Tryz.prog 116 #[.string (aE u),.pointer (some ⟨Bp,0,none⟩),.pointer (some ⟨Br,0,none⟩)] W fun e w'=>e = .panicked (kL m)/\K0 W w':=by
 have c0:=aC hp 0
 have r0:=aC hr 0
 have r1:=aC hr 1
 simp at c0 r0 r1
 have HW:Hid (∀ V:World,(K0 W V/\V.cell? ⟨Bp,0,none⟩=some (.slice (some ⟨vb,0,none⟩) n cap)/\V.cell? ⟨Br,0,none⟩=some (.int .i64 m)/\V.cell? ⟨Br,1,none⟩=some (.slice ao n cp))->Calls Tryz.prog 117 #[.agg #[.int .i64 m,.slice ao n cp],.string (aE u)] V fun e V'=>e = .panicked (kL m)/\K0 W V'):=aB (fun V h=>(wI (m:=m) (hM.k0 h.1) hu hF).mono (fun e V' h2=>⟨h2.1,h.1.trans h2.2⟩))
 have fV:K0 W W.drew:=Kp.drew _ _
 clear hp hr hM hF
 go_enter Tryz.func116,Tryz.ntmps116
 go_wp2_with fail
 refine wp_region_held_drew (S:=fun V=>(K0 W V/\V.cell? ⟨Bp,0,none⟩=some (.slice (some ⟨vb,0,none⟩) n cap)/\V.cell? ⟨Br,0,none⟩=some (.int .i64 m)/\V.cell? ⟨Br,1,none⟩=some (.slice ao n cp))) (by kernel_rfl) ⟨fV,by simp [*],by simp [*],by simp [*]⟩ ?_
 intro hHeld
 refine wpAnyH_take (i:=0) (v := .slice (some ⟨vb,0,none⟩) n cap) rfl (by kernel_rfl) (by kernel_rfl) (by kernel_rfl) (fun _ _ _ h=>h) (Or.inl ⟨by rfl,?_⟩) hHeld ?_
 ·intro w hSw
  go_simp
 refine wpAnyH_take (i:=1) (v := .agg #[.int .i64 m,.slice ao n cp]) rfl (by kernel_rfl) (by kernel_rfl) (by kernel_rfl) (fun _ _ _ h=>h) (Or.inl ⟨by rfl,?_⟩) hHeld ?_
 ·intro w hSw
  go_simp
 refine wpAnyH_take (i:=2) (v := .string (aE u)) rfl (by kernel_rfl) (by kernel_rfl) (by kernel_rfl) (fun _ _ _ h=>h) (Or.inl ⟨by rfl,?_⟩) hHeld ?_
 ·intro w hSw
  go_simp
 refine wpAnyH_take (i:=9) (v := .string (aE u)) rfl (by kernel_rfl) (by kernel_rfl) (by kernel_rfl) (fun _ _ _ h=>h) (Or.inl ⟨by rfl,?_⟩) hHeld ?_
 ·intro w hSw
  go_simp
 refine wpAnyH_ready (rs:=[3]) (by kernel_rfl) (by simp) ?_
 refine AllReadyH.cons rfl (fun K' hK=>?_) AllReadyH.nil
 go_simp
 refine (aA HW _ hHeld).mono ?_
 rintro e w2 ⟨rfl,iH⟩
 exact ⟨rfl,rfl,iH⟩
theorem aD6 {Y:Nat->Prop} {W:World} {ts:List PT} {bs:List Nat} {P:List UInt8->Prop} {G:List UInt8->List UInt8} {m:Int} {Bp Br vb n cap cp i g:Nat} {ao:Option Addr} {F1 F2 F3:Value} {t:PT} {u:List UInt8}
  (hp:W.heap[Bp]? = some (z7 (.slice (some ⟨vb,0,none⟩) n cap))) (hr:W.heap[Br]? = some (sC m (.slice ao n cp))) (hM:qO W (.slice ao n cp) bs ts) (hc:W.cell? ⟨vb,i,none⟩=some (.pointer (some ⟨g,0,none⟩))) (hi:i<n) (hb:W.heap[g]? = some (gB F1 F2 F3)) (hf:zO Y W F3 P G m) (hu:u.length<=1000) (hF:xW ts i t u) (hP:P u):
  Calls Tryz.prog 120 #[.string (aE u),.pointer (some ⟨Bp,0,none⟩),.pointer (some ⟨Br,0,none⟩)] W fun e w'=>e = .returned (.string (aE (G u)))/\K0 W w':=by
 have c0:=aC hp 0
 have r0:=aC hr 0
 have r1:=aC hr 1
 have b0:=aC hb 2
 simp at c0 r0 r1 b0
 have hii:(i:Int)<(n:Int):=by omega
 have jO:(0:Int)<=(i:Int):=by omega
 obtain ⟨N,x,y,rfl,n1,s1⟩:=hf
 have gA:∀ V V':World,(K0 W V/\V.cell? ⟨Bp,0,none⟩=some (.slice (some ⟨vb,0,none⟩) n cap)/\V.cell? ⟨Br,0,none⟩=some (.int .i64 m)/\V.cell? ⟨Br,1,none⟩=some (.slice ao n cp)/\V.cell? ⟨vb,i,none⟩=some (.pointer (some ⟨g,0,none⟩))/\V.cell? ⟨g,2,none⟩=some (.func (.func N) x y))->K0 V V'->(K0 W V'/\V'.cell? ⟨Bp,0,none⟩=some (.slice (some ⟨vb,0,none⟩) n cap)/\V'.cell? ⟨Br,0,none⟩=some (.int .i64 m)/\V'.cell? ⟨Br,1,none⟩=some (.slice ao n cp)/\V'.cell? ⟨vb,i,none⟩=some (.pointer (some ⟨g,0,none⟩))/\V'.cell? ⟨g,2,none⟩=some (.func (.func N) x y)):=fun V V' h hk=>⟨h.1.trans hk,hk.cellz h.2.1,hk.cellz h.2.2.1,hk.cellz h.2.2.2.1,hk.cellz h.2.2.2.2.1,hk.cellz h.2.2.2.2.2⟩
 have HW:Hid (∀ V:World,(K0 W V/\V.cell? ⟨Bp,0,none⟩=some (.slice (some ⟨vb,0,none⟩) n cap)/\V.cell? ⟨Br,0,none⟩=some (.int .i64 m)/\V.cell? ⟨Br,1,none⟩=some (.slice ao n cp)/\V.cell? ⟨vb,i,none⟩=some (.pointer (some ⟨g,0,none⟩))/\V.cell? ⟨g,2,none⟩=some (.func (.func N) x y))->Calls Tryz.prog 117 #[.agg #[.int .i64 m,.slice ao n cp],.string (aE u)] V fun e V'=>e = .returned (.int .i64 (i:Int))/\(K0 W V'/\V'.cell? ⟨Bp,0,none⟩=some (.slice (some ⟨vb,0,none⟩) n cap)/\V'.cell? ⟨Br,0,none⟩=some (.int .i64 m)/\V'.cell? ⟨Br,1,none⟩=some (.slice ao n cp)/\V'.cell? ⟨vb,i,none⟩=some (.pointer (some ⟨g,0,none⟩))/\V'.cell? ⟨g,2,none⟩=some (.func (.func N) x y))):=aB (fun V h=>(mT (m:=m) (hM.k0 h.1) hu hF).mono (fun e V' h2=>⟨h2.1,gA V V' h h2.2⟩))
 have HF:Hid (∀ V:World,(K0 W V/\V.cell? ⟨Bp,0,none⟩=some (.slice (some ⟨vb,0,none⟩) n cap)/\V.cell? ⟨Br,0,none⟩=some (.int .i64 m)/\V.cell? ⟨Br,1,none⟩=some (.slice ao n cp)/\V.cell? ⟨vb,i,none⟩=some (.pointer (some ⟨g,0,none⟩))/\V.cell? ⟨g,2,none⟩=some (.func (.func N) x y))->Calls Tryz.prog N (x.push (.string (aE u))++y) V fun e V'=>e = .returned (.string (aE (G u)))/\(K0 W V'/\V'.cell? ⟨Bp,0,none⟩=some (.slice (some ⟨vb,0,none⟩) n cap)/\V'.cell? ⟨Br,0,none⟩=some (.int .i64 m)/\V'.cell? ⟨Br,1,none⟩=some (.slice ao n cp)/\V'.cell? ⟨vb,i,none⟩=some (.pointer (some ⟨g,0,none⟩))/\V'.cell? ⟨g,2,none⟩=some (.func (.func N) x y))):=aB (fun V h=>(s1 V u (h.1.ky Y) hu).mono (fun e V' h2=>by
  obtain ⟨(⟨_,h3⟩ | ⟨h3,_⟩),h4⟩:=h2
  ·exact ⟨h3,gA V V' h h4⟩
  ·exact absurd hP h3))
 have fV:K0 W W.drew:=Kp.drew _ _
 obtain ⟨r,PK⟩:∃ r,G u=r:=⟨_,rfl⟩
 rw [PK] at HF ⊢
 clear hp hr hM hb s1 gA hF hP PK
 unfold wG at n1
 go_enter Tryz.func120,Tryz.ntmps120
 go_wp2_with fail
 go_region_held3 (fun V=>(K0 W V/\V.cell? ⟨Bp,0,none⟩=some (.slice (some ⟨vb,0,none⟩) n cap)/\V.cell? ⟨Br,0,none⟩=some (.int .i64 m)/\V.cell? ⟨Br,1,none⟩=some (.slice ao n cp)/\V.cell? ⟨vb,i,none⟩=some (.pointer (some ⟨g,0,none⟩))/\V.cell? ⟨g,2,none⟩=some (.func (.func N) x y))) (go_keep) (first | (go_at_call 117;refine (aA HW _ (by assumption)).mono ?_;rintro e w2 ⟨rfl,iH⟩) | (refine (aA HF _ (by assumption)).mono ?_;rintro e w3 ⟨rfl,fX⟩))
 go_wp2
 go_ret
 exact ⟨rfl,fX.1⟩
theorem aD7 {W:World} {ts:List PT} {bs:List Nat} {m:Int} {Bp Br vb n cap cp:Nat} {ao:Option Addr} {u:List UInt8}
  (hp:W.heap[Bp]? = some (z7 (.slice (some ⟨vb,0,none⟩) n cap))) (hr:W.heap[Br]? = some (sC m (.slice ao n cp))) (hM:qO W (.slice ao n cp) bs ts) (hu:u.length<=1000) (hF:∀ t,t∈ts->¬ M t u):
  Calls Tryz.prog 120 #[.string (aE u),.pointer (some ⟨Bp,0,none⟩),.pointer (some ⟨Br,0,none⟩)] W fun e w'=>e = .panicked (kL m)/\K0 W w':=by
 have c0:=aC hp 0
 have r0:=aC hr 0
 have r1:=aC hr 1
 simp at c0 r0 r1
 have HW:Hid (∀ V:World,(K0 W V/\V.cell? ⟨Bp,0,none⟩=some (.slice (some ⟨vb,0,none⟩) n cap)/\V.cell? ⟨Br,0,none⟩=some (.int .i64 m)/\V.cell? ⟨Br,1,none⟩=some (.slice ao n cp))->Calls Tryz.prog 117 #[.agg #[.int .i64 m,.slice ao n cp],.string (aE u)] V fun e V'=>e = .panicked (kL m)/\K0 W V'):=aB (fun V h=>(wI (m:=m) (hM.k0 h.1) hu hF).mono (fun e V' h2=>⟨h2.1,h.1.trans h2.2⟩))
 have fV:K0 W W.drew:=Kp.drew _ _
 clear hp hr hM hF
 go_enter Tryz.func120,Tryz.ntmps120
 go_wp2_with fail
 refine wp_region_held_drew (S:=fun V=>(K0 W V/\V.cell? ⟨Bp,0,none⟩=some (.slice (some ⟨vb,0,none⟩) n cap)/\V.cell? ⟨Br,0,none⟩=some (.int .i64 m)/\V.cell? ⟨Br,1,none⟩=some (.slice ao n cp))) (by kernel_rfl) ⟨fV,by simp [*],by simp [*],by simp [*]⟩ ?_
 intro hHeld
 refine wpAnyH_take (i:=0) (v := .slice (some ⟨vb,0,none⟩) n cap) rfl (by kernel_rfl) (by kernel_rfl) (by kernel_rfl) (fun _ _ _ h=>h) (Or.inl ⟨by rfl,?_⟩) hHeld ?_
 ·intro w hSw
  go_simp
 refine wpAnyH_take (i:=1) (v := .agg #[.int .i64 m,.slice ao n cp]) rfl (by kernel_rfl) (by kernel_rfl) (by kernel_rfl) (fun _ _ _ h=>h) (Or.inl ⟨by rfl,?_⟩) hHeld ?_
 ·intro w hSw
  go_simp
 refine wpAnyH_take (i:=2) (v := .string (aE u)) rfl (by kernel_rfl) (by kernel_rfl) (by kernel_rfl) (fun _ _ _ h=>h) (Or.inl ⟨by rfl,?_⟩) hHeld ?_
 ·intro w hSw
  go_simp
 refine wpAnyH_take (i:=9) (v := .string (aE u)) rfl (by kernel_rfl) (by kernel_rfl) (by kernel_rfl) (fun _ _ _ h=>h) (Or.inl ⟨by rfl,?_⟩) hHeld ?_
 ·intro w hSw
  go_simp
 refine wpAnyH_ready (rs:=[3]) (by kernel_rfl) (by simp) ?_
 refine AllReadyH.cons rfl (fun K' hK=>?_) AllReadyH.nil
 go_simp
 refine (aA HW _ hHeld).mono ?_
 rintro e w2 ⟨rfl,iH⟩
 exact ⟨rfl,rfl,iH⟩
theorem aAX {W:World} {tsv:List PT} {bv:List Nat} {Bp Bv Bs n cv:Nat} {av:Option Addr} {v s:List UInt8}
  (hv:W.heap[Bv]? = some (sC 2 (.slice av n cv))) (OF:qO W (.slice av n cv) bv tsv) (dB:v.length<=1000) (hF:∀ t,t∈tsv->¬ M t v):
  Calls Tryz.prog 118 #[.string (aE v),.string (aE s),.pointer (some ⟨Bv,0,none⟩),.pointer (some ⟨Bs,0,none⟩),.pointer (some ⟨Bp,0,none⟩)] W fun e w'=>e = .panicked (kL 2)/\K0 W w':=by
 have c0:=aC hv 0
 have c1:=aC hv 1
 simp at c0 c1
 have HV:=aB (wI (m:=2) OF dB hF)
 clear hv OF hF
 go_enter Tryz.func118,Tryz.ntmps118
 go_wp2_with fail
 refine (aA HV).mono ?_
 rintro e w1 ⟨rfl,aY⟩
 exact ⟨rfl,rfl,aY⟩
theorem aAY {W:World} {tsv tss:List PT} {bv bs:List Nat} {Bp Bv Bs vb n cap cv cs:Nat} {av az:Option Addr} {v s:List UInt8}
  (hp:W.heap[Bp]? = some (z7 (.slice (some ⟨vb,0,none⟩) n cap))) (hv:W.heap[Bv]? = some (sC 2 (.slice av n cv))) (hs:W.heap[Bs]? = some (sC 1 (.slice az n cs))) (OF:qO W (.slice av n cv) bv tsv) (hMs:qO W (.slice az n cs) bs tss) (dB:v.length<=1000) (fU:s.length<=1000) {i:Nat} {t:PT} (hF:xW tsv i t v) (hG:∀ t,t∈tss->¬ M t s):
  Calls Tryz.prog 118 #[.string (aE v),.string (aE s),.pointer (some ⟨Bv,0,none⟩),.pointer (some ⟨Bs,0,none⟩),.pointer (some ⟨Bp,0,none⟩)] W fun e w'=>e = .panicked (kL 1)/\K0 W w':=by
 have c0:=aC hv 0
 have c1:=aC hv 1
 simp at c0 c1
 have HV:=aB (mT (m:=2) OF dB hF)
 have HB:=aB (And.intro hp (And.intro hv hs))
 have HS:=aB (fun (V:World) (hk:K0 W V)=>wI (m:=1) (hMs.k0 hk) fU hG)
 clear hp hv hs OF hMs hF hG
 go_enter Tryz.func118,Tryz.ntmps118
 go_wp2_with fail
 refine (aA HV).mono ?_
 rintro e w1 ⟨rfl,aY⟩
 have hb1:=(aY.heap (aD (aA HB).2.2)).trans (aA HB).2.2
 have d0:=aC hb1 0
 have d1:=aC hb1 1
 simp at d0 d1
 clear hb1 c0 c1
 go_wp2_with fail
 refine (aA HS _ aY).mono ?_
 rintro e w2 ⟨rfl,hk2⟩
 exact ⟨rfl,rfl,aY.trans hk2⟩
theorem aAW {Y:Nat->Prop} {W:World} {tsv tss:List PT} {bv bs:List Nat} {Bp Bv Bs vb n cap cv cs:Nat} {av az:Option Addr} {v s:List UInt8}
  (hp:W.heap[Bp]? = some (z7 (.slice (some ⟨vb,0,none⟩) n cap))) (hv:W.heap[Bv]? = some (sC 2 (.slice av n cv))) (hs:W.heap[Bs]? = some (sC 1 (.slice az n cs))) (OF:qO W (.slice av n cv) bv tsv) (hMs:qO W (.slice az n cs) bs tss) (dB:v.length<=1000) (fU:s.length<=1000) {G:List UInt8->List UInt8->List UInt8} {Pv Ps:List UInt8->Prop} {i j g:Nat} {t t' tj:PT} {F1 F2 F3:Value} (hF:xW tsv i t v) (hG:xW tss j t' s) (hj:tsv[j]? = some tj) (hM:M tj v) (hc:W.cell? ⟨vb,j,none⟩=some (.pointer (some ⟨g,0,none⟩))) (hi:j<n) (hb:W.heap[g]? = some (gB F1 F2 F3)) (hf:JR Y W F2 Pv Ps G) (hP:Pv v) (hQ:Ps s):
  Calls Tryz.prog 118 #[.string (aE v),.string (aE s),.pointer (some ⟨Bv,0,none⟩),.pointer (some ⟨Bs,0,none⟩),.pointer (some ⟨Bp,0,none⟩)] W fun e w'=>e = .returned (.string (aE (G v s)))/\K0 W w':=by
 have c0:=aC hv 0
 have c1:=aC hv 1
 simp at c0 c1
 have HV:=aB (mT (m:=2) OF dB hF)
 have HB:=aB (And.intro hp (And.intro hv hs))
 have HS:=aB (fun (V:World) (hk:K0 W V)=>mT (m:=1) (hMs.k0 hk) fU hG)
 have HH:=aB (fun (V:World) (hk:K0 W V)=>D7 (m:=2) (OF.k0 hk) hj dB)
 obtain ⟨N,x,y,rfl,n1,s1⟩:=hf
 have HN:Hid (∀ V:World,K0 W V->Calls Tryz.prog N (x++(#[.string (aE v),.string (aE s)]++y)) V fun e V'=>e = .returned (.string (aE (G v s)))/\K0 V V'):=aB (fun V hk=>(s1 V v s (hk.ky Y) dB fU).mono (fun e V' h=>by
  obtain ⟨(⟨_,_,h1⟩ | ⟨h1,_⟩ | ⟨_,h1,_⟩),h2⟩:=h
  ·exact ⟨h1,h2⟩
  ·exact absurd hP h1
  ·exact absurd hQ h1))
 have HC:=aB (And.intro hc hb)
 have HM:=aB hM
 have hii:(j:Int)<(n:Int):=by omega
 clear hp hv hs OF hMs hF hG hj s1 hc hb hM hP hQ
 unfold wG at n1
 go_enter Tryz.func118,Tryz.ntmps118
 go_wp2_with fail
 refine (aA HV).mono ?_
 rintro e w1 ⟨rfl,aY⟩
 have hb1:=(aY.heap (aD (aA HB).2.2)).trans (aA HB).2.2
 have d0:=aC hb1 0
 have d1:=aC hb1 1
 simp at d0 d1
 clear hb1 c0 c1
 go_wp2_with fail
 refine (aA HS _ aY).mono ?_
 rintro e w2 ⟨rfl,hk2⟩
 have dZ:=aY.trans hk2
 have hb2:=(dZ.heap (aD (aA HB).2.1)).trans (aA HB).2.1
 have u0:=aC hb2 0
 have u1:=aC hb2 1
 simp at u0 u1
 clear hb2 d0 d1
 go_wp2_with fail
 refine (aA HH _ dZ).mono ?_
 rintro e w3 ⟨⟨xb,rfl,hx⟩,hk3⟩
 have sM:=dZ.trans hk3
 obtain rfl:xb=true:=by
  cases xb with
  | true=>rfl
  | false=>exact absurd (hx.2 (aA HM)) (by decide)
 have hb3:=(sM.heap (aD (aA HB).1)).trans (aA HB).1
 have p0:=aC hb3 0
 simp at p0
 have p1:=sM.cellz (aA HC).1
 have p2:=aC ((sM.heap (aD (aA HC).2)).trans (aA HC).2) 1
 simp at p2
 clear hx hb3 u0 u1
 go_wp2_with fail
 refine (aA HN _ sM).mono ?_
 rintro e w4 ⟨rfl,hk4⟩
 go_wp2
 go_ret
 exact ⟨rfl,sM.trans hk4⟩
theorem aAZ {Y:Nat->Prop} {W:World} {tsv tss:List PT} {bv bs:List Nat} {Bp Bv Bs vb n cap cv cs:Nat} {av az:Option Addr} {v s:List UInt8}
  (hp:W.heap[Bp]? = some (z7 (.slice (some ⟨vb,0,none⟩) n cap))) (hv:W.heap[Bv]? = some (sC 2 (.slice av n cv))) (hs:W.heap[Bs]? = some (sC 1 (.slice az n cs))) (OF:qO W (.slice av n cv) bv tsv) (hMs:qO W (.slice az n cs) bs tss) (dB:v.length<=1000) (fU:s.length<=1000) {G:List UInt8->List UInt8} {Pv:List UInt8->Prop} {i j g:Nat} {t t' tj:PT} {F1 F2 F3:Value} (hF:xW tsv i t v) (hG:xW tss j t' s) (hj:tsv[j]? = some tj) (hM:¬ M tj v) (hc:W.cell? ⟨vb,i,none⟩=some (.pointer (some ⟨g,0,none⟩))) (hi:i<n) (hb:W.heap[g]? = some (gB F1 F2 F3)) (hf:zO Y W F3 Pv G 2) (hP:Pv v):
  Calls Tryz.prog 118 #[.string (aE v),.string (aE s),.pointer (some ⟨Bv,0,none⟩),.pointer (some ⟨Bs,0,none⟩),.pointer (some ⟨Bp,0,none⟩)] W fun e w'=>e = .returned (.string (aE (G v)))/\K0 W w':=by
 have c0:=aC hv 0
 have c1:=aC hv 1
 simp at c0 c1
 have HV:=aB (mT (m:=2) OF dB hF)
 have HB:=aB (And.intro hp (And.intro hv hs))
 have HS:=aB (fun (V:World) (hk:K0 W V)=>mT (m:=1) (hMs.k0 hk) fU hG)
 have HH:=aB (fun (V:World) (hk:K0 W V)=>D7 (m:=2) (OF.k0 hk) hj dB)
 obtain ⟨N,x,y,rfl,n1,s1⟩:=hf
 have HN:Hid (∀ V:World,K0 W V->Calls Tryz.prog N (x.push (.string (aE v))++y) V fun e V'=>e = .returned (.string (aE (G v)))/\K0 V V'):=aB (fun V hk=>(s1 V v (hk.ky Y) dB).mono (fun e V' h=>by
  obtain ⟨(⟨_,h1⟩ | ⟨h1,_⟩),h2⟩:=h
  ·exact ⟨h1,h2⟩
  ·exact absurd hP h1))
 have HC:=aB (And.intro hc hb)
 have HM:=aB hM
 have hii:(i:Int)<(n:Int):=by omega
 clear hp hv hs OF hMs hF hG hj s1 hc hb hM hP
 unfold wG at n1
 go_enter Tryz.func118,Tryz.ntmps118
 go_wp2_with fail
 refine (aA HV).mono ?_
 rintro e w1 ⟨rfl,aY⟩
 have hb1:=(aY.heap (aD (aA HB).2.2)).trans (aA HB).2.2
 have d0:=aC hb1 0
 have d1:=aC hb1 1
 simp at d0 d1
 clear hb1 c0 c1
 go_wp2_with fail
 refine (aA HS _ aY).mono ?_
 rintro e w2 ⟨rfl,hk2⟩
 have dZ:=aY.trans hk2
 have hb2:=(dZ.heap (aD (aA HB).2.1)).trans (aA HB).2.1
 have u0:=aC hb2 0
 have u1:=aC hb2 1
 simp at u0 u1
 clear hb2 d0 d1
 go_wp2_with fail
 refine (aA HH _ dZ).mono ?_
 rintro e w3 ⟨⟨xb,rfl,hx⟩,hk3⟩
 have sM:=dZ.trans hk3
 obtain rfl:xb=false:=by
  cases xb with
  | true=>exact absurd (hx.1 rfl) (aA HM)
  | false=>rfl
 have hb3:=(sM.heap (aD (aA HB).1)).trans (aA HB).1
 have p0:=aC hb3 0
 simp at p0
 have p1:=sM.cellz (aA HC).1
 have p2:=aC ((sM.heap (aD (aA HC).2)).trans (aA HC).2) 2
 simp at p2
 clear hx hb3 u0 u1
 go_wp2_with fail
 refine (aA HN _ sM).mono ?_
 rintro e w4 ⟨rfl,hk4⟩
 go_wp2
 go_ret
 exact ⟨rfl,sM.trans hk4⟩
theorem z6 (v:Bool):∀ (l:List LT) (i:Nat) (x:PT),(aW v l)[i]? = some x->∃ t,l[i]? = some t/\x=aS v t
 | [],i,x,h=>by rw [aW] at h;simp at h
 | t::l,0,x,h=>by rw [aW,List.getElem?_cons_zero] at h;exact ⟨t,rfl,(Option.some.inj h).symm⟩
 | t::l,i+1,x,h=>by
  rw [aW,List.getElem?_cons_succ] at h
  obtain ⟨t',h1,h2⟩:=z6 v l i x h
  exact ⟨t',by rw [List.getElem?_cons_succ];exact h1,h2⟩
theorem Y4 (v:Bool) {l:List LT} (hN:∀ t,t∈l->jZ t) {i:Nat} {x:PT} {u:List UInt8} (h:xW (aW v l) i x u):∃ t,wC (bM v) l i t u:=by
 obtain ⟨h1,h2,h3⟩:=h
 obtain ⟨t,ht,rfl⟩:=z6 v l i x h1
 refine ⟨t,ht,(cV v t (hN t (List.mem_of_getElem? ht)) u).2 h2,fun j t' hj XA hm=>?_⟩
 exact h3 j _ hj (kI v l j t' XA) ((cV v t' (hN t' (List.mem_of_getElem? XA)) u).1 hm)
theorem vX (v:Bool) {l:List LT} {ps:List Nat} (hl:0<l.length) (hN:∀ t,t∈l->jZ t) {i:Nat} {x:PT} {u:List UInt8} (h:xW (aW v l) i x u):M (bM v (cX 124 l ps)) u:=
 (wW v hl (lF v l hN) u).2 ⟨x,List.mem_of_getElem? h.1,h.2.1⟩
theorem r8 (v:Bool) {l:List LT} {ps:List Nat} (hl:0<l.length) (hN:∀ t,t∈l->jZ t) {u:List UInt8} (h:∀ t,t∈aW v l->¬ M t u):¬ M (bM v (cX 124 l ps)) u:=fun hm=>by
 obtain ⟨t,h1,h2⟩:=(wW v hl (lF v l hN) u).1 hm
 exact h t h1 h2
theorem CsO.lens {Y:Nat->Prop} {w:World} {vb n cap:Nat} {gs:List Nat} {l:List LT} (h:CsO Y w (.slice (some ⟨vb,0,none⟩) n cap) gs (l.map bP)) {i:Nat} {t:LT} (ht:l[i]? = some t):∃ g,w.cell? ⟨vb,i,none⟩=some (.pointer (some ⟨g,0,none⟩))/\i<n/\CL Y w g (bP t):=by
 have hi:=(List.getElem?_eq_some_iff.1 ht).1
 have eC:gs.length=l.length:=by rw [h.len,List.length_map]
 have hn:n=gs.length:=by
  rcases h.own.2 with ⟨h',_⟩ | ⟨g',cap',cur,h',_⟩
  ·simp at h'
  ·injection h'
 subst hn
 obtain ⟨g,hg⟩:∃ g,gs[i]? = some g:=⟨_,List.getElem?_eq_getElem (by omega)⟩
 refine ⟨g,?_,by omega,h.at_ i g (bP t) hg (by rw [List.getElem?_map,ht];rfl)⟩
 rw [h.own.cellAt i (by omega)]
 simp [bD,hg]
theorem DU {Y:Nat->Prop} {w:World} {l:List LT} {ps:List Nat} {sl sls slv:Value} {gs bss bsv:List Nat} (hY:∀ k,Y k->k<w.heap.size) (hC:CsO Y w sl gs (l.map bP)) (hS:OZ Y w sls bss (aW false l)) (hV:OZ Y w slv bsv (aW true l)) (hl:0<l.length) (hN:∀ t,t∈l->jZ t):
  Calls Tryz.prog 76 #[sl,.agg #[.int .i64 1,sls],.agg #[.int .i64 2,slv]] w fun e w'=>lT Y w (cX 124 l ps) e w':=by
 have XE:∀ (fn:Fn) (first cap:Array Value) (w:World),(Instr.makeFunc fn first cap).run Tryz.prog w = .ok (.func fn first cap) w:=fun _ _ _ _=>rfl
 have eC:gs.length=l.length:=by rw [hC.len,List.length_map]
 have fU:bss.length=l.length:=by rw [hS.len,pW]
 have dB:bsv.length=l.length:=by rw [hV.len,pW]
 obtain ⟨vb,cap,rfl,_,_⟩:=hC.own.form (by omega)
 obtain ⟨sb,cs,rfl,_,_⟩:=hS.own.form (by omega)
 obtain ⟨ub,cu,rfl,_,_⟩:=hV.own.form (by omega)
 rw [eC] at hC ⊢
 rw [fU] at hS ⊢
 rw [dB] at hV ⊢
 have HH:=aB (And.intro hY (And.intro hC (And.intro hS (And.intro hV (And.intro hl hN)))))
 clear hY hC hS hV hl hN eC fU dB
 go_enter Tryz.func76,Tryz.ntmps76
 go_wp2
 go_ret
 obtain ⟨hY,hC,hS,hV,hl,hN⟩:=aA HH
 obtain ⟨w3,hw3,hs3,p0,p1,p2,p3,hg3⟩:=oQ w (.cells #[.slice (some ⟨vb,0,none⟩) l.length cap] 112) (.cells #[.int .i64 1,.slice (some ⟨sb,0,none⟩) l.length cs] 137) (.cells #[.int .i64 2,.slice (some ⟨ub,0,none⟩) l.length cu] 137) (.cells #[.func (.func 116) #[] #[.pointer (some ⟨w.heap.size,0,none⟩),.pointer (some ⟨w.heap.size+1,0,none⟩)],.func (.func 118) #[] #[.pointer (some ⟨w.heap.size+2,0,none⟩),.pointer (some ⟨w.heap.size+1,0,none⟩),.pointer (some ⟨w.heap.size,0,none⟩)],.func (.func 120) #[] #[.pointer (some ⟨w.heap.size,0,none⟩),.pointer (some ⟨w.heap.size+2,0,none⟩)]] 88)
 have eE:=K0.of_grownz hg3
 have ny:∀ k,w.heap.size<=k->¬ Y k:=fun k h hy=>by have:=hY _ hy;omega
 refine ⟨w.heap.size+3,rfl,?_,?_⟩
 ·rw [hw3]
  refine ⟨_,_,_,p3,ny _ (by omega),?_,?_,?_⟩
  ·refine ⟨_,_,_,rfl,enters_of Tryz.func116 (by kernel_rfl) rfl,fun W u hW hu=>?_⟩
   have e:(#[]:Array Value).push (.string (aE u)) ++ #[.pointer (some ⟨w.heap.size,0,none⟩),.pointer (some ⟨w.heap.size+1,0,none⟩)] = #[.string (aE u),.pointer (some ⟨w.heap.size,0,none⟩),.pointer (some ⟨w.heap.size+1,0,none⟩)]:=by simp
   rw [e]
   have hk:=(eE.ky Y).trans hW
   rcases I0 u (aW false l) with ⟨i,x,hf⟩ | hf
   ·obtain ⟨t,ht⟩:=Y4 false hN hf
    obtain ⟨g,hc,hi,f1,f2,f3,hb,_,q1,q2,q3⟩:=(hC.ky hk).lens ht.1
    refine (aD8 (hW.heap p0 (ny _ (by omega))) (hW.heap p1 (ny _ (by omega))) (hS.ky hk).msAt hc hi hb q1 hu hf ht.2.1).mono ?_
    rintro e w' ⟨rfl,dS⟩
    exact ⟨.inl ⟨vX false hl hN hf,by rw [UW ht]⟩,dS⟩
   ·refine (aD9 (hW.heap p0 (ny _ (by omega))) (hW.heap p1 (ny _ (by omega))) (hS.ky hk).msAt hu hf).mono ?_
    rintro e w' ⟨rfl,dS⟩
    exact ⟨.inr ⟨r8 false hl hN hf,rfl⟩,dS⟩
  ·refine ⟨_,_,_,rfl,enters_of Tryz.func118 (by kernel_rfl) rfl,fun W v s hW hv hs=>?_⟩
   have e:(#[]:Array Value)++(#[.string (aE v),.string (aE s)] ++ #[.pointer (some ⟨w.heap.size+2,0,none⟩),.pointer (some ⟨w.heap.size+1,0,none⟩),.pointer (some ⟨w.heap.size,0,none⟩)]) = #[.string (aE v),.string (aE s),.pointer (some ⟨w.heap.size+2,0,none⟩),.pointer (some ⟨w.heap.size+1,0,none⟩),.pointer (some ⟨w.heap.size,0,none⟩)]:=by simp
   rw [e]
   have hk:=(eE.ky Y).trans hW
   rcases I0 v (aW true l) with ⟨i,x,hf⟩ | hf
   ·rcases I0 s (aW false l) with ⟨j,y,hg⟩ | hg
    ·obtain ⟨t,ht⟩:=Y4 true hN hf
     obtain ⟨r,hr⟩:=Y4 false hN hg
     have hjv:=kI true l j r hr.1
     have hrn:=hN r (List.mem_of_getElem? hr.1)
     rcases Classical.em (M (aS true r) v) with hm | hm
     ·obtain ⟨g,hc,hi,f1,f2,f3,hb,_,q1,q2,q3⟩:=(hC.ky hk).lens hr.1
      have qI:M (bV (bP r)) v:=(cV true r hrn v).2 hm
      refine (aAW (hW.heap p0 (ny _ (by omega))) (hW.heap p2 (ny _ (by omega))) (hW.heap p1 (ny _ (by omega))) (hV.ky hk).msAt (hS.ky hk).msAt hv hs hf hg hjv hm hc hi hb q2 qI hr.2.1).mono ?_
      rintro e w' ⟨rfl,dS⟩
      exact ⟨.inl ⟨vX true hl hN hf,vX false hl hN hg,by rw [U4 hr qI]⟩,dS⟩
     ·obtain ⟨g,hc,hi,f1,f2,f3,hb,_,q1,q2,q3⟩:=(hC.ky hk).lens ht.1
      have qI:¬ M (bV (bP r)) v:=fun h=>hm ((cV true r hrn v).1 h)
      refine (aAZ (hW.heap p0 (ny _ (by omega))) (hW.heap p2 (ny _ (by omega))) (hW.heap p1 (ny _ (by omega))) (hV.ky hk).msAt (hS.ky hk).msAt hv hs hf hg hjv hm hc hi hb q3 ht.2.1).mono ?_
      rintro e w' ⟨rfl,dS⟩
      exact ⟨.inl ⟨vX true hl hN hf,vX false hl hN hg,by rw [U5 hr qI ht]⟩,dS⟩
    ·refine (aAY (hW.heap p0 (ny _ (by omega))) (hW.heap p2 (ny _ (by omega))) (hW.heap p1 (ny _ (by omega))) (hV.ky hk).msAt (hS.ky hk).msAt hv hs hf hg).mono ?_
     rintro e w' ⟨rfl,dS⟩
     exact ⟨.inr (.inr ⟨vX true hl hN hf,r8 false hl hN hg,rfl⟩),dS⟩
   ·refine (aAX (hW.heap p2 (ny _ (by omega))) (hV.ky hk).msAt hv hf).mono ?_
    rintro e w' ⟨rfl,dS⟩
    exact ⟨.inr (.inl ⟨r8 true hl hN hf,rfl⟩),dS⟩
  ·refine ⟨_,_,_,rfl,enters_of Tryz.func120 (by kernel_rfl) rfl,fun W u hW hu=>?_⟩
   have e:(#[]:Array Value).push (.string (aE u)) ++ #[.pointer (some ⟨w.heap.size,0,none⟩),.pointer (some ⟨w.heap.size+2,0,none⟩)] = #[.string (aE u),.pointer (some ⟨w.heap.size,0,none⟩),.pointer (some ⟨w.heap.size+2,0,none⟩)]:=by simp
   rw [e]
   have hk:=(eE.ky Y).trans hW
   rcases I0 u (aW true l) with ⟨i,x,hf⟩ | hf
   ·obtain ⟨t,ht⟩:=Y4 true hN hf
    obtain ⟨g,hc,hi,f1,f2,f3,hb,_,q1,q2,q3⟩:=(hC.ky hk).lens ht.1
    refine (aD6 (hW.heap p0 (ny _ (by omega))) (hW.heap p2 (ny _ (by omega))) (hV.ky hk).msAt hc hi hb q3 hu hf ht.2.1).mono ?_
    rintro e w' ⟨rfl,dS⟩
    exact ⟨.inl ⟨vX true hl hN hf,by rw [P7 ht]⟩,dS⟩
   ·refine (aD7 (hW.heap p0 (ny _ (by omega))) (hW.heap p2 (ny _ (by omega))) (hV.ky hk).msAt hu hf).mono ?_
    rintro e w' ⟨rfl,dS⟩
    exact ⟨.inr ⟨r8 true hl hN hf,rfl⟩,dS⟩
 ·rw [hw3]
  exact eE
end Go.Proofs.YtlljggefbngkeaaGreatDoor
