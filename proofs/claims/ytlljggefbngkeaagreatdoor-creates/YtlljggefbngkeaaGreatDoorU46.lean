import Derived.Test.YtlljggefbngkeaaGreatDoorU45
import Derived.Test.YtlljggefbngkeaaGreatDoorU41
set_option maxRecDepth 100000
set_option maxHeartbeats 3200000
namespace Go.Proofs.YtlljggefbngkeaaGreatDoor
open Go.RowKit Go.Shelf
structure NB (t:LT):Prop where
 ok:jZ t
 sz:iZ t<=400
 ne:pQ (bP t)
 bz:fH (bP t)<=800
theorem NB.v {t:LT} (h:NB t):J3 t:=(FG.of h.ok h.sz).1
theorem B5:∀ {l:List PT},bO l->∀ x,x∈l->aX x
 | [],_,x,h=>by cases h
 | y::l,h,x,hx=>by
  rw [bO] at h
  rcases List.mem_cons.1 hx with rfl | hx
  ·exact h.1
  ·exact B5 h.2 x hx
theorem zU:∀ {l:List PT} {x:PT},x∈l->aP x<=aR l
 | [],x,h=>by cases h
 | y::l,x,hx=>by
  rw [aR]
  rcases List.mem_cons.1 hx with rfl | hx
  ·omega
  ·have:=zU hx;omega
theorem NB.parts {t:LT} (h:NB t) (v:Bool):(∀ x,x∈cL v t->aX x/\aP x<=1000)/\∀ i,aX (gM ((cL v t).take (i+1)))/\aP (gM ((cL v t).take (i+1)))<=1000:=by
 have h1:=vC v t
 have h2:=kO t
 have h3:=h.sz
 have h4:=wV v t h.ok
 refine ⟨fun x hx=>⟨B5 h4 x hx,?_⟩,fun i=>⟨qE (oJ _ _ h4),?_⟩⟩
 ·have:=zU hx;omega
 ·have:=kJ ((cL v t).take (i+1))
  have:=gV (cL v t) (i+1)
  omega
theorem wN {s:ByteArray} {v:Bool} {t:LT} {w W:World} {Y:Nat->Prop} {g:Nat} (hL:LR s w Y t g) (hN:NB t) (hY:∀ k,Y k->k<w.heap.size) (hk:K0 w W):
  Calls Tryz.prog 69 #[.int .i64 (rR v),.pointer (some ⟨g,0,none⟩)] W fun e w'=>(∃ b,e = .returned (.agg #[.int .i64 (fB v),.pointer (some ⟨b,0,none⟩)])/\bR w' Y (aS v t) b)/\K0 W w':=by
 have hz:=hk.size
 refine (T7 (LR.kept (fun k dS _=>hk.heap dS) hL) hN.v (fun k h=>by have:=hY k h;omega) hN.ok hN.sz).mono ?_
 rintro e w' ⟨⟨b,h1,h2⟩,h3⟩
 exact ⟨⟨b,h1,h2.reY (fun k _ hy=>by have:=hY k hy;omega)⟩,h3⟩
theorem sF {s:ByteArray} {v:Bool} {t:LT} {w W:World} {Y:Nat->Prop} {g:Nat} (hL:LR s w Y t g) (hN:NB t) (hY:∀ k,Y k->k<w.heap.size) (hp:0<(parts t).length) (hk:K0 w W):
  Calls Tryz.prog 72 #[.int .i64 (rR v),.pointer (some ⟨g,0,none⟩)] W fun e w'=>(∃ sl ps,e = .returned sl/\QE Y w' (fB v) sl ps (qD (cL v t) ((parts t).length-1)))/\K0 W w':=by
 have hz:=hk.size
 refine (L4 (LR.kept (fun k dS _=>hk.heap dS) hL) hN.v (fun k h=>by have:=hY k h;omega) (hN.parts v).1 (hN.parts v).2 hp).mono ?_
 rintro e w' ⟨sl,ps,h1,h2,h3⟩
 exact ⟨⟨sl,ps,h1,h2.reY (fun k _ hy=>by have:=hY k hy;omega)⟩,h3⟩
theorem KC {s:ByteArray} {v:Bool} {t:LT} {w W:World} {Y:Nat->Prop} {g:Nat} (hL:LR s w Y t g) (hN:NB t) (hY:∀ k,Y k->k<w.heap.size) (hk:K0 w W):
  Calls Tryz.prog 77 #[.int .i64 (rR v),.pointer (some ⟨g,0,none⟩)] W fun e w'=>(∃ sl bs,e = .returned (.agg #[.int .i64 (fB v),sl])/\OZ Y w' sl bs (cL v t))/\K0 W w':=by
 have hz:=hk.size
 refine (BC (LR.kept (fun k dS _=>hk.heap dS) hL) hN.v (fun k h=>by have:=hY k h;omega) (hN.parts v).1).mono ?_
 rintro e w' ⟨sl,bs,h1,h2,h3⟩
 exact ⟨⟨sl,bs,h1,h2.reY (fun k _ hy=>by have:=hY k hy;omega)⟩,h3⟩
theorem SA {s:ByteArray} {l:List PT} {i j:Nat} (hN:NB (.same l i j)) (ih:∀ u,u∈parts (.same l i j)->lL s u):lL s (.same l i j):=by
 intro w Y g hL hY
 obtain ⟨wE,pv,jv,pat,wr0,vw,df,a0,gs,hb,nX,f9,E6⟩:=gX hL
 obtain ⟨ao,cp,rfl⟩:=aG nX
 obtain ⟨hlen,hat⟩:=nK E6
 have mC:gs.length<=1000:=by have:=hN.v.len;omega
 have c1:w.cell? ⟨g,1,none⟩=some (.slice ao gs.length cp):=by rw [aC hb 1];rfl
 have HE:=aB (jB hY nX hlen (fun i p t h1 h2=>hat i t p h1 h2) ih mC)
 have HB:=aB hb
 have HL:=aB (And.intro hL (And.intro hN (And.intro hY wE)))
 have HLEN:=aB hlen
 clear hL hN hY wE hb nX f9 E6 hat hlen ih mC
 go_enter Tryz.func47,Tryz.ntmps47
 go_wp2_with fail
 refine (aA HE).mono ?_
 rintro e w1 ⟨sl,bs,rfl,zC,aY⟩
 obtain ⟨ao1,cp1,rfl⟩:=aG zC.own
 have c0:w1.cell? ⟨g,0,none⟩=some (.int .i64 0):=by rw [aC ((aY.heap (aD (aA HB))).trans (aA HB)) 0];rfl
 have HC:=aB zC
 clear zC HE c1
 have JN:=aB (fun (W:World) (hk:K0 w W)=>wN (v:=false) (aA HL).1 (aA HL).2.1 (aA HL).2.2.1 hk)
 have zN:=aB (fun (W:World) (hk:K0 w W)=>wN (v:=true) (aA HL).1 (aA HL).2.1 (aA HL).2.2.1 hk)
 rw [show rR false=0 from rfl,show fB false=1 from rfl] at JN
 rw [show rR true=1 from rfl,show fB true=2 from rfl] at zN
 go_wp2_with fail
 refine (aA JN _ aY).mono ?_
 rintro e w2 ⟨⟨b1,rfl,pS⟩,hk2⟩
 have dZ:=aY.trans hk2
 have HM1:=aB pS
 clear pS
 go_wp2_with fail
 refine (aA zN _ dZ).mono ?_
 rintro e w3 ⟨⟨b2,rfl,mE⟩,hk3⟩
 have i7:=dZ.trans hk3
 have T3:=aB mE
 clear mE
 have HF:=aB (MU (t := .alt l) (fun k h=>by have:=(aA HL).2.2.1 k h;have:=i7.size;omega) ((aA HM1).ky (hk3.ky Y)) (aA T3) (fun u=>(cV false (.same l i j) (aA HL).2.1.ok u).symm) (fun u=>(cV true (.same l i j) (aA HL).2.1.ok u).symm))
 go_wp2_with fail
 refine (aA HF).mono ?_
 rintro e w4 ⟨b,rfl,rN,hk4⟩
 have H4:=aB rN
 clear rN
 go_wp2
 go_ret
 rw [bP]
 exact ⟨b,rfl,aA H4,i7.trans hk4⟩
theorem NF {s:ByteArray} {l:List PT} {i j:Nat} {vv dd:List UInt8} {aa:Nat} (hN:NB (.fixed l i j vv dd aa)) (ih:∀ u,u∈parts (.fixed l i j vv dd aa)->lL s u):lL s (.fixed l i j vv dd aa):=by
 intro w Y g hL hY
 obtain ⟨wE,pv,jv,pat,wr0,vw,df,a0,gs,hb,nX,f9,E6⟩:=gX hL
 obtain ⟨ao,cp,rfl⟩:=aG nX
 obtain ⟨hlen,hat⟩:=nK E6
 have mC:gs.length<=1000:=by have:=hN.v.len;omega
 have c1:w.cell? ⟨g,1,none⟩=some (.slice ao gs.length cp):=by rw [aC hb 1];rfl
 have HE:=aB (jB hY nX hlen (fun i p t h1 h2=>hat i t p h1 h2) ih mC)
 have HB:=aB hb
 have HL:=aB (And.intro hL (And.intro hN (And.intro hY wE)))
 have HLEN:=aB hlen
 clear hL hN hY wE hb nX f9 E6 hat hlen ih mC
 go_enter Tryz.func47,Tryz.ntmps47
 go_wp2_with fail
 refine (aA HE).mono ?_
 rintro e w1 ⟨sl,bs,rfl,zC,aY⟩
 obtain ⟨ao1,cp1,rfl⟩:=aG zC.own
 have c0:w1.cell? ⟨g,0,none⟩=some (.int .i64 1):=by rw [aC ((aY.heap (aD (aA HB))).trans (aA HB)) 0];rfl
 have HC:=aB zC
 clear zC HE c1
 have JN:=aB (fun (W:World) (hk:K0 w W)=>wN (v:=false) (aA HL).1 (aA HL).2.1 (aA HL).2.2.1 hk)
 have zN:=aB (fun (W:World) (hk:K0 w W)=>wN (v:=true) (aA HL).1 (aA HL).2.1 (aA HL).2.2.1 hk)
 rw [show rR false=0 from rfl,show fB false=1 from rfl] at JN
 rw [show rR true=1 from rfl,show fB true=2 from rfl] at zN
 go_wp2_with fail
 refine (aA JN _ aY).mono ?_
 rintro e w2 ⟨⟨b1,rfl,pS⟩,hk2⟩
 have dZ:=aY.trans hk2
 have HM1:=aB pS
 clear pS
 go_wp2_with fail
 refine (aA zN _ dZ).mono ?_
 rintro e w3 ⟨⟨b2,rfl,mE⟩,hk3⟩
 have i7:=dZ.trans hk3
 have T3:=aB mE
 clear mE
 have kX:∃ p,w.heap[g]? = some (rG 1 (.slice none 0 0) (.slice none 0 0) (.pointer (some ⟨p,0,none⟩)) (s.extract i j) (aE vv) (aE dd) aa):=by
  have h:=(aA HL).1
  rw [LR] at h
  exact ⟨h.2.choose,h.2.choose_spec.1⟩
 obtain ⟨pp,kX⟩:=kX
 have HF:=aB (IM (t := .alt l) (v:=vv) (d:=dd) (fun k h=>by have:=(aA HL).2.2.1 k h;have:=i7.size;omega) (aA HL).2.2.2 ((i7.heap (aD kX)).trans kX) ((aA HM1).ky (hk3.ky Y)) (aA T3) (fun u=>(cV false (.fixed l i j vv dd aa) (aA HL).2.1.ok u).symm) (fun u=>(cV true (.fixed l i j vv dd aa) (aA HL).2.1.ok u).symm))
 clear kX
 go_wp2_with fail
 refine (aA HF).mono ?_
 rintro e w4 ⟨b,rfl,rN,hk4⟩
 have H4:=aB rN
 clear rN
 go_wp2
 go_ret
 rw [bP]
 exact ⟨b,rfl,aA H4,i7.trans hk4⟩
theorem NE {s:ByteArray} {a:LT} (hN:NB (.group a)) (ih:∀ u,u∈parts (.group a)->lL s u):lL s (.group a):=by
 intro w Y g hL hY
 obtain ⟨wE,pv,jv,pat,wr0,vw,df,a0,gs,hb,nX,f9,E6⟩:=gX hL
 obtain ⟨ao,cp,rfl⟩:=aG nX
 obtain ⟨hlen,hat⟩:=nK E6
 have mC:gs.length<=1000:=by have:=hN.v.len;omega
 have c1:w.cell? ⟨g,1,none⟩=some (.slice ao gs.length cp):=by rw [aC hb 1];rfl
 have HE:=aB (jB hY nX hlen (fun i p t h1 h2=>hat i t p h1 h2) ih mC)
 have HB:=aB hb
 have HL:=aB (And.intro hL (And.intro hN (And.intro hY wE)))
 have HLEN:=aB hlen
 clear hL hN hY wE hb nX f9 E6 hat hlen ih mC
 go_enter Tryz.func47,Tryz.ntmps47
 go_wp2_with fail
 refine (aA HE).mono ?_
 rintro e w1 ⟨sl,bs,rfl,zC,aY⟩
 obtain ⟨ao1,cp1,rfl⟩:=aG zC.own
 have c0:w1.cell? ⟨g,0,none⟩=some (.int .i64 3):=by rw [aC ((aY.heap (aD (aA HB))).trans (aA HB)) 0];rfl
 have HC:=aB zC
 clear zC HE c1
 have oN:bs.length=1:=by have:=(aA HC).len;rw [this,List.length_map];rfl
 obtain ⟨vb,cap,fM,_,dB⟩:=(aA HC).own.form (by omega)
 injection fM with hao hn nY
 subst hao nY
 obtain ⟨g0,hg0⟩:∃ g0,bs[0]? = some g0:=⟨_,List.getElem?_eq_getElem (by omega)⟩
 have d0:w1.cell? ⟨vb,0,none⟩=some (.pointer (some ⟨g0,0,none⟩)):=by
  rw [(aA HC).own.cellAt 0 (by omega)]
  simp [bD,hg0]
 have rN:=(aA HC).at_ 0 g0 (bP a) hg0 rfl
 have H4:=aB rN
 clear rN hg0
 rw [oN]
 go_wp2
 go_ret
 rw [bP]
 exact ⟨g0,rfl,aA H4,aY⟩
theorem row_one {Y:Nat->Prop} {w:World} {l:List LT} {ps:List Nat} {sl sls slv:Value} {gs:List Nat} (hC:CsO Y w sl gs (l.map bP)) (hl:l.length=1):
  Calls Tryz.prog 75 #[sl,sls,slv] w fun e w'=>lT Y w (cX 114 l ps) e w':=by
 have eC:gs.length=1:=by rw [hC.len,List.length_map,hl]
 obtain ⟨vb,cap,rfl,_,aEF⟩:=hC.own.form (by omega)
 have CT:gs.length<=cap/\cap<=9223372036854775807:=by
  rcases hC.own.2 with ⟨h',_⟩ | ⟨g',cap',cur,h',_,_,hnc,hcm,_⟩
  ·simp at h'
  ·injection h' with _ _ hc
   unfold maxLen at hcm
   omega
 obtain ⟨g0,hg0⟩:∃ g0,gs[0]? = some g0:=⟨_,List.getElem?_eq_getElem (by omega)⟩
 obtain ⟨t0,rfl⟩:=List.length_eq_one_iff.1 hl
 have c0:w.cell? ⟨vb,0,none⟩=some (.pointer (some ⟨g0,0,none⟩)):=by
  rw [hC.own.cellAt 0 (by omega)]
  simp [bD,hg0]
 have hst:CL Y w g0 (cX 114 [t0] ps):=by
  have:=hC.at_ 0 g0 (bP t0) hg0 rfl
  rw [nA]
  exact this
 rw [eC] at CT ⊢
 have HST:=aB hst
 have i8:(1:Int)<=(cap:Int):=by omega
 clear hC hst hg0 eC
 by_cases h1:cap=1
 ·subst h1
  go_enter Tryz.func75,Tryz.ntmps75
  go_wp2_with fail
  refine wp_loop_rounds 1 ?_
  rw [rounds_succ]
  go_wp2
  go_ret
  exact ⟨g0,rfl,aA HST,K0.refl _⟩
 ·have h2:¬ (cap-1=0):=by omega
  go_enter Tryz.func75,Tryz.ntmps75
  go_wp2_with fail
  refine wp_loop_rounds 1 ?_
  rw [rounds_succ]
  go_wp2
  go_ret
  exact ⟨g0,rfl,aA HST,K0.refl _⟩
theorem ZO {s:ByteArray} {l:List LT} {ps:List Nat} (hN:NB (.row l ps)) (ih:∀ u,u∈parts (.row l ps)->lL s u):lL s (.row l ps):=by
 intro w Y g hL hY
 obtain ⟨wE,pv,jv,pat,wr0,vw,df,a0,gs,hb,nX,f9,E6⟩:=gX hL
 obtain ⟨ao,cp,rfl⟩:=aG nX
 obtain ⟨hlen,hat⟩:=nK E6
 have mC:gs.length<=1000:=by have:=hN.v.len;omega
 have c1:w.cell? ⟨g,1,none⟩=some (.slice ao gs.length cp):=by rw [aC hb 1];rfl
 have HE:=aB (jB hY nX hlen (fun i p t h1 h2=>hat i t p h1 h2) ih mC)
 have HB:=aB hb
 have HL:=aB (And.intro hL (And.intro hN (And.intro hY wE)))
 have HLEN:=aB hlen
 clear hL hN hY wE hb nX f9 E6 hat hlen ih mC
 go_enter Tryz.func47,Tryz.ntmps47
 go_wp2_with fail
 refine (aA HE).mono ?_
 rintro e w1 ⟨sl,bs,rfl,zC,aY⟩
 obtain ⟨ao1,cp1,rfl⟩:=aG zC.own
 have c0:w1.cell? ⟨g,0,none⟩=some (.int .i64 5):=by rw [aC ((aY.heap (aD (aA HB))).trans (aA HB)) 0];rfl
 have HC:=aB zC
 clear zC HE c1
 have PL:ps.length+1=l.length:=(aA HL).2.1.ok.self
 have JN:=aB (fun (W:World) (hk:K0 w W)=>sF (v:=false) (aA HL).1 (aA HL).2.1 (aA HL).2.2.1 (by show 0<l.length;omega) hk)
 have zN:=aB (fun (W:World) (hk:K0 w W)=>sF (v:=true) (aA HL).1 (aA HL).2.1 (aA HL).2.2.1 (by show 0<l.length;omega) hk)
 rw [show rR false=0 from rfl,show fB false=1 from rfl] at JN
 rw [show rR true=1 from rfl,show fB true=2 from rfl] at zN
 clear PL
 go_wp2_with fail
 refine (aA JN _ aY).mono ?_
 rintro e w2 ⟨⟨sl1,p1,rfl,pS⟩,hk2⟩
 obtain ⟨ao2,cp2,rfl⟩:=aG pS.own
 have dZ:=aY.trans hk2
 have HM1:=aB pS
 clear pS
 go_wp2_with fail
 refine (aA zN _ dZ).mono ?_
 rintro e w3 ⟨⟨sl2,p2,rfl,mE⟩,hk3⟩
 obtain ⟨ao3,cp3,rfl⟩:=aG mE.own
 have i7:=dZ.trans hk3
 have T3:=aB mE
 clear mE
 have HF:Hid (Calls Tryz.prog 75 #[.slice ao1 bs.length cp1,.slice ao2 p1.length cp2,.slice ao3 p2.length cp3] w3 fun e w'=>lT Y w3 (cX 114 l ps) e w'):=aB (by
  have hN:=(aA HL).2.1
  have PL:ps.length+1=l.length:=hN.ok.self
  have hne:=hN.ne
  have X0:=hN.bz
  rw [bP] at hne X0
  rcases Nat.lt_or_ge l.length 2 with h2 | h2
  ·have oN:l.length=1:=by omega
   exact row_one ((aA HC).ky ((hk2.trans hk3).ky Y)) oN
  ·exact QZ (fun k h=>by have:=(aA HL).2.2.1 k h;have:=i7.size;omega) ((aA HC).ky ((hk2.trans hk3).ky Y)) ((aA HM1).ky (hk3.ky Y)) (aA T3) PL h2 (fun t ht=>hN.ok.part ht) hne X0)
 go_wp2_with fail
 refine (aA HF).mono ?_
 rintro e w4 ⟨b,rfl,rN,hk4⟩
 have H4:=aB rN
 clear rN
 go_wp2
 go_ret
 rw [bP]
 exact ⟨b,rfl,aA H4,i7.trans hk4⟩
theorem FX {s:ByteArray} {l:List LT} {ps:List Nat} (hN:NB (.choice l ps)) (ih:∀ u,u∈parts (.choice l ps)->lL s u):lL s (.choice l ps):=by
 intro w Y g hL hY
 obtain ⟨wE,pv,jv,pat,wr0,vw,df,a0,gs,hb,nX,f9,E6⟩:=gX hL
 obtain ⟨ao,cp,rfl⟩:=aG nX
 obtain ⟨hlen,hat⟩:=nK E6
 have mC:gs.length<=1000:=by have:=hN.v.len;omega
 have c1:w.cell? ⟨g,1,none⟩=some (.slice ao gs.length cp):=by rw [aC hb 1];rfl
 have HE:=aB (jB hY nX hlen (fun i p t h1 h2=>hat i t p h1 h2) ih mC)
 have HB:=aB hb
 have HL:=aB (And.intro hL (And.intro hN (And.intro hY wE)))
 have HLEN:=aB hlen
 clear hL hN hY wE hb nX f9 E6 hat hlen ih mC
 go_enter Tryz.func47,Tryz.ntmps47
 go_wp2_with fail
 refine (aA HE).mono ?_
 rintro e w1 ⟨sl,bs,rfl,zC,aY⟩
 obtain ⟨ao1,cp1,rfl⟩:=aG zC.own
 have c0:w1.cell? ⟨g,0,none⟩=some (.int .i64 6):=by rw [aC ((aY.heap (aD (aA HB))).trans (aA HB)) 0];rfl
 have HC:=aB zC
 clear zC HE c1
 have JN:=aB (fun (W:World) (hk:K0 w W)=>KC (v:=false) (aA HL).1 (aA HL).2.1 (aA HL).2.2.1 hk)
 have zN:=aB (fun (W:World) (hk:K0 w W)=>KC (v:=true) (aA HL).1 (aA HL).2.1 (aA HL).2.2.1 hk)
 rw [show rR false=0 from rfl,show fB false=1 from rfl] at JN
 rw [show rR true=1 from rfl,show fB true=2 from rfl] at zN
 go_wp2_with fail
 refine (aA JN _ aY).mono ?_
 rintro e w2 ⟨⟨sl1,p1,rfl,pS⟩,hk2⟩
 obtain ⟨ao2,cp2,rfl⟩:=aG pS.own
 have dZ:=aY.trans hk2
 have HM1:=aB pS
 clear pS
 go_wp2_with fail
 refine (aA zN _ dZ).mono ?_
 rintro e w3 ⟨⟨sl2,p2,rfl,mE⟩,hk3⟩
 obtain ⟨ao3,cp3,rfl⟩:=aG mE.own
 have i7:=dZ.trans hk3
 have T3:=aB mE
 clear mE
 have HF:Hid (Calls Tryz.prog 76 #[.slice ao1 bs.length cp1,.agg #[.int .i64 1,.slice ao2 p1.length cp2],.agg #[.int .i64 2,.slice ao3 p2.length cp3]] w3 fun e w'=>lT Y w3 (cX 124 l ps) e w'):=aB (by
  have hN:=(aA HL).2.1
  have PL:ps.length+1=l.length:=hN.ok.self
  exact DU (fun k h=>by have:=(aA HL).2.2.1 k h;have:=i7.size;omega) ((aA HC).ky ((hk2.trans hk3).ky Y)) ((aA HM1).ky (hk3.ky Y)) (aA T3) (by omega) (fun t ht=>hN.ok.part ht))
 go_wp2_with fail
 refine (aA HF).mono ?_
 rintro e w4 ⟨b,rfl,rN,hk4⟩
 have H4:=aB rN
 clear rN
 go_wp2
 go_ret
 rw [bP]
 exact ⟨b,rfl,aA H4,i7.trans hk4⟩
theorem RC {s:ByteArray} {v:Bool} {p:Nat} {a:LT} {w W:World} {Y:Nat->Prop} {g:Nat} (hL:LR s w Y (.many p a) g) (hN:NB (.many p a)) (hY:∀ k,Y k->k<w.heap.size) (hk:K0 w W):
  Calls Tryz.prog 74 #[.int .i64 (rR v),.pointer (some ⟨g,0,none⟩)] W fun e w'=>(∃ ba bb,e = .returned (.agg #[.int .i64 (fB v),.pointer (some ⟨ba,0,none⟩),.pointer (some ⟨bb,0,none⟩)])/\bR w' Y (aS v a) ba/\bR w' Y (.rep 42 (aS v a)) bb)/\K0 W w':=by
 have hz:=hk.size
 have h1:=fE v a
 have h2:=hN.sz
 rw [iZ] at h2
 refine (A5 (LR.kept (fun k dS _=>hk.heap dS) hL) hN.v (fun k h=>by have:=hY k h;omega) (iQ v a (hN.ok.part (by simp [parts]))) (by omega) (by rw [aP];omega)).mono ?_
 rintro e w' ⟨ba,bb,e1,e2,e3,e4⟩
 exact ⟨⟨ba,bb,e1,e2.reY (fun k _ hy=>by have:=hY k hy;omega),e3.reY (fun k _ hy=>by have:=hY k hy;omega)⟩,e4⟩
theorem SB {s:ByteArray} {p:Nat} {a:LT} (hN:NB (.many p a)) (ih:∀ u,u∈parts (.many p a)->lL s u):lL s (.many p a):=by
 intro w Y g hL hY
 obtain ⟨wE,pv,jv,pat,wr0,vw,df,a0,gs,hb,nX,f9,E6⟩:=gX hL
 obtain ⟨ao,cp,rfl⟩:=aG nX
 obtain ⟨hlen,hat⟩:=nK E6
 have mC:gs.length<=1000:=by have:=hN.v.len;omega
 have c1:w.cell? ⟨g,1,none⟩=some (.slice ao gs.length cp):=by rw [aC hb 1];rfl
 have HE:=aB (jB hY nX hlen (fun i p t h1 h2=>hat i t p h1 h2) ih mC)
 have HB:=aB hb
 have HL:=aB (And.intro hL (And.intro hN (And.intro hY wE)))
 have HLEN:=aB hlen
 clear hL hN hY wE hb nX f9 E6 hat hlen ih mC
 go_enter Tryz.func47,Tryz.ntmps47
 go_wp2_with fail
 refine (aA HE).mono ?_
 rintro e w1 ⟨sl,bs,rfl,zC,aY⟩
 obtain ⟨ao1,cp1,rfl⟩:=aG zC.own
 have c0:w1.cell? ⟨g,0,none⟩=some (.int .i64 4):=by rw [aC ((aY.heap (aD (aA HB))).trans (aA HB)) 0];rfl
 have HC:=aB zC
 clear zC HE c1
 have oN:bs.length=1:=by have:=(aA HC).len;rw [this,List.length_map];rfl
 obtain ⟨vb,cap,fM,_,dB⟩:=(aA HC).own.form (by omega)
 injection fM with hao hn nY
 subst hao nY
 obtain ⟨g0,hg0⟩:∃ g0,bs[0]? = some g0:=⟨_,List.getElem?_eq_getElem (by omega)⟩
 have d0:w1.cell? ⟨vb,0,none⟩=some (.pointer (some ⟨g0,0,none⟩)):=by
  rw [(aA HC).own.cellAt 0 (by omega)]
  simp [bD,hg0]
 have rN:=(aA HC).at_ 0 g0 (bP a) hg0 rfl
 have JN:Hid (∀ V:World,(K0 w1 V/\V.cell? ⟨vb,0,none⟩=some (.pointer (some ⟨g0,0,none⟩)))->Calls Tryz.prog 74 #[.int .i64 0,.pointer (some ⟨g,0,none⟩)] V fun e V'=>(∃ ba bb,e = .returned (.agg #[.int .i64 1,.pointer (some ⟨ba,0,none⟩),.pointer (some ⟨bb,0,none⟩)])/\bR V' Y (aS false a) ba/\bR V' Y (.rep 42 (aS false a)) bb)/\K0 V V'/\(K0 w1 V'/\V'.cell? ⟨vb,0,none⟩=some (.pointer (some ⟨g0,0,none⟩)))):=aB (fun V h=>(RC (v:=false) (aA HL).1 (aA HL).2.1 (aA HL).2.2.1 (aY.trans h.1)).mono (fun e V' h2=>⟨h2.1,h2.2,h.1.trans h2.2,h2.2.cellz h.2⟩))
 have zN:Hid (∀ V:World,(K0 w1 V/\V.cell? ⟨vb,0,none⟩=some (.pointer (some ⟨g0,0,none⟩)))->Calls Tryz.prog 74 #[.int .i64 1,.pointer (some ⟨g,0,none⟩)] V fun e V'=>(∃ ba bb,e = .returned (.agg #[.int .i64 2,.pointer (some ⟨ba,0,none⟩),.pointer (some ⟨bb,0,none⟩)])/\bR V' Y (aS true a) ba/\bR V' Y (.rep 42 (aS true a)) bb)/\K0 V V'/\(K0 w1 V'/\V'.cell? ⟨vb,0,none⟩=some (.pointer (some ⟨g0,0,none⟩)))):=aB (fun V h=>(RC (v:=true) (aA HL).1 (aA HL).2.1 (aA HL).2.2.1 (aY.trans h.1)).mono (fun e V' h2=>⟨h2.1,h2.2,h.1.trans h2.2,h2.2.cellz h.2⟩))
 have HF:Hid (∀ (V:World) (ba bb ca cb:Nat),(K0 w1 V/\V.cell? ⟨vb,0,none⟩=some (.pointer (some ⟨g0,0,none⟩)))->bR V Y (aS false a) ba->bR V Y (.rep 42 (aS false a)) bb->bR V Y (aS true a) ca->bR V Y (.rep 42 (aS true a)) cb->Calls Tryz.prog 73 #[.pointer (some ⟨g0,0,none⟩),.agg #[.int .i64 1,.pointer (some ⟨ba,0,none⟩),.pointer (some ⟨bb,0,none⟩)],.agg #[.int .i64 2,.pointer (some ⟨ca,0,none⟩),.pointer (some ⟨cb,0,none⟩)]] V fun e V'=>(∃ b,e = .returned (.pointer (some ⟨b,0,none⟩))/\CL Y V' b (.star p (bP a)))/\(K0 w1 V'/\V'.cell? ⟨vb,0,none⟩=some (.pointer (some ⟨g0,0,none⟩)))):=aB (fun V ba bb ca cb h m1 m2 m3 m4=>by
  have hN:=(aA HL).2.1
  have hne:=hN.ne
  have X0:=hN.bz
  rw [bP] at hne X0
  have i6:=hN.ok.part (u:=a) (by simp [parts])
  refine (NJ p (fun k hk=>by have:=(aA HL).2.2.1 k hk;have:=(aY.trans h.1).size;omega) (rN.ky (h.1.ky Y)) m1 m2 m3 m4 (fun u=>(cV false a i6 u).symm) (fun u=>(cV true a i6 u).symm) hne X0).mono ?_
  rintro e V' ⟨b,e1,e2,e3⟩
  exact ⟨⟨b,e1,e2⟩,h.1.trans e3,e3.cellz h.2⟩)
 have fV:K0 w1 w1.drew:=Kp.drew _ _
 clear rN hg0
 rw [oN]
 go_wp2_with fail
 go_region_held3 (fun V=>(K0 w1 V/\V.cell? ⟨vb,0,none⟩=some (.pointer (some ⟨g0,0,none⟩)))) (go_keep) (first
  | (go_at_call 73;refine (aA HF _ _ _ _ _ (by assumption) ((aA T3).1.ky (hk3.ky Y)) ((aA T3).2.ky (hk3.ky Y)) (aA YC).1 (aA YC).2).mono ?_;rintro e w4 ⟨⟨b,rfl,F0⟩,mD⟩;have HCL:=aB F0;clear F0)
  | (go_at_call 74;have hgd:=aA T3;clear hgd;refine (aA zN _ (by assumption)).mono ?_;rintro e w3 ⟨⟨ca,cb,rfl,j9⟩,hk3,fX⟩;have YC:=aB j9;clear j9)
  | (go_at_call 74;refine (aA JN _ (by assumption)).mono ?_;rintro e w2 ⟨⟨ba,bb,rfl,mE⟩,hk2,iH⟩;have T3:=aB mE;clear mE))
 go_wp2
 go_ret
 rw [bP]
 exact ⟨b,rfl,aA HCL,aY.trans mD.1⟩
theorem u9 {s:ByteArray} {v:Bool} {p:Nat} {a b:LT} {w W:World} {Y:Nat->Prop} {g:Nat} (hL:LR s w Y (.swap p a b) g) (hN:NB (.swap p a b)) (hY:∀ k,Y k->k<w.heap.size) (hk:K0 w W):
  Calls Tryz.prog 72 #[.int .i64 (rR v),.pointer (some ⟨g,0,none⟩)] W fun e V'=>(∃ sb cas ba bb,e = .returned (.slice (some ⟨sb,0,none⟩) 1 cas)/\V'.cell? ⟨sb,0,none⟩=some (.int .i64 (fB v))/\V'.cell? ⟨sb,1,none⟩=some (.pointer (some ⟨ba,0,none⟩))/\V'.cell? ⟨sb,2,none⟩=some (.pointer (some ⟨bb,0,none⟩))/\bR V' Y (aS v (if v then b else a)) ba/\bR V' Y (aS v (if v then a else b)) bb)/\K0 W V':=by
 refine (sF (v:=v) hL hN hY (by simp [parts]) hk).mono ?_
 rintro e V' ⟨⟨sl,ps,rfl,hP⟩,dS⟩
 refine ⟨?_,dS⟩
 have hl:ps.length=1:=by rw [hP.len,nE];rfl
 obtain ⟨sb,cas,rfl,_,_⟩:=hP.own.form (by omega)
 obtain ⟨⟨ba,bb⟩,rfl⟩:=List.length_eq_one_iff.1 hl
 have hc:=hP.cells (i:=0) (p:=(ba,bb)) rfl
 have hm:=hP.at_ 0 (ba,bb) _ rfl (pH _ _ 0 (by simp [parts]))
 refine ⟨sb,cas,ba,bb,rfl,by simpa using hc.1,by simpa using hc.2.1,by simpa using hc.2.2,?_,?_⟩
 ·have:=hm.1
  cases v <;> simpa [cL,gM] using this
 ·have:=hm.2
  cases v <;> simpa [cL] using this
theorem RZ {s:ByteArray} {p:Nat} {a b:LT} (hN:NB (.swap p a b)) (ih:∀ u,u∈parts (.swap p a b)->lL s u):lL s (.swap p a b):=by
 intro w Y g hL hY
 obtain ⟨wE,pv,jv,pat,wr0,vw,df,a0,gs,hb,nX,f9,E6⟩:=gX hL
 obtain ⟨ao,cp,rfl⟩:=aG nX
 obtain ⟨hlen,hat⟩:=nK E6
 have mC:gs.length<=1000:=by have:=hN.v.len;omega
 have c1:w.cell? ⟨g,1,none⟩=some (.slice ao gs.length cp):=by rw [aC hb 1];rfl
 have HE:=aB (jB hY nX hlen (fun i p t h1 h2=>hat i t p h1 h2) ih mC)
 have HB:=aB hb
 have HL:=aB (And.intro hL (And.intro hN (And.intro hY wE)))
 have HLEN:=aB hlen
 clear hL hN hY wE hb nX f9 E6 hat hlen ih mC
 go_enter Tryz.func47,Tryz.ntmps47
 go_wp2_with fail
 refine (aA HE).mono ?_
 rintro e w1 ⟨sl,bs,rfl,zC,aY⟩
 obtain ⟨ao1,cp1,rfl⟩:=aG zC.own
 have c0:w1.cell? ⟨g,0,none⟩=some (.int .i64 2):=by rw [aC ((aY.heap (aD (aA HB))).trans (aA HB)) 0];rfl
 have HC:=aB zC
 clear zC HE c1
 have oN:bs.length=2:=by have:=(aA HC).len;rw [this,List.length_map];rfl
 obtain ⟨vb,cap,fM,_,dB⟩:=(aA HC).own.form (by omega)
 injection fM with hao hn nY
 subst hao nY
 obtain ⟨g0,hg0⟩:∃ g0,bs[0]? = some g0:=⟨_,List.getElem?_eq_getElem (by omega)⟩
 obtain ⟨g1,hg1⟩:∃ g1,bs[1]? = some g1:=⟨_,List.getElem?_eq_getElem (by omega)⟩
 have d0:w1.cell? ⟨vb,0,none⟩=some (.pointer (some ⟨g0,0,none⟩)):=by
  rw [(aA HC).own.cellAt 0 (by omega)]
  simp [bD,hg0]
 have d1:w1.cell? ⟨vb,1,none⟩=some (.pointer (some ⟨g1,0,none⟩)):=by
  rw [(aA HC).own.cellAt 1 (by omega)]
  simp [bD,hg1]
 have hCa:=(aA HC).at_ 0 g0 (bP a) hg0 rfl
 have hCb:=(aA HC).at_ 1 g1 (bP b) hg1 rfl
 have JN:Hid (∀ V:World,(K0 w1 V/\V.cell? ⟨vb,0,none⟩=some (.pointer (some ⟨g0,0,none⟩))/\V.cell? ⟨vb,1,none⟩=some (.pointer (some ⟨g1,0,none⟩)))->Calls Tryz.prog 72 #[.int .i64 0,.pointer (some ⟨g,0,none⟩)] V fun e V'=>(∃ sb cas ba bb,e = .returned (.slice (some ⟨sb,0,none⟩) 1 cas)/\V'.cell? ⟨sb,0,none⟩=some (.int .i64 1)/\V'.cell? ⟨sb,1,none⟩=some (.pointer (some ⟨ba,0,none⟩))/\V'.cell? ⟨sb,2,none⟩=some (.pointer (some ⟨bb,0,none⟩))/\bR V' Y (aS false a) ba/\bR V' Y (aS false b) bb)/\K0 V V'/\(K0 w1 V'/\V'.cell? ⟨vb,0,none⟩=some (.pointer (some ⟨g0,0,none⟩))/\V'.cell? ⟨vb,1,none⟩=some (.pointer (some ⟨g1,0,none⟩)))):=aB (fun V h=>(u9 (v:=false) (aA HL).1 (aA HL).2.1 (aA HL).2.2.1 (aY.trans h.1)).mono (fun e V' h2=>⟨h2.1,h2.2,h.1.trans h2.2,h2.2.cellz h.2.1,h2.2.cellz h.2.2⟩))
 have zN:Hid (∀ V:World,(K0 w1 V/\V.cell? ⟨vb,0,none⟩=some (.pointer (some ⟨g0,0,none⟩))/\V.cell? ⟨vb,1,none⟩=some (.pointer (some ⟨g1,0,none⟩)))->Calls Tryz.prog 72 #[.int .i64 1,.pointer (some ⟨g,0,none⟩)] V fun e V'=>(∃ sb cas ba bb,e = .returned (.slice (some ⟨sb,0,none⟩) 1 cas)/\V'.cell? ⟨sb,0,none⟩=some (.int .i64 2)/\V'.cell? ⟨sb,1,none⟩=some (.pointer (some ⟨ba,0,none⟩))/\V'.cell? ⟨sb,2,none⟩=some (.pointer (some ⟨bb,0,none⟩))/\bR V' Y (aS true b) ba/\bR V' Y (aS true a) bb)/\K0 V V'/\(K0 w1 V'/\V'.cell? ⟨vb,0,none⟩=some (.pointer (some ⟨g0,0,none⟩))/\V'.cell? ⟨vb,1,none⟩=some (.pointer (some ⟨g1,0,none⟩)))):=aB (fun V h=>(u9 (v:=true) (aA HL).1 (aA HL).2.1 (aA HL).2.2.1 (aY.trans h.1)).mono (fun e V' h2=>⟨h2.1,h2.2,h.1.trans h2.2,h2.2.cellz h.2.1,h2.2.cellz h.2.2⟩))
 have HF:Hid (∀ (V:World) (ba bb ca cb:Nat),(K0 w1 V/\V.cell? ⟨vb,0,none⟩=some (.pointer (some ⟨g0,0,none⟩))/\V.cell? ⟨vb,1,none⟩=some (.pointer (some ⟨g1,0,none⟩)))->bR V Y (aS false a) ba->bR V Y (aS false b) bb->bR V Y (aS true b) ca->bR V Y (aS true a) cb->Calls Tryz.prog 71 #[.pointer (some ⟨g0,0,none⟩),.pointer (some ⟨g1,0,none⟩),.agg #[.int .i64 1,.pointer (some ⟨ba,0,none⟩),.pointer (some ⟨bb,0,none⟩)],.agg #[.int .i64 2,.pointer (some ⟨ca,0,none⟩),.pointer (some ⟨cb,0,none⟩)]] V fun e V'=>(∃ b9,e = .returned (.pointer (some ⟨b9,0,none⟩))/\CL Y V' b9 (.two 126 p (bP a) (bP b)))/\(K0 w1 V'/\V'.cell? ⟨vb,0,none⟩=some (.pointer (some ⟨g0,0,none⟩))/\V'.cell? ⟨vb,1,none⟩=some (.pointer (some ⟨g1,0,none⟩)))):=aB (fun V ba bb ca cb h m1 m2 m3 m4=>by
  have hN:=(aA HL).2.1
  have hne:=hN.ne
  have X0:=hN.bz
  rw [bP] at hne X0
  rw [fH] at X0
  have i6:=hN.ok.part (u:=a) (by simp [parts])
  have hnb:=hN.ok.part (u:=b) (by simp [parts])
  refine (MP p (fun k hk=>by have:=(aA HL).2.2.1 k hk;have:=(aY.trans h.1).size;omega) (hCa.ky (h.1.ky Y)) (hCb.ky (h.1.ky Y)) m1 m2 m3 m4 (fun u=>(cV false a i6 u).symm) (fun u=>(cV false b hnb u).symm) (fun u=>(cV true b hnb u).symm) (fun u=>(cV true a i6 u).symm) hne.2.1 hne.2.2 (by omega) (by omega)).mono ?_
  rintro e V' ⟨b9,e1,e2,e3⟩
  exact ⟨⟨b9,e1,e2⟩,h.1.trans e3,e3.cellz h.2.1,e3.cellz h.2.2⟩)
 have fV:K0 w1 w1.drew:=Kp.drew _ _
 clear hCa hCb hg0 hg1
 rw [oN]
 go_wp2_with fail
 refine wp_region_noPanic ?_
 refine wp_region_held_drew (S:=fun V=>(K0 w1 V/\V.cell? ⟨vb,0,none⟩=some (.pointer (some ⟨g0,0,none⟩))/\V.cell? ⟨vb,1,none⟩=some (.pointer (some ⟨g1,0,none⟩)))) (by kernel_rfl) ⟨fV,by simp [*],by simp [*]⟩ (fun hHeld=>?_)
 refine wpAnyH_take (i:=0) (v := .slice (some ⟨vb,0,none⟩) 2 cp1) rfl (by kernel_rfl) (by kernel_rfl) (by kernel_rfl) (fun _ _ _ h=>h) (Or.inl ⟨by rfl,?_⟩) hHeld ?_
 ·intro w hSw
  go_simp
 refine wpAnyH_take (i:=1) (v := .pointer (some ⟨vb,0,none⟩)) rfl (by kernel_rfl) (by kernel_rfl) (by kernel_rfl) (fun _ _ _ h=>h) (Or.inl ⟨by rfl,?_⟩) hHeld ?_
 ·intro w hSw
  go_simp
 refine wpAnyH_take (i:=2) (v := .pointer (some ⟨g0,0,none⟩)) rfl (by kernel_rfl) (by kernel_rfl) (by kernel_rfl) (fun _ _ _ h=>h) (Or.inl ⟨by rfl,?_⟩) hHeld ?_
 ·intro w hSw
  go_simp
 refine wpAnyH_take (i:=3) (v := .slice (some ⟨vb,0,none⟩) 2 cp1) rfl (by kernel_rfl) (by kernel_rfl) (by kernel_rfl) (fun _ _ _ h=>h) (Or.inl ⟨by rfl,?_⟩) hHeld ?_
 ·intro w hSw
  go_simp
 refine wpAnyH_take (i:=4) (v := .pointer (some ⟨vb,1,none⟩)) rfl (by kernel_rfl) (by kernel_rfl) (by kernel_rfl) (fun _ _ _ h=>h) (Or.inl ⟨by rfl,?_⟩) hHeld ?_
 ·intro w hSw
  go_simp
 refine wpAnyH_take (i:=5) (v := .pointer (some ⟨g1,0,none⟩)) rfl (by kernel_rfl) (by kernel_rfl) (by kernel_rfl) (fun _ _ _ h=>h) (Or.inl ⟨by rfl,?_⟩) hHeld ?_
 ·intro w hSw
  go_simp
 refine wpAnyH_take (i:=6) (v := .pointer (some ⟨g,0,none⟩)) rfl (by kernel_rfl) (by kernel_rfl) (by kernel_rfl) (fun _ _ _ h=>h) (Or.inl ⟨by rfl,?_⟩) hHeld ?_
 ·intro w hSw
  go_simp
 refine wpAnyH_take (i:=10) (v := .pointer (some ⟨g,0,none⟩)) rfl (by kernel_rfl) (by kernel_rfl) (by kernel_rfl) (fun _ _ _ h=>h) (Or.inl ⟨by rfl,?_⟩) hHeld ?_
 ·intro w hSw
  go_simp
 refine wpAnyH_ready (rs:=[7]) (by kernel_rfl) (by simp) ?_
 refine AllReadyH.cons rfl (fun K' hK=>?_) AllReadyH.nil
 go_simp
 refine (aA JN _ hHeld).mono ?_
 rintro e w2 ⟨⟨sb,cas,ba,bb,rfl,q0,q1,q2,EM,E0⟩,hk2,iH⟩
 have T3:=aB (And.intro EM E0)
 clear EM E0
 refine hK.out _ _ iH (fun _=>?_)
 clear hK K'
 refine wpAnyH_take (i:=8) (v := .pointer (some ⟨sb,0,none⟩)) rfl (by kernel_rfl) (by kernel_rfl) (by kernel_rfl) (fun _ _ _ h=>h) (Or.inl ⟨by rfl,?_⟩) iH ?_
 ·intro w hSw
  go_simp
 refine wpAnyH_ready (rs:=[9,11]) (by kernel_rfl) (by simp) ?_
 refine AllReadyH.cons rfl (fun K' hK=>?_) (AllReadyH.cons rfl (fun K' hK=>?_) AllReadyH.nil)
 ·go_simp
  refine hK.out _ _ iH (fun _=>?_)
  clear hK K'
  refine wpAnyH_ready (rs:=[11]) (by kernel_rfl) (by simp) ?_
  refine AllReadyH.cons rfl (fun K' hK=>?_) AllReadyH.nil
  go_simp
  refine (aA zN _ iH).mono ?_
  rintro e w3 ⟨⟨ub,cau,ca,cb,rfl,v0,v1,v2,hMc,hMd⟩,hk3,fX⟩
  have YC:=aB (And.intro hMc hMd)
  have r0:=hk3.cellz q0
  have r1:=hk3.cellz q1
  have r2:=hk3.cellz q2
  clear hMc hMd
  refine hK.out _ _ fX (fun _=>?_)
  clear hK K'
  refine wpAnyH_take (i:=12) (v := .pointer (some ⟨ub,0,none⟩)) rfl (by kernel_rfl) (by kernel_rfl) (by kernel_rfl) (fun _ _ _ h=>h) (Or.inl ⟨by rfl,?_⟩) fX ?_
  ·intro w hSw
   go_simp
  refine wpAnyH_ready (rs:=[13]) (by kernel_rfl) (by simp) ?_
  refine AllReadyH.cons rfl (fun K' hK=>?_) AllReadyH.nil
  go_simp
  refine hK.out _ _ fX (fun _=>?_)
  clear hK K'
  refine wpAnyH_ready (rs:=[14]) (by kernel_rfl) (by simp) ?_
  refine AllReadyH.cons rfl (fun K' hK=>?_) AllReadyH.nil
  go_simp
  refine (aA HF _ _ _ _ _ fX ((aA T3).1.ky (hk3.ky Y)) ((aA T3).2.ky (hk3.ky Y)) (aA YC).1 (aA YC).2).mono ?_
  rintro e w4 ⟨⟨b9,rfl,F0⟩,mD⟩
  have HCL:=aB F0
  clear F0
  refine hK.out _ _ mD (fun _=>?_)
  clear hK K'
  refine wpAnyH_take (i:=15) (v := .pointer (some ⟨b9,0,none⟩)) rfl (by kernel_rfl) (by kernel_rfl) (by kernel_rfl) (fun _ _ _ h=>h) (Or.inl ⟨by rfl,?_⟩) mD ?_
  ·intro w hSw
   go_simp
  refine wpAnyH_done (by kernel_rfl) ?_ _
  refine NoPanic.normal ?_
  go_wp2
  go_ret
  rw [bP]
  exact ⟨b9,rfl,aA HCL,aY.trans mD.1⟩
 ·go_simp
  refine (aA zN _ iH).mono ?_
  rintro e w3 ⟨⟨ub,cau,ca,cb,rfl,v0,v1,v2,hMc,hMd⟩,hk3,fX⟩
  have YC:=aB (And.intro hMc hMd)
  have r0:=hk3.cellz q0
  have r1:=hk3.cellz q1
  have r2:=hk3.cellz q2
  clear hMc hMd
  refine hK.out _ _ fX (fun _=>?_)
  clear hK K'
  refine wpAnyH_take (i:=12) (v := .pointer (some ⟨ub,0,none⟩)) rfl (by kernel_rfl) (by kernel_rfl) (by kernel_rfl) (fun _ _ _ h=>h) (Or.inl ⟨by rfl,?_⟩) fX ?_
  ·intro w hSw
   go_simp
  refine wpAnyH_ready (rs:=[9,13]) (by kernel_rfl) (by simp) ?_
  refine AllReadyH.cons rfl (fun K' hK=>?_) (AllReadyH.cons rfl (fun K' hK=>?_) AllReadyH.nil)
  ·go_simp
   refine hK.out _ _ fX (fun _=>?_)
   clear hK K'
   refine wpAnyH_ready (rs:=[13]) (by kernel_rfl) (by simp) ?_
   refine AllReadyH.cons rfl (fun K' hK=>?_) AllReadyH.nil
   go_simp
   refine hK.out _ _ fX (fun _=>?_)
   clear hK K'
   refine wpAnyH_ready (rs:=[14]) (by kernel_rfl) (by simp) ?_
   refine AllReadyH.cons rfl (fun K' hK=>?_) AllReadyH.nil
   go_simp
   refine (aA HF _ _ _ _ _ fX ((aA T3).1.ky (hk3.ky Y)) ((aA T3).2.ky (hk3.ky Y)) (aA YC).1 (aA YC).2).mono ?_
   rintro e w4 ⟨⟨b9,rfl,F0⟩,mD⟩
   have HCL:=aB F0
   clear F0
   refine hK.out _ _ mD (fun _=>?_)
   clear hK K'
   refine wpAnyH_take (i:=15) (v := .pointer (some ⟨b9,0,none⟩)) rfl (by kernel_rfl) (by kernel_rfl) (by kernel_rfl) (fun _ _ _ h=>h) (Or.inl ⟨by rfl,?_⟩) mD ?_
   ·intro w hSw
    go_simp
   refine wpAnyH_done (by kernel_rfl) ?_ _
   refine NoPanic.normal ?_
   go_wp2
   go_ret
   rw [bP]
   exact ⟨b9,rfl,aA HCL,aY.trans mD.1⟩
  ·go_simp
   refine hK.out _ _ fX (fun _=>?_)
   clear hK K'
   refine wpAnyH_ready (rs:=[9]) (by kernel_rfl) (by simp) ?_
   refine AllReadyH.cons rfl (fun K' hK=>?_) AllReadyH.nil
   go_simp
   refine hK.out _ _ fX (fun _=>?_)
   clear hK K'
   refine wpAnyH_ready (rs:=[14]) (by kernel_rfl) (by simp) ?_
   refine AllReadyH.cons rfl (fun K' hK=>?_) AllReadyH.nil
   go_simp
   refine (aA HF _ _ _ _ _ fX ((aA T3).1.ky (hk3.ky Y)) ((aA T3).2.ky (hk3.ky Y)) (aA YC).1 (aA YC).2).mono ?_
   rintro e w4 ⟨⟨b9,rfl,F0⟩,mD⟩
   have HCL:=aB F0
   clear F0
   refine hK.out _ _ mD (fun _=>?_)
   clear hK K'
   refine wpAnyH_take (i:=15) (v := .pointer (some ⟨b9,0,none⟩)) rfl (by kernel_rfl) (by kernel_rfl) (by kernel_rfl) (fun _ _ _ h=>h) (Or.inl ⟨by rfl,?_⟩) mD ?_
   ·intro w hSw
    go_simp
   refine wpAnyH_done (by kernel_rfl) ?_ _
   refine NoPanic.normal ?_
   go_wp2
   go_ret
   rw [bP]
   exact ⟨b9,rfl,aA HCL,aY.trans mD.1⟩
theorem ZQ {t u:LT} (h:NB t) (hu:u∈parts t):NB u:=by
 have h1:=kO t
 have h2:=B9 _ _ hu
 have h3:=h.sz
 have key:pQ (bP u)/\fH (bP u)<=800:=by
  have hne:=h.ne
  have X0:=h.bz
  have gG:=h.ok.self
  cases t with
  | same l i j=>simp [parts] at hu
  | fixed l i j v d a=>simp [parts] at hu
  | swap p a b=>
   rw [bP] at hne X0
   rw [fH] at X0
   simp [parts] at hu
   rcases hu with rfl | rfl
   ·exact ⟨hne.2.1,by omega⟩
   ·exact ⟨hne.2.2,by omega⟩
  | group a=>
   rw [bP] at hne X0
   simp [parts] at hu
   rw [hu]
   exact ⟨hne,X0⟩
  | many p a=>
   rw [bP] at hne X0
   rw [fH] at X0
   simp [parts] at hu
   rw [hu]
   exact ⟨hne.2.2,by omega⟩
  | row l ps=>
   rw [bP] at hne X0
   have hl:ps.length+1=l.length:=gG
   have hc:=(iR 114 (bP u) ps.length l ps hl.symm rfl).2 (.inl ⟨u,hu,kT _⟩)
   exact ⟨tX _ hne _ hc,Nat.le_trans (tW _ _ hc) X0⟩
  | choice l ps=>
   rw [bP] at hne X0
   have hl:ps.length+1=l.length:=gG
   have hc:=(iR 124 (bP u) ps.length l ps hl.symm rfl).2 (.inl ⟨u,hu,kT _⟩)
   exact ⟨tX _ hne _ hc,Nat.le_trans (tW _ _ hc) X0⟩
 exact ⟨h.ok.part hu,by omega,key.1,key.2⟩
theorem KO (s:ByteArray):∀ (n:Nat) (t:LT),iZ t<=n->NB t->lL s t
 | 0,t,h,_=>by have:=kO t;omega
 | n+1,t,h,hN=>by
  have ih:∀ u,u∈parts t->lL s u:=fun u hu=>KO s n u (by have h1:=kO t;have h2:=B9 _ _ hu;omega) (ZQ hN hu)
  cases t with
  | same l i j=>exact SA hN ih
  | fixed l i j v d a=>exact NF hN ih
  | swap p a b=>exact RZ hN ih
  | group a=>exact NE hN ih
  | many p a=>exact SB hN ih
  | row l ps=>exact ZO hN ih
  | choice l ps=>exact FX hN ih
end Go.Proofs.YtlljggefbngkeaaGreatDoor
