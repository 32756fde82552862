import Derived.Test.YtlljggefbngkeaaGreatDoorU25
import Derived.Test.YtlljggefbngkeaaGreatDoorU36
import Derived.Test.YtlljggefbngkeaaGreatDoorU40
import Derived.Test.YtlljggefbngkeaaGreatDoorU16
set_option maxRecDepth 100000
set_option maxHeartbeats 1600000
namespace Go.Proofs.YtlljggefbngkeaaGreatDoor
open Go.RowKit Go.Shelf
def bR (w:World) (Y:Nat->Prop) (t:PT) (b:Nat):Prop:=aX t/\aP t<=1000/\MH w Y b (bK t).1 (bK t).2 0
def KY (Y:Nat->Prop) (w w':World):Prop:=Kp (fun k=>¬ Y k) w w'
theorem K0.ky {w w':World} (h:K0 w w') (Y:Nat->Prop):KY Y w w':=h.kp _
theorem KY.trans {Y:Nat->Prop} {a b c:World} (h:KY Y a b) (k:KY Y b c):KY Y a c:=Kp.trans h k
theorem KY.refl (Y:Nat->Prop) (w:World):KY Y w w:=Kp.refl _ _
theorem KY.heap {Y:Nat->Prop} {w w':World} (h:KY Y w w') {k:Nat} {x:Obj} (hk:w.heap[k]? = some x) (hy:¬ Y k):w'.heap[k]? = some x:=Kp.at h hk hy
theorem KY.reY {Y Z:Nat->Prop} {w w':World} (h:KY Z w w') (hZ:∀ k,k<w.heap.size->Z k->Y k):KY Y w w':=Kp.mono h (fun k hk hn hz=>hn (hZ k hk hz))
theorem bR.at_ {w:World} {Y:Nat->Prop} {t:PT} {b:Nat} (h:bR w Y t b):bF w t b:=⟨h.1,h.2.1,h.2.2.reY (fun k hk hz=>by omega)⟩
theorem bR.ky {w w':World} {Y:Nat->Prop} {t:PT} {b:Nat} (h:bR w Y t b) (hk:KY Y w w'):bR w' Y t b:=⟨h.1,h.2.1,h.2.2.kept (fun k h1 h2=>hk.block k h1 h2)⟩
theorem bR.reY {w:World} {Y Z:Nat->Prop} {t:PT} {b:Nat} (h:bR w Y t b) (hZ:∀ k,k<w.heap.size->Z k->Y k):bR w Z t b:=⟨h.1,h.2.1,h.2.2.reY hZ⟩
theorem xB {w:World} {Y:Nat->Prop} {t:PT} {p:Nat} (hT:TR w Y t p) (gG:aX t) (hsz:aP t<=1000):
  Calls Tryz.prog 98 #[.pointer (some ⟨p,0,none⟩)] w fun e w'=>∃ b,e = .returned (.pointer (some ⟨b,0,none⟩))/\(∀ w'',(∀ k,w.heap.size<=k->k<w'.heap.size->w''.heap[k]? = w'.heap[k]?)->w'.heap.size<=w''.heap.size->bR w'' (fun k=>k<w.heap.size) t b)/\K0 w w':=by
 refine (SM hT gG hsz).mono ?_
 rintro e w' ⟨b,rfl,hM,hg⟩
 refine ⟨b,rfl,fun w'' hk hs=>⟨gG,hsz,?_⟩,K0.of_grownz hg⟩
 have h1:MH w'' (fun k=>k<w.heap.size\/w'.heap.size<=k) b (bK t).1 (bK t).2 0:=(hM.reY (Z:=fun k=>k<w.heap.size\/w'.heap.size<=k) (fun k dS hz=>hz.resolve_right (by omega))).kept (fun k dS hn=>hk k (by omega) dS)
 exact h1.reY (fun k _ hz => .inl hz)
def fB (v:Bool):Int:=if v then 2 else 1
theorem sG (v:Bool) (w:World):Calls Tryz.prog 96 #[.int .i64 (rR v)] w fun e w'=>e = .returned (.int .i64 (fB v))/\w'=w:=by
 cases v
 ·have e1:rR false=0:=rfl
  rw [e1]
  go_enter Tryz.func96,Tryz.ntmps96
  go_wp2
  go_ret
  exact ⟨rfl,rfl⟩
 ·have e1:rR true=1:=rfl
  rw [e1]
  go_enter Tryz.func96,Tryz.ntmps96
  go_wp2
  go_ret
  exact ⟨rfl,rfl⟩
theorem T7 {s:ByteArray} {v:Bool} {t:LT} {w:World} {Y:Nat->Prop} {g:Nat} (hL:LR s w Y t g) (hO:J3 t) (hY:∀ k,Y k->k<w.heap.size) (hN:jZ t) (hz:iZ t<=400):
  Calls Tryz.prog 69 #[.int .i64 (rR v),.pointer (some ⟨g,0,none⟩)] w fun e w'=>(∃ b,e = .returned (.agg #[.int .i64 (fB v),.pointer (some ⟨b,0,none⟩)])/\bR w' (fun k=>k<w.heap.size) (aS v t) b)/\K0 w w':=by
 have eE:∀ o,K0 w (w.alloc o):=fun o=>Kp.alloc _ _ _
 have HT:=aB (fun (W:World) (hk:K0 w W)=>lP (v:=v) t W Y g (LR.kept (fun k dS _=>hk.heap dS) hL) hO (fun k h=>Nat.lt_of_lt_of_le (hY k h) hk.size))
 have gG:=iQ v t hN
 have hss:=fE v t
 have HM:=aB (fun (W:World) (p:Nat) (hT:TR W Y (aS v t) p)=>xB hT gG (by omega))
 clear hL hO hY hN
 go_enter Tryz.func69,Tryz.ntmps69
 go_wp2_with fail
 refine (sG v _).mono ?_
 rintro e w' ⟨rfl,rfl⟩
 go_wp2_with fail
 have hb0:=heap_alloc_new w (.cells #[.int .i64 0,.pointer none] 122)
 have aY:=eE (.cells #[.int .i64 0,.pointer none] 122)
 refine (aA HT _ aY).mono ?_
 rintro e w1 ⟨p,rfl,hg1,vR⟩
 have hk2:=K0.of_grownz hg1
 have hb1:=(hk2.heap (aD hb0)).trans hb0
 go_wp2_with fail
 refine (aA HM _ p vR).mono ?_
 rintro e w2 ⟨b,rfl,EM,hk3⟩
 have hb2:=(hk3.heap (aD hb1)).trans hb1
 have c0:=aC hb2 0
 have c1:=aC hb2 1
 have f0:=aM hb2 0
 have f1:=aM hb2 1
 simp at c0 c1
 have LA:=(aY.trans hk2).trans hk3
 have HMa:=aB EM
 clear EM vR
 go_wp2
 have g0:=aK hb2 0 (.int .i64 (fB v))
 have g1:=aK g0 1 (.pointer (some ⟨b,0,none⟩))
 simp at g1
 have e0:=aC g1 0
 have e1:=aC g1 1
 simp at e0 e1
 have far:∀ k,k≠w.heap.size->((w2.setCell ⟨w.heap.size,0,none⟩ (.int .i64 (fB v))).setCell ⟨w.heap.size,1,none⟩ (.pointer (some ⟨b,0,none⟩))).heap[k]? = w2.heap[k]? := fun k h=>(Below.heap_setCell _ _ _ _ h).trans (Below.heap_setCell _ _ _ _ h)
 have TI:((w2.setCell ⟨w.heap.size,0,none⟩ (.int .i64 (fB v))).setCell ⟨w.heap.size,1,none⟩ (.pointer (some ⟨b,0,none⟩))).heap.size=w2.heap.size:=by simp [World.setCell]
 have hs1:=hk2.size
 simp at hs1
 refine bodyPost_ret (v := .agg #[.int .i64 (fB v),.pointer (some ⟨b,0,none⟩)]) ?_ rfl ?_
 ·simp [results,Tryz.f69,go_sem,e0,e1]
 ·exact ⟨⟨b,rfl,(aA HMa _ (fun k h1 h2=>far k (by omega)) (by omega)).reY (fun k _ hz=>by omega)⟩,K0.set (K0.set LA (Nat.le_refl _) 0 _) (Nat.le_refl _) 1 _⟩
theorem qV {v:Bool} {A B:PT} {w:World} {Y:Nat->Prop} {pa pb:Nat} (hA:TR w Y A pa) (hB:TR w Y B pb) (oka:aX A) (okb:aX B) (PJ:aP A<=1000) (pK:aP B<=1000):
  Calls Tryz.prog 107 #[.int .i64 (rR v),.pointer (some ⟨pa,0,none⟩),.pointer (some ⟨pb,0,none⟩)] w fun e w'=>(∃ ba bb,e = .returned (.agg #[.int .i64 (fB v),.pointer (some ⟨ba,0,none⟩),.pointer (some ⟨bb,0,none⟩)])/\bR w' (fun k=>k<w.heap.size) A ba/\bR w' (fun k=>k<w.heap.size) B bb)/\K0 w w':=by
 have HA:=aB (fun (W:World) (hk:K0 w W)=>xB (TR.kept (w':=W) (fun k dS _=>hk.heap dS) hA) oka PJ)
 have HB:=aB (fun (W:World) (hk:K0 w W)=>xB (TR.kept (w':=W) (fun k dS _=>hk.heap dS) hB) okb pK)
 clear hA hB
 go_enter Tryz.func107,Tryz.ntmps107
 go_wp2_with fail
 refine (sG v _).mono ?_
 rintro e w' ⟨rfl,rfl⟩
 go_wp2_with fail
 have hb0:=heap_alloc_new w (.cells #[.int .i64 0,.pointer none,.pointer none] 128)
 have aY:K0 w (w.alloc (.cells #[.int .i64 0,.pointer none,.pointer none] 128)):=Kp.alloc _ _ _
 refine (aA HA _ aY).mono ?_
 rintro e w1 ⟨ba,rfl,EM,hk2⟩
 have hb1:=(hk2.heap (aD hb0)).trans hb0
 have dZ:=aY.trans hk2
 have HMa:=aB EM
 clear EM
 go_wp2_with fail
 refine (aA HB _ dZ).mono ?_
 rintro e w2 ⟨bb,rfl,E0,hk3⟩
 have hb2:=(hk3.heap (aD hb1)).trans hb1
 have c0:=aC hb2 0
 have c1:=aC hb2 1
 have c2:=aC hb2 2
 have f0:=aM hb2 0
 have f1:=aM hb2 1
 have f2:=aM hb2 2
 simp at c0 c1 c2
 have LA:=dZ.trans hk3
 have HMb:=aB E0
 clear E0
 go_wp2
 have g0:=aK hb2 0 (.int .i64 (fB v))
 have g1:=aK g0 1 (.pointer (some ⟨ba,0,none⟩))
 have g2:=aK g1 2 (.pointer (some ⟨bb,0,none⟩))
 simp at g2
 have e0:=aC g2 0
 have e1:=aC g2 1
 have e2:=aC g2 2
 simp at e0 e1 e2
 have far:∀ k,k≠w.heap.size->(((w2.setCell ⟨w.heap.size,0,none⟩ (.int .i64 (fB v))).setCell ⟨w.heap.size,1,none⟩ (.pointer (some ⟨ba,0,none⟩))).setCell ⟨w.heap.size,2,none⟩ (.pointer (some ⟨bb,0,none⟩))).heap[k]? = w2.heap[k]? := fun k h=>(Below.heap_setCell _ _ _ _ h).trans ((Below.heap_setCell _ _ _ _ h).trans (Below.heap_setCell _ _ _ _ h))
 have TI:(((w2.setCell ⟨w.heap.size,0,none⟩ (.int .i64 (fB v))).setCell ⟨w.heap.size,1,none⟩ (.pointer (some ⟨ba,0,none⟩))).setCell ⟨w.heap.size,2,none⟩ (.pointer (some ⟨bb,0,none⟩))).heap.size=w2.heap.size:=by simp [World.setCell]
 have hs1:=hk2.size
 have hs2:=hk3.size
 have hs0:(w.alloc (.cells #[.int .i64 0,.pointer none,.pointer none] 128)).heap.size=w.heap.size+1:=by simp
 refine bodyPost_ret (v := .agg #[.int .i64 (fB v),.pointer (some ⟨ba,0,none⟩),.pointer (some ⟨bb,0,none⟩)]) ?_ rfl ?_
 ·simp [results,Tryz.f107,go_sem,e0,e1,e2]
 ·exact ⟨⟨ba,bb,rfl,(aA HMa _ (fun k h1 h2=>(far k (by omega)).trans (hk3.heap h2)) (by omega)).reY (fun k _ hz=>by omega),(aA HMb _ (fun k h1 h2=>far k (by omega)) (by omega)).reY (fun k _ hz=>by omega)⟩,K0.set (K0.set (K0.set LA (Nat.le_refl _) 0 _) (Nat.le_refl _) 1 _) (Nat.le_refl _) 2 _⟩
def zO (Y:Nat->Prop) (w0:World) (f:Value) (P:List UInt8->Prop) (G:List UInt8->List UInt8) (m:Int):Prop:=
 ∃ (N:Nat) (first caps:Array Value),f = .func (.func N) first caps/\wG N/\∀ (W:World) (u:List UInt8),KY Y w0 W->u.length<=1000->
  Calls Tryz.prog N (first.push (.string (aE u))++caps) W fun e w'=>tC W (P u) (G u) m e w'
def J9 (w:World) (Pv Ps:Prop) (t:List UInt8) (e:Ending) (w':World):Prop:=
 ((Pv/\Ps/\e = .returned (.string (aE t)))\/(¬ Pv/\e = .panicked (kL 2))\/(Pv/\¬ Ps/\e = .panicked (kL 1)))/\K0 w w'
def JR (Y:Nat->Prop) (w0:World) (f:Value) (Pv Ps:List UInt8->Prop) (G:List UInt8->List UInt8->List UInt8):Prop:=
 ∃ (N:Nat) (first caps:Array Value),f = .func (.func N) first caps/\wG N/\∀ (W:World) (v s:List UInt8),KY Y w0 W->v.length<=1000->s.length<=1000->
  Calls Tryz.prog N (first++(#[.string (aE v),.string (aE s)]++caps)) W fun e w'=>J9 W (Pv v) (Ps s) (G v s) e w'
def CL (Y:Nat->Prop) (w:World) (b:Nat) (c:BT):Prop:=
 ∃ f1 f2 f3,w.heap[b]? = some (.cells #[f1,f2,f3] 88 (0,0))/\¬ Y b/\zO Y w f1 (fun u=>M (bS c) u) (dA c) 1/\JR Y w f2 (fun v=>M (bV c) v) (fun s=>M (bS c) s) (cB c)/\zO Y w f3 (fun v=>M (bV c) v) (bA c) 2
theorem zO.ky {Y:Nat->Prop} {w w':World} {f:Value} {P:List UInt8->Prop} {G:List UInt8->List UInt8} {m:Int} (h:zO Y w f P G m) (hk:KY Y w w'):zO Y w' f P G m:=by
 obtain ⟨N,first,caps,e,he,hc⟩:=h
 exact ⟨N,first,caps,e,he,fun W u hW hu=>hc W u (hk.trans hW) hu⟩
theorem JR.ky {Y:Nat->Prop} {w w':World} {f:Value} {Pv Ps:List UInt8->Prop} {G:List UInt8->List UInt8->List UInt8} (h:JR Y w f Pv Ps G) (hk:KY Y w w'):JR Y w' f Pv Ps G:=by
 obtain ⟨N,first,caps,e,he,hc⟩:=h
 exact ⟨N,first,caps,e,he,fun W v s hW hv hs=>hc W v s (hk.trans hW) hv hs⟩
theorem CL.ky {Y:Nat->Prop} {w w':World} {b:Nat} {c:BT} (h:CL Y w b c) (hk:KY Y w w'):CL Y w' b c:=by
 obtain ⟨f1,f2,f3,hb,hy,h1,h2,h3⟩:=h
 exact ⟨f1,f2,f3,hk.heap hb hy,hy,h1.ky hk,h2.ky hk,h3.ky hk⟩
theorem zO.reY {Y Z:Nat->Prop} {w:World} {f:Value} {P:List UInt8->Prop} {G:List UInt8->List UInt8} {m:Int} (h:zO Y w f P G m) (hZ:∀ k,k<w.heap.size->Z k->Y k):zO Z w f P G m:=by
 obtain ⟨N,first,caps,e,he,hc⟩:=h
 exact ⟨N,first,caps,e,he,fun W u hW hu=>hc W u (hW.reY hZ) hu⟩
theorem JR.reY {Y Z:Nat->Prop} {w:World} {f:Value} {Pv Ps:List UInt8->Prop} {G:List UInt8->List UInt8->List UInt8} (h:JR Y w f Pv Ps G) (hZ:∀ k,k<w.heap.size->Z k->Y k):JR Z w f Pv Ps G:=by
 obtain ⟨N,first,caps,e,he,hc⟩:=h
 exact ⟨N,first,caps,e,he,fun W v s hW hv hs=>hc W v s (hW.reY hZ) hv hs⟩
theorem CL.reY {Y Z:Nat->Prop} {w:World} {b:Nat} {c:BT} (h:CL Y w b c) (hZ:∀ k,k<w.heap.size->Z k->Y k):CL Z w b c:=by
 obtain ⟨f1,f2,f3,hb,hy,h1,h2,h3⟩:=h
 exact ⟨f1,f2,f3,hb,fun hz=>hy (hZ b (aD hb) hz),h1.reY hZ,h2.reY hZ,h3.reY hZ⟩
theorem aAR:wG 94:=enters_of Tryz.func94 (by kernel_rfl) rfl
theorem OP:wG 95:=enters_of Tryz.func95 (by kernel_rfl) rfl
theorem VF {Y:Nat->Prop} {w:World} {t:PT} {b:Nat} {m:Int} {Q:List UInt8->Prop} {G:List UInt8->List UInt8} (h:bR w Y t b) (hQ:∀ u,M t u↔Q u) (hG:∀ u,G u=u):zO Y w (.func (.func 94) #[.agg #[.int .i64 m,.pointer (some ⟨b,0,none⟩)]] #[]) Q G m:=by
 refine ⟨_,_,_,rfl,aAR,fun W u hW hu=>?_⟩
 have e : #[Value.agg #[.int .i64 m,.pointer (some ⟨b,0,none⟩)]].push (.string (aE u)) ++ #[] = #[.agg #[.int .i64 m,.pointer (some ⟨b,0,none⟩)],.string (aE u)]:=by simp
 rw [e,hG u]
 refine (nG (m:=m) (h.ky hW).at_ hu).mono ?_
 rintro e w' ⟨h1,hk⟩
 rw [hQ u] at h1
 exact ⟨h1,hk⟩
theorem FE {W:World} {t t':PT} {b1 b2 Bs Bv:Nat} {v s:List UInt8} (hs:W.heap[Bs]? = some (.cells #[.int .i64 1,.pointer (some ⟨b1,0,none⟩)] 122 (0,0))) (hv:W.heap[Bv]? = some (.cells #[.int .i64 2,.pointer (some ⟨b2,0,none⟩)] 122 (0,0))) (h1:bF W t b1) (h2:bF W t' b2) (dB:v.length<=1000) (fU:s.length<=1000):
  Calls Tryz.prog 95 #[.string (aE v),.string (aE s),.pointer (some ⟨Bv,0,none⟩),.pointer (some ⟨Bs,0,none⟩)] W fun e w'=>J9 W (M t' v) (M t s) v e w':=by
 have c0:=aC hv 0
 have c1:=aC hv 1
 simp at c0 c1
 have HV:=aB (nG (m:=2) (u:=v) h2 dB)
 have HS:=aB (fun (A:World) (hk:K0 W A)=>nG (m:=1) (u:=s) (h1.k0 hk) fU)
 have HB:=aB hs
 clear hs hv h1 h2
 go_enter Tryz.func95,Tryz.ntmps95
 go_wp2_with fail
 refine (aA HV).mono ?_
 rintro e w1 ⟨(⟨hv,rfl⟩ | ⟨hv,rfl⟩),aY⟩
 ·have hb1:=(aY.heap (aD (aA HB))).trans (aA HB)
  have d0:=aC hb1 0
  have d1:=aC hb1 1
  simp at d0 d1
  have Hv:=aB hv
  clear hv
  go_wp2_with fail
  refine (aA HS _ aY).mono ?_
  rintro e w2 ⟨(⟨hs,rfl⟩ | ⟨hs,rfl⟩),hk2⟩
  ·have Hs:=aB hs
   clear hs
   go_wp2
   go_ret
   exact ⟨.inl ⟨aA Hv,aA Hs,rfl⟩,aY.trans hk2⟩
  ·have Hs:=aB hs
   clear hs
   exact ⟨rfl,.inr (.inr ⟨aA Hv,aA Hs,rfl⟩),aY.trans hk2⟩
 ·exact ⟨rfl,.inr (.inl ⟨hv,rfl⟩),aY⟩
def lT (Y:Nat->Prop) (w:World) (c:BT) (e:Ending) (w':World):Prop:=∃ b,e = .returned (.pointer (some ⟨b,0,none⟩))/\CL Y w' b c/\K0 w w'
theorem MU {Y:Nat->Prop} {w:World} {t t1 t2:PT} {b1 b2:Nat} (hY:∀ k,Y k->k<w.heap.size) (h1:bR w Y t1 b1) (h2:bR w Y t2 b2) (e1:∀ u,M t1 u↔M t u) (e2:∀ u,M t2 u↔M t u):
  Calls Tryz.prog 68 #[.agg #[.int .i64 1,.pointer (some ⟨b1,0,none⟩)],.agg #[.int .i64 2,.pointer (some ⟨b2,0,none⟩)]] w fun e w'=>lT Y w (.pat t) e w':=by
 have XE:∀ (fn:Fn) (first cap:Array Value) (w:World),(Instr.makeFunc fn first cap).run Tryz.prog w = .ok (.func fn first cap) w:=fun _ _ _ _=>rfl
 have HH:=aB (And.intro h1 (And.intro h2 (And.intro e1 (And.intro e2 hY))))
 clear h1 h2 e1 e2 hY
 go_enter Tryz.func68,Tryz.ntmps68
 go_wp2
 go_ret
 obtain ⟨h1,h2,e1,e2,hY⟩:=aA HH
 obtain ⟨w3,hw3,hs3,p0,p1,p2,hg⟩:=ET w (.cells #[.int .i64 1,.pointer (some ⟨b1,0,none⟩)] 122) (.cells #[.int .i64 2,.pointer (some ⟨b2,0,none⟩)] 122) (.cells #[.func (.func 94) #[.agg #[.int .i64 1,.pointer (some ⟨b1,0,none⟩)]] #[],.func (.func 95) #[] #[.pointer (some ⟨w.heap.size+1,0,none⟩),.pointer (some ⟨w.heap.size,0,none⟩)],.func (.func 94) #[.agg #[.int .i64 2,.pointer (some ⟨b2,0,none⟩)]] #[]] 88)
 have hk:=K0.of_grownz hg
 refine ⟨w.heap.size+2,rfl,?_,?_⟩
 ·rw [hw3]
  refine ⟨_,_,_,p2,fun hy=>by have:=hY _ hy;omega,VF (h1.ky (hk.ky Y)) e1 (fun u=>by rw [dA]),?_,VF (h2.ky (hk.ky Y)) e2 (fun u=>by rw [bA])⟩
  refine ⟨_,_,_,rfl,OP,fun W v s hW hv hs=>?_⟩
  have e:(#[]:Array Value)++(#[.string (aE v),.string (aE s)] ++ #[.pointer (some ⟨w.heap.size+1,0,none⟩),.pointer (some ⟨w.heap.size,0,none⟩)]) = #[.string (aE v),.string (aE s),.pointer (some ⟨w.heap.size+1,0,none⟩),.pointer (some ⟨w.heap.size,0,none⟩)]:=by simp
  rw [e]
  refine (FE (hW.heap p0 (fun hy=>by have:=hY _ hy;omega)) (hW.heap p1 (fun hy=>by have:=hY _ hy;omega)) ((h1.ky (hk.ky Y)).ky hW).at_ ((h2.ky (hk.ky Y)).ky hW).at_ hv hs).mono ?_
  rintro e w' ⟨hh,dS⟩
  rw [e1 s,e2 v] at hh
  rw [cB]
  exact ⟨hh,dS⟩
 ·rw [hw3]
  exact hk
def JZ (m:Int) (b:Nat):Obj := .cells #[.int .i64 m,.pointer (some ⟨b,0,none⟩)] 122 (0,0)
theorem DR {W:World} {t:PT} {b1 Bs Bl g:Nat} {pv jv pat:Value} {wr:ByteArray} {v d s:List UInt8} {a:Nat} (hs:W.heap[Bs]? = some (JZ 1 b1)) (hl:W.heap[Bl]? = some (.cells #[.pointer (some ⟨g,0,none⟩)] 54 (0,0))) (hg:W.heap[g]? = some (rG 1 pv jv pat wr (aE v) (aE d) a)) (h1:bF W t b1) (fU:s.length<=1000):
  Calls Tryz.prog 99 #[.string (aE s),.pointer (some ⟨Bs,0,none⟩),.pointer (some ⟨Bl,0,none⟩)] W fun e w'=>tC W (M t s) v 1 e w':=by
 have c0:=aC hs 0
 have c1:=aC hs 1
 simp at c0 c1
 have HS:=aB (nG (m:=1) (u:=s) h1 fU)
 have HB:=aB (And.intro hl hg)
 clear hs hl hg h1
 go_enter Tryz.func99,Tryz.ntmps99
 go_wp2_with fail
 refine (aA HS).mono ?_
 rintro e w1 ⟨(⟨hm,rfl⟩ | ⟨hm,rfl⟩),aY⟩
 ·obtain ⟨hl,hg⟩:=aA HB
  have d0:=aC ((aY.heap (aD hl)).trans hl) 0
  have d5:=aC ((aY.heap (aD hg)).trans hg) 5
  simp at d0 d5
  have Hm:=aB hm
  clear hm hl hg
  go_wp2
  go_ret
  exact ⟨.inl ⟨aA Hm,rfl⟩,aY⟩
 ·exact ⟨rfl,.inr ⟨hm,rfl⟩,aY⟩
theorem DP {W:World} {t:PT} {b2 Bv Bl g:Nat} {pv jv pat:Value} {wr:ByteArray} {v d s:List UInt8} {a:Nat} (hs:W.heap[Bv]? = some (JZ 2 b2)) (hl:W.heap[Bl]? = some (.cells #[.pointer (some ⟨g,0,none⟩)] 54 (0,0))) (hg:W.heap[g]? = some (rG 1 pv jv pat wr (aE v) (aE d) a)) (h1:bF W t b2) (fU:s.length<=1000):
  Calls Tryz.prog 101 #[.string (aE s),.pointer (some ⟨Bv,0,none⟩),.pointer (some ⟨Bl,0,none⟩)] W fun e w'=>tC W (M t s) d 2 e w':=by
 have c0:=aC hs 0
 have c1:=aC hs 1
 simp at c0 c1
 have HS:=aB (nG (m:=2) (u:=s) h1 fU)
 have HB:=aB (And.intro hl hg)
 clear hs hl hg h1
 go_enter Tryz.func101,Tryz.ntmps101
 go_wp2_with fail
 refine (aA HS).mono ?_
 rintro e w1 ⟨(⟨hm,rfl⟩ | ⟨hm,rfl⟩),aY⟩
 ·obtain ⟨hl,hg⟩:=aA HB
  have d0:=aC ((aY.heap (aD hl)).trans hl) 0
  have d6:=aC ((aY.heap (aD hg)).trans hg) 6
  simp at d0 d6
  have Hm:=aB hm
  clear hm hl hg
  go_wp2
  go_ret
  exact ⟨.inl ⟨aA Hm,rfl⟩,aY⟩
 ·exact ⟨rfl,.inr ⟨hm,rfl⟩,aY⟩
theorem DQ {W:World} {t t':PT} {b1 b2 Bs Bv:Nat} {v s:List UInt8} (hs:W.heap[Bs]? = some (JZ 1 b1)) (hv:W.heap[Bv]? = some (JZ 2 b2)) (h1:bF W t b1) (h2:bF W t' b2) (dB:v.length<=1000) (fU:s.length<=1000):
  Calls Tryz.prog 100 #[.string (aE v),.string (aE s),.pointer (some ⟨Bv,0,none⟩),.pointer (some ⟨Bs,0,none⟩)] W fun e w'=>J9 W (M t' v) (M t s) s e w':=by
 have c0:=aC hv 0
 have c1:=aC hv 1
 simp at c0 c1
 have HV:=aB (nG (m:=2) (u:=v) h2 dB)
 have HS:=aB (fun (A:World) (hk:K0 W A)=>nG (m:=1) (u:=s) (h1.k0 hk) fU)
 have HB:=aB hs
 clear hs hv h1 h2
 go_enter Tryz.func100,Tryz.ntmps100
 go_wp2_with fail
 refine (aA HV).mono ?_
 rintro e w1 ⟨(⟨hv,rfl⟩ | ⟨hv,rfl⟩),aY⟩
 ·have hb1:=(aY.heap (aD (aA HB))).trans (aA HB)
  have d0:=aC hb1 0
  have d1:=aC hb1 1
  simp at d0 d1
  have Hv:=aB hv
  clear hv
  go_wp2_with fail
  refine (aA HS _ aY).mono ?_
  rintro e w2 ⟨(⟨hs,rfl⟩ | ⟨hs,rfl⟩),hk2⟩
  ·have Hs:=aB hs
   clear hs
   go_wp2
   go_ret
   exact ⟨.inl ⟨aA Hv,aA Hs,rfl⟩,aY.trans hk2⟩
  ·have Hs:=aB hs
   clear hs
   exact ⟨rfl,.inr (.inr ⟨aA Hv,aA Hs,rfl⟩),aY.trans hk2⟩
 ·exact ⟨rfl,.inr (.inl ⟨hv,rfl⟩),aY⟩
theorem IR:wG 99:=enters_of Tryz.func99 (by kernel_rfl) rfl
theorem IQ:wG 100:=enters_of Tryz.func100 (by kernel_rfl) rfl
theorem IP:wG 101:=enters_of Tryz.func101 (by kernel_rfl) rfl
theorem IM {Y:Nat->Prop} {w:World} {t t1 t2:PT} {b1 b2 g:Nat} {pv jv pat:Value} {wr:ByteArray} {v d:List UInt8} {a:Nat} (hY:∀ k,Y k->k<w.heap.size) (hgy:¬ Y g) (hg:w.heap[g]? = some (rG 1 pv jv pat wr (aE v) (aE d) a)) (h1:bR w Y t1 b1) (h2:bR w Y t2 b2) (e1:∀ u,M t1 u↔M (bS (.key t v d)) u) (e2:∀ u,M t2 u↔M (bV (.key t v d)) u):
  Calls Tryz.prog 70 #[.pointer (some ⟨g,0,none⟩),.agg #[.int .i64 1,.pointer (some ⟨b1,0,none⟩)],.agg #[.int .i64 2,.pointer (some ⟨b2,0,none⟩)]] w fun e w'=>lT Y w (.key t v d) e w':=by
 have XE:∀ (fn:Fn) (first cap:Array Value) (w:World),(Instr.makeFunc fn first cap).run Tryz.prog w = .ok (.func fn first cap) w:=fun _ _ _ _=>rfl
 have HH:=aB (And.intro hg (And.intro h1 (And.intro h2 (And.intro e1 (And.intro e2 (And.intro hY hgy))))))
 clear hg h1 h2 e1 e2 hY hgy
 go_enter Tryz.func70,Tryz.ntmps70
 go_wp2
 go_ret
 obtain ⟨hg,h1,h2,e1,e2,hY,hgy⟩:=aA HH
 obtain ⟨w3,hw3,hs3,p0,p1,p2,p3,hg3⟩:=oQ w (.cells #[.pointer (some ⟨g,0,none⟩)] 54) (.cells #[.int .i64 1,.pointer (some ⟨b1,0,none⟩)] 122) (.cells #[.int .i64 2,.pointer (some ⟨b2,0,none⟩)] 122) (.cells #[.func (.func 99) #[] #[.pointer (some ⟨w.heap.size+1,0,none⟩),.pointer (some ⟨w.heap.size,0,none⟩)],.func (.func 100) #[] #[.pointer (some ⟨w.heap.size+2,0,none⟩),.pointer (some ⟨w.heap.size+1,0,none⟩)],.func (.func 101) #[] #[.pointer (some ⟨w.heap.size+2,0,none⟩),.pointer (some ⟨w.heap.size,0,none⟩)]] 88)
 have hk:=K0.of_grownz hg3
 have ny:∀ k,w.heap.size<=k->¬ Y k:=fun k h hy=>by have:=hY _ hy;omega
 refine ⟨w.heap.size+3,rfl,?_,?_⟩
 ·rw [hw3]
  refine ⟨_,_,_,p3,ny _ (by omega),?_,?_,?_⟩
  ·refine ⟨_,_,_,rfl,IR,fun W u hW hu=>?_⟩
   have e:(#[]:Array Value).push (.string (aE u)) ++ #[.pointer (some ⟨w.heap.size+1,0,none⟩),.pointer (some ⟨w.heap.size,0,none⟩)] = #[.string (aE u),.pointer (some ⟨w.heap.size+1,0,none⟩),.pointer (some ⟨w.heap.size,0,none⟩)]:=by simp
   rw [e]
   refine (DR (v:=v) (d:=d) (hW.heap p1 (ny _ (by omega))) (hW.heap p0 (ny _ (by omega))) (hW.heap ((hk.heap (aD hg)).trans hg) hgy) ((h1.ky (hk.ky Y)).ky hW).at_ hu).mono ?_
   rintro e w' ⟨hh,dS⟩
   rw [e1 u] at hh
   rw [dA]
   exact ⟨hh,dS⟩
  ·refine ⟨_,_,_,rfl,IQ,fun W v' s hW hv hs=>?_⟩
   have e:(#[]:Array Value)++(#[.string (aE v'),.string (aE s)] ++ #[.pointer (some ⟨w.heap.size+2,0,none⟩),.pointer (some ⟨w.heap.size+1,0,none⟩)]) = #[.string (aE v'),.string (aE s),.pointer (some ⟨w.heap.size+2,0,none⟩),.pointer (some ⟨w.heap.size+1,0,none⟩)]:=by simp
   rw [e]
   refine (DQ (hW.heap p1 (ny _ (by omega))) (hW.heap p2 (ny _ (by omega))) ((h1.ky (hk.ky Y)).ky hW).at_ ((h2.ky (hk.ky Y)).ky hW).at_ hv hs).mono ?_
   rintro e w' ⟨hh,dS⟩
   rw [e1 s,e2 v'] at hh
   rw [cB]
   exact ⟨hh,dS⟩
  ·refine ⟨_,_,_,rfl,IP,fun W u hW hu=>?_⟩
   have e:(#[]:Array Value).push (.string (aE u)) ++ #[.pointer (some ⟨w.heap.size+2,0,none⟩),.pointer (some ⟨w.heap.size,0,none⟩)] = #[.string (aE u),.pointer (some ⟨w.heap.size+2,0,none⟩),.pointer (some ⟨w.heap.size,0,none⟩)]:=by simp
   rw [e]
   refine (DP (v:=v) (d:=d) (hW.heap p2 (ny _ (by omega))) (hW.heap p0 (ny _ (by omega))) (hW.heap ((hk.heap (aD hg)).trans hg) hgy) ((h2.ky (hk.ky Y)).ky hW).at_ hu).mono ?_
   rintro e w' ⟨hh,dS⟩
   rw [e2 u] at hh
   rw [bA]
   exact ⟨hh,dS⟩
 ·rw [hw3]
  exact hk
end Go.Proofs.YtlljggefbngkeaaGreatDoor
