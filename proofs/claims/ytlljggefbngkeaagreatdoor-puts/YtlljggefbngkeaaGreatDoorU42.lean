import Derived.Test.YtlljggefbngkeaaGreatDoorU41
import Derived.Test.YtlljggefbngkeaaGreatDoorU37
import Derived.Test.YtlljggefbngkeaaGreatDoorU17
set_option maxRecDepth 100000
set_option maxHeartbeats 3200000
namespace Go.Proofs.YtlljggefbngkeaaGreatDoor
open Go.RowKit Go.Shelf
def lG (m:Int) (ba bb:Nat):Obj := .cells #[.int .i64 m,.pointer (some ⟨ba,0,none⟩),.pointer (some ⟨bb,0,none⟩)] 128 (0,0)
def gQ (g:Nat):Obj := .cells #[.pointer (some ⟨g,0,none⟩)] 57 (0,0)
def gB (f1 f2 f3:Value):Obj := .cells #[f1,f2,f3] 88 (0,0)
theorem FU {Y:Nat->Prop} {W:World} {A B:PT} {P1 P2:List UInt8->Prop} {G1 G2:List UInt8->List UInt8} {m:Int} {ba bb Bp B1 B2 g1 g2:Nat} {F1 F2 F3 E1 E2 E3:Value} {s:List UInt8}
  (hs:W.heap[Bp]? = some (lG m ba bb)) (hl:W.heap[B1]? = some (gQ g1)) (hk:W.heap[B2]? = some (gQ g2)) (hA:bF W A ba) (hB:bF W B bb) (hbl:W.heap[g1]? = some (gB F1 F2 F3)) (gS:W.heap[g2]? = some (gB E1 E2 E3))
  (UA:zO Y W F1 P1 G1 m) (hf2:zO Y W E1 P2 G2 m) (e1:∀ u,M A u->P1 u) (e2:∀ u,M B u->P2 u) (fU:s.length<=1000) (b1:∀ u,P1 u->u.length<=1000->(G1 u).length<=1000000000) (b2:∀ u,P2 u->u.length<=1000->(G2 u).length<=1000000000):
  Calls Tryz.prog 146 #[.string (aE s),.pointer (some ⟨Bp,0,none⟩),.pointer (some ⟨B1,0,none⟩),.pointer (some ⟨B2,0,none⟩)] W fun e w'=>tC W (kE A B s) (G1 (s.take (aH A B s))++G2 (s.drop (aH A B s))) m e w':=by
 have c0:=aC hs 0
 have c1:=aC hs 1
 have c2:=aC hs 2
 simp at c0 c1 c2
 have HS:=aB (gD (m:=m) (u:=s) hA hB fU)
 obtain ⟨N1,x1,y1,rfl,n1,s1⟩:=UA
 obtain ⟨N2,x2,y2,rfl,n2,s2⟩:=hf2
 have HB:=aB (And.intro hl (And.intro hk (And.intro hbl gS)))
 have H1:Hid (∀ V:World,K0 W V->M A (s.take (aH A B s))->Calls Tryz.prog N1 (x1.push (.string (aE (s.take (aH A B s))))++y1) V fun e V'=>e = .returned (.string (aE (G1 (s.take (aH A B s)))))/\K0 V V'):=aB (fun V hV hM=>(s1 V (s.take (aH A B s)) (hV.ky Y) (by first | (rw [List.length_take];omega) | (rw [List.length_drop];omega))).mono (fun e V' h=>by
  obtain ⟨(⟨_,h1⟩ | ⟨h1,_⟩),h2⟩:=h
  ·exact ⟨h1,h2⟩
  ·exact absurd (e1 _ hM) h1))
 have H2:Hid (∀ V:World,K0 W V->M B (s.drop (aH A B s))->Calls Tryz.prog N2 (x2.push (.string (aE (s.drop (aH A B s))))++y2) V fun e V'=>e = .returned (.string (aE (G2 (s.drop (aH A B s)))))/\K0 V V'):=aB (fun V hV hM=>(s2 V (s.drop (aH A B s)) (hV.ky Y) (by first | (rw [List.length_take];omega) | (rw [List.length_drop];omega))).mono (fun e V' h=>by
  obtain ⟨(⟨_,h1⟩ | ⟨h1,_⟩),h2⟩:=h
  ·exact ⟨h1,h2⟩
  ·exact absurd (e2 _ hM) h1))
 have HZ:=aB (And.intro e1 (And.intro e2 (And.intro b1 b2)))
 clear hs hl hk hA hB hbl gS s1 s2 e1 e2 b1 b2
 unfold wG at n1 n2
 go_enter Tryz.func146,Tryz.ntmps146
 go_wp2_with fail
 refine (aA HS).mono ?_
 rintro e w1 ⟨(⟨hm,rfl⟩ | ⟨hm,rfl⟩),aY⟩
 ·obtain ⟨hl,hk,hbl,gS⟩:=aA HB
  obtain ⟨_,dU,D4,hcB,_⟩:=bQ hm
  have d0:=aC ((aY.heap (aD hl)).trans hl) 0
  have d1:=aC ((aY.heap (aD hk)).trans hk) 0
  have d2:=aC ((aY.heap (aD hbl)).trans hbl) 0
  have d3:=aC ((aY.heap (aD gS)).trans gS) 0
  simp at d0 d1 d2 d3
  have z1:(G1 (s.take (aH A B s))).length<=1000000000:=(aA HZ).2.2.1 _ ((aA HZ).1 _ D4) (by first | (rw [List.length_take];omega) | (rw [List.length_drop];omega))
  have z2:(G2 (s.drop (aH A B s))).length<=1000000000:=(aA HZ).2.2.2 _ ((aA HZ).2.1 _ hcB) (by first | (rw [List.length_take];omega) | (rw [List.length_drop];omega))
  have gA:∀ V V':World,(K0 W V/\V.cell? ⟨B1,0,none⟩=some (.pointer (some ⟨g1,0,none⟩))/\V.cell? ⟨B2,0,none⟩=some (.pointer (some ⟨g2,0,none⟩))/\V.cell? ⟨g1,0,none⟩=some (.func (.func N1) x1 y1)/\V.cell? ⟨g2,0,none⟩=some (.func (.func N2) x2 y2))->K0 V V'->(K0 W V'/\V'.cell? ⟨B1,0,none⟩=some (.pointer (some ⟨g1,0,none⟩))/\V'.cell? ⟨B2,0,none⟩=some (.pointer (some ⟨g2,0,none⟩))/\V'.cell? ⟨g1,0,none⟩=some (.func (.func N1) x1 y1)/\V'.cell? ⟨g2,0,none⟩=some (.func (.func N2) x2 y2)):=fun V V' h hk=>⟨h.1.trans hk,hk.cellz h.2.1,hk.cellz h.2.2.1,hk.cellz h.2.2.2.1,hk.cellz h.2.2.2.2⟩
  have lM:Hid (∀ V:World,(K0 W V/\V.cell? ⟨B1,0,none⟩=some (.pointer (some ⟨g1,0,none⟩))/\V.cell? ⟨B2,0,none⟩=some (.pointer (some ⟨g2,0,none⟩))/\V.cell? ⟨g1,0,none⟩=some (.func (.func N1) x1 y1)/\V.cell? ⟨g2,0,none⟩=some (.func (.func N2) x2 y2))->Calls Tryz.prog N1 (x1.push (.string (aE (s.take (aH A B s))))++y1) V fun e V'=>e = .returned (.string (aE (G1 (s.take (aH A B s)))))/\(K0 W V'/\V'.cell? ⟨B1,0,none⟩=some (.pointer (some ⟨g1,0,none⟩))/\V'.cell? ⟨B2,0,none⟩=some (.pointer (some ⟨g2,0,none⟩))/\V'.cell? ⟨g1,0,none⟩=some (.func (.func N1) x1 y1)/\V'.cell? ⟨g2,0,none⟩=some (.func (.func N2) x2 y2))):=aB (fun V h=>(aA H1 V h.1 D4).mono (fun e V' h2=>⟨h2.1,gA V V' h h2.2⟩))
  have tE:Hid (∀ V:World,(K0 W V/\V.cell? ⟨B1,0,none⟩=some (.pointer (some ⟨g1,0,none⟩))/\V.cell? ⟨B2,0,none⟩=some (.pointer (some ⟨g2,0,none⟩))/\V.cell? ⟨g1,0,none⟩=some (.func (.func N1) x1 y1)/\V.cell? ⟨g2,0,none⟩=some (.func (.func N2) x2 y2))->Calls Tryz.prog N2 (x2.push (.string (aE (s.drop (aH A B s))))++y2) V fun e V'=>e = .returned (.string (aE (G2 (s.drop (aH A B s)))))/\(K0 W V'/\V'.cell? ⟨B1,0,none⟩=some (.pointer (some ⟨g1,0,none⟩))/\V'.cell? ⟨B2,0,none⟩=some (.pointer (some ⟨g2,0,none⟩))/\V'.cell? ⟨g1,0,none⟩=some (.func (.func N1) x1 y1)/\V'.cell? ⟨g2,0,none⟩=some (.func (.func N2) x2 y2))):=aB (fun V h=>(aA H2 V h.1 hcB).mono (fun e V' h2=>⟨h2.1,gA V V' h h2.2⟩))
  have Hm:=aB hm
  clear hm hl hk hbl gS gA H1 H2 HB HZ HS D4 hcB dU c0 c1 c2
  obtain ⟨a1,ha1⟩:∃ a1,s.take (aH A B s)=a1:=⟨_,rfl⟩
  obtain ⟨a2,ha2⟩:∃ a2,s.drop (aH A B s)=a2:=⟨_,rfl⟩
  rw [ha1] at z1 lM
  rw [ha2] at z2 tE
  obtain ⟨r1,hr1⟩:∃ r1,G1 a1=r1:=⟨_,rfl⟩
  obtain ⟨r2,hr2⟩:∃ r2,G2 a2=r2:=⟨_,rfl⟩
  rw [hr1] at z1 lM
  rw [hr2] at z2 tE
  rw [ha1,ha2]
  have HQ:=aB (And.intro ha1 (And.intro ha2 (And.intro hr1 hr2)))
  clear ha1 ha2 hr1 hr2
  have vO:¬ 9223372036854775807<(aE r1).size+(aE r2).size:=by rw [aO,aO];omega
  have fV:K0 W w1.drew:=aY.trans (Kp.drew _ _)
  go_wp2_with fail
  go_region_held3 (fun V=>(K0 W V/\V.cell? ⟨B1,0,none⟩=some (.pointer (some ⟨g1,0,none⟩))/\V.cell? ⟨B2,0,none⟩=some (.pointer (some ⟨g2,0,none⟩))/\V.cell? ⟨g1,0,none⟩=some (.func (.func N1) x1 y1)/\V.cell? ⟨g2,0,none⟩=some (.func (.func N2) x2 y2))) (go_keep) (first | (refine (aA lM _ (by assumption)).mono ?_;rintro e w2 ⟨rfl,iH⟩) | (refine (aA tE _ (by assumption)).mono ?_;rintro e w3 ⟨rfl,fX⟩))
  go_wp2
  go_ret
  exact ⟨.inl ⟨aA Hm,by rw [(aA HQ).1,(aA HQ).2.1,(aA HQ).2.2.1,(aA HQ).2.2.2,cU];rfl⟩,fX.1⟩
 ·exact ⟨rfl,.inr ⟨hm,rfl⟩,aY⟩
theorem EY {Y:Nat->Prop} {W:World} {A B:PT} {P1 P2:List UInt8->Prop} {G1 G2:List UInt8->List UInt8} {m:Int} {ba bb Bp B1 B2 g1 g2:Nat} {F1 F2 F3 E1 E2 E3:Value} {s:List UInt8}
  (hs:W.heap[Bp]? = some (lG m ba bb)) (hl:W.heap[B1]? = some (gQ g1)) (hk:W.heap[B2]? = some (gQ g2)) (hA:bF W A ba) (hB:bF W B bb) (hbl:W.heap[g1]? = some (gB F1 F2 F3)) (gS:W.heap[g2]? = some (gB E1 E2 E3))
  (UA:zO Y W F1 P1 G1 m) (hf2:zO Y W E1 P2 G2 m) (e1:∀ u,M B u->P1 u) (e2:∀ u,M A u->P2 u) (fU:s.length<=1000) (b1:∀ u,P1 u->u.length<=1000->(G1 u).length<=1000000000) (b2:∀ u,P2 u->u.length<=1000->(G2 u).length<=1000000000):
  Calls Tryz.prog 102 #[.string (aE s),.pointer (some ⟨Bp,0,none⟩),.pointer (some ⟨B1,0,none⟩),.pointer (some ⟨B2,0,none⟩)] W fun e w'=>tC W (kE A B s) (G1 (s.drop (aH A B s))++G2 (s.take (aH A B s))) m e w':=by
 have c0:=aC hs 0
 have c1:=aC hs 1
 have c2:=aC hs 2
 simp at c0 c1 c2
 have HS:=aB (gD (m:=m) (u:=s) hA hB fU)
 obtain ⟨N1,x1,y1,rfl,n1,s1⟩:=UA
 obtain ⟨N2,x2,y2,rfl,n2,s2⟩:=hf2
 have HB:=aB (And.intro hl (And.intro hk (And.intro hbl gS)))
 have H1:Hid (∀ V:World,K0 W V->M B (s.drop (aH A B s))->Calls Tryz.prog N1 (x1.push (.string (aE (s.drop (aH A B s))))++y1) V fun e V'=>e = .returned (.string (aE (G1 (s.drop (aH A B s)))))/\K0 V V'):=aB (fun V hV hM=>(s1 V (s.drop (aH A B s)) (hV.ky Y) (by first | (rw [List.length_take];omega) | (rw [List.length_drop];omega))).mono (fun e V' h=>by
  obtain ⟨(⟨_,h1⟩ | ⟨h1,_⟩),h2⟩:=h
  ·exact ⟨h1,h2⟩
  ·exact absurd (e1 _ hM) h1))
 have H2:Hid (∀ V:World,K0 W V->M A (s.take (aH A B s))->Calls Tryz.prog N2 (x2.push (.string (aE (s.take (aH A B s))))++y2) V fun e V'=>e = .returned (.string (aE (G2 (s.take (aH A B s)))))/\K0 V V'):=aB (fun V hV hM=>(s2 V (s.take (aH A B s)) (hV.ky Y) (by first | (rw [List.length_take];omega) | (rw [List.length_drop];omega))).mono (fun e V' h=>by
  obtain ⟨(⟨_,h1⟩ | ⟨h1,_⟩),h2⟩:=h
  ·exact ⟨h1,h2⟩
  ·exact absurd (e2 _ hM) h1))
 have HZ:=aB (And.intro e1 (And.intro e2 (And.intro b1 b2)))
 clear hs hl hk hA hB hbl gS s1 s2 e1 e2 b1 b2
 unfold wG at n1 n2
 go_enter Tryz.func102,Tryz.ntmps102
 go_wp2_with fail
 refine (aA HS).mono ?_
 rintro e w1 ⟨(⟨hm,rfl⟩ | ⟨hm,rfl⟩),aY⟩
 ·obtain ⟨hl,hk,hbl,gS⟩:=aA HB
  obtain ⟨_,dU,D4,hcB,_⟩:=bQ hm
  have d0:=aC ((aY.heap (aD hl)).trans hl) 0
  have d1:=aC ((aY.heap (aD hk)).trans hk) 0
  have d2:=aC ((aY.heap (aD hbl)).trans hbl) 0
  have d3:=aC ((aY.heap (aD gS)).trans gS) 0
  simp at d0 d1 d2 d3
  have z1:(G1 (s.drop (aH A B s))).length<=1000000000:=(aA HZ).2.2.1 _ ((aA HZ).1 _ hcB) (by first | (rw [List.length_take];omega) | (rw [List.length_drop];omega))
  have z2:(G2 (s.take (aH A B s))).length<=1000000000:=(aA HZ).2.2.2 _ ((aA HZ).2.1 _ D4) (by first | (rw [List.length_take];omega) | (rw [List.length_drop];omega))
  have gA:∀ V V':World,(K0 W V/\V.cell? ⟨B1,0,none⟩=some (.pointer (some ⟨g1,0,none⟩))/\V.cell? ⟨B2,0,none⟩=some (.pointer (some ⟨g2,0,none⟩))/\V.cell? ⟨g1,0,none⟩=some (.func (.func N1) x1 y1)/\V.cell? ⟨g2,0,none⟩=some (.func (.func N2) x2 y2))->K0 V V'->(K0 W V'/\V'.cell? ⟨B1,0,none⟩=some (.pointer (some ⟨g1,0,none⟩))/\V'.cell? ⟨B2,0,none⟩=some (.pointer (some ⟨g2,0,none⟩))/\V'.cell? ⟨g1,0,none⟩=some (.func (.func N1) x1 y1)/\V'.cell? ⟨g2,0,none⟩=some (.func (.func N2) x2 y2)):=fun V V' h hk=>⟨h.1.trans hk,hk.cellz h.2.1,hk.cellz h.2.2.1,hk.cellz h.2.2.2.1,hk.cellz h.2.2.2.2⟩
  have lM:Hid (∀ V:World,(K0 W V/\V.cell? ⟨B1,0,none⟩=some (.pointer (some ⟨g1,0,none⟩))/\V.cell? ⟨B2,0,none⟩=some (.pointer (some ⟨g2,0,none⟩))/\V.cell? ⟨g1,0,none⟩=some (.func (.func N1) x1 y1)/\V.cell? ⟨g2,0,none⟩=some (.func (.func N2) x2 y2))->Calls Tryz.prog N1 (x1.push (.string (aE (s.drop (aH A B s))))++y1) V fun e V'=>e = .returned (.string (aE (G1 (s.drop (aH A B s)))))/\(K0 W V'/\V'.cell? ⟨B1,0,none⟩=some (.pointer (some ⟨g1,0,none⟩))/\V'.cell? ⟨B2,0,none⟩=some (.pointer (some ⟨g2,0,none⟩))/\V'.cell? ⟨g1,0,none⟩=some (.func (.func N1) x1 y1)/\V'.cell? ⟨g2,0,none⟩=some (.func (.func N2) x2 y2))):=aB (fun V h=>(aA H1 V h.1 hcB).mono (fun e V' h2=>⟨h2.1,gA V V' h h2.2⟩))
  have tE:Hid (∀ V:World,(K0 W V/\V.cell? ⟨B1,0,none⟩=some (.pointer (some ⟨g1,0,none⟩))/\V.cell? ⟨B2,0,none⟩=some (.pointer (some ⟨g2,0,none⟩))/\V.cell? ⟨g1,0,none⟩=some (.func (.func N1) x1 y1)/\V.cell? ⟨g2,0,none⟩=some (.func (.func N2) x2 y2))->Calls Tryz.prog N2 (x2.push (.string (aE (s.take (aH A B s))))++y2) V fun e V'=>e = .returned (.string (aE (G2 (s.take (aH A B s)))))/\(K0 W V'/\V'.cell? ⟨B1,0,none⟩=some (.pointer (some ⟨g1,0,none⟩))/\V'.cell? ⟨B2,0,none⟩=some (.pointer (some ⟨g2,0,none⟩))/\V'.cell? ⟨g1,0,none⟩=some (.func (.func N1) x1 y1)/\V'.cell? ⟨g2,0,none⟩=some (.func (.func N2) x2 y2))):=aB (fun V h=>(aA H2 V h.1 D4).mono (fun e V' h2=>⟨h2.1,gA V V' h h2.2⟩))
  have Hm:=aB hm
  clear hm hl hk hbl gS gA H1 H2 HB HZ HS D4 hcB dU c0 c1 c2
  obtain ⟨a1,ha1⟩:∃ a1,s.drop (aH A B s)=a1:=⟨_,rfl⟩
  obtain ⟨a2,ha2⟩:∃ a2,s.take (aH A B s)=a2:=⟨_,rfl⟩
  rw [ha1] at z1 lM
  rw [ha2] at z2 tE
  obtain ⟨r1,hr1⟩:∃ r1,G1 a1=r1:=⟨_,rfl⟩
  obtain ⟨r2,hr2⟩:∃ r2,G2 a2=r2:=⟨_,rfl⟩
  rw [hr1] at z1 lM
  rw [hr2] at z2 tE
  rw [ha1,ha2]
  have HQ:=aB (And.intro ha1 (And.intro ha2 (And.intro hr1 hr2)))
  clear ha1 ha2 hr1 hr2
  have vO:¬ 9223372036854775807<(aE r1).size+(aE r2).size:=by rw [aO,aO];omega
  have fV:K0 W w1.drew:=aY.trans (Kp.drew _ _)
  go_wp2_with fail
  go_region_held3 (fun V=>(K0 W V/\V.cell? ⟨B1,0,none⟩=some (.pointer (some ⟨g1,0,none⟩))/\V.cell? ⟨B2,0,none⟩=some (.pointer (some ⟨g2,0,none⟩))/\V.cell? ⟨g1,0,none⟩=some (.func (.func N1) x1 y1)/\V.cell? ⟨g2,0,none⟩=some (.func (.func N2) x2 y2))) (go_keep) (first | (refine (aA lM _ (by assumption)).mono ?_;rintro e w2 ⟨rfl,iH⟩) | (refine (aA tE _ (by assumption)).mono ?_;rintro e w3 ⟨rfl,fX⟩))
  go_wp2
  go_ret
  exact ⟨.inl ⟨aA Hm,by rw [(aA HQ).1,(aA HQ).2.1,(aA HQ).2.2.1,(aA HQ).2.2.2,cU];rfl⟩,fX.1⟩
 ·exact ⟨rfl,.inr ⟨hm,rfl⟩,aY⟩
theorem FS {Y:Nat->Prop} {W:World} {A B:PT} {P1 P2:List UInt8->Prop} {G1 G2:List UInt8->List UInt8} {m:Int} {ba bb Bp B1 B2 g1 g2:Nat} {F1 F2 F3 E1 E2 E3:Value} {s:List UInt8}
  (hs:W.heap[Bp]? = some (lG m ba bb)) (hl:W.heap[B1]? = some (gQ g1)) (hk:W.heap[B2]? = some (gQ g2)) (hA:bF W A ba) (hB:bF W B bb) (hbl:W.heap[g1]? = some (gB F1 F2 F3)) (gS:W.heap[g2]? = some (gB E1 E2 E3))
  (UA:zO Y W F3 P1 G1 m) (hf2:zO Y W E3 P2 G2 m) (e1:∀ u,M A u->P1 u) (e2:∀ u,M B u->P2 u) (fU:s.length<=1000) (b1:∀ u,P1 u->u.length<=1000->(G1 u).length<=1000000000) (b2:∀ u,P2 u->u.length<=1000->(G2 u).length<=1000000000):
  Calls Tryz.prog 148 #[.string (aE s),.pointer (some ⟨Bp,0,none⟩),.pointer (some ⟨B1,0,none⟩),.pointer (some ⟨B2,0,none⟩)] W fun e w'=>tC W (kE A B s) (G1 (s.take (aH A B s))++G2 (s.drop (aH A B s))) m e w':=by
 have c0:=aC hs 0
 have c1:=aC hs 1
 have c2:=aC hs 2
 simp at c0 c1 c2
 have HS:=aB (gD (m:=m) (u:=s) hA hB fU)
 obtain ⟨N1,x1,y1,rfl,n1,s1⟩:=UA
 obtain ⟨N2,x2,y2,rfl,n2,s2⟩:=hf2
 have HB:=aB (And.intro hl (And.intro hk (And.intro hbl gS)))
 have H1:Hid (∀ V:World,K0 W V->M A (s.take (aH A B s))->Calls Tryz.prog N1 (x1.push (.string (aE (s.take (aH A B s))))++y1) V fun e V'=>e = .returned (.string (aE (G1 (s.take (aH A B s)))))/\K0 V V'):=aB (fun V hV hM=>(s1 V (s.take (aH A B s)) (hV.ky Y) (by first | (rw [List.length_take];omega) | (rw [List.length_drop];omega))).mono (fun e V' h=>by
  obtain ⟨(⟨_,h1⟩ | ⟨h1,_⟩),h2⟩:=h
  ·exact ⟨h1,h2⟩
  ·exact absurd (e1 _ hM) h1))
 have H2:Hid (∀ V:World,K0 W V->M B (s.drop (aH A B s))->Calls Tryz.prog N2 (x2.push (.string (aE (s.drop (aH A B s))))++y2) V fun e V'=>e = .returned (.string (aE (G2 (s.drop (aH A B s)))))/\K0 V V'):=aB (fun V hV hM=>(s2 V (s.drop (aH A B s)) (hV.ky Y) (by first | (rw [List.length_take];omega) | (rw [List.length_drop];omega))).mono (fun e V' h=>by
  obtain ⟨(⟨_,h1⟩ | ⟨h1,_⟩),h2⟩:=h
  ·exact ⟨h1,h2⟩
  ·exact absurd (e2 _ hM) h1))
 have HZ:=aB (And.intro e1 (And.intro e2 (And.intro b1 b2)))
 clear hs hl hk hA hB hbl gS s1 s2 e1 e2 b1 b2
 unfold wG at n1 n2
 go_enter Tryz.func148,Tryz.ntmps148
 go_wp2_with fail
 refine (aA HS).mono ?_
 rintro e w1 ⟨(⟨hm,rfl⟩ | ⟨hm,rfl⟩),aY⟩
 ·obtain ⟨hl,hk,hbl,gS⟩:=aA HB
  obtain ⟨_,dU,D4,hcB,_⟩:=bQ hm
  have d0:=aC ((aY.heap (aD hl)).trans hl) 0
  have d1:=aC ((aY.heap (aD hk)).trans hk) 0
  have d2:=aC ((aY.heap (aD hbl)).trans hbl) 2
  have d3:=aC ((aY.heap (aD gS)).trans gS) 2
  simp at d0 d1 d2 d3
  have z1:(G1 (s.take (aH A B s))).length<=1000000000:=(aA HZ).2.2.1 _ ((aA HZ).1 _ D4) (by first | (rw [List.length_take];omega) | (rw [List.length_drop];omega))
  have z2:(G2 (s.drop (aH A B s))).length<=1000000000:=(aA HZ).2.2.2 _ ((aA HZ).2.1 _ hcB) (by first | (rw [List.length_take];omega) | (rw [List.length_drop];omega))
  have gA:∀ V V':World,(K0 W V/\V.cell? ⟨B1,0,none⟩=some (.pointer (some ⟨g1,0,none⟩))/\V.cell? ⟨B2,0,none⟩=some (.pointer (some ⟨g2,0,none⟩))/\V.cell? ⟨g1,2,none⟩=some (.func (.func N1) x1 y1)/\V.cell? ⟨g2,2,none⟩=some (.func (.func N2) x2 y2))->K0 V V'->(K0 W V'/\V'.cell? ⟨B1,0,none⟩=some (.pointer (some ⟨g1,0,none⟩))/\V'.cell? ⟨B2,0,none⟩=some (.pointer (some ⟨g2,0,none⟩))/\V'.cell? ⟨g1,2,none⟩=some (.func (.func N1) x1 y1)/\V'.cell? ⟨g2,2,none⟩=some (.func (.func N2) x2 y2)):=fun V V' h hk=>⟨h.1.trans hk,hk.cellz h.2.1,hk.cellz h.2.2.1,hk.cellz h.2.2.2.1,hk.cellz h.2.2.2.2⟩
  have lM:Hid (∀ V:World,(K0 W V/\V.cell? ⟨B1,0,none⟩=some (.pointer (some ⟨g1,0,none⟩))/\V.cell? ⟨B2,0,none⟩=some (.pointer (some ⟨g2,0,none⟩))/\V.cell? ⟨g1,2,none⟩=some (.func (.func N1) x1 y1)/\V.cell? ⟨g2,2,none⟩=some (.func (.func N2) x2 y2))->Calls Tryz.prog N1 (x1.push (.string (aE (s.take (aH A B s))))++y1) V fun e V'=>e = .returned (.string (aE (G1 (s.take (aH A B s)))))/\(K0 W V'/\V'.cell? ⟨B1,0,none⟩=some (.pointer (some ⟨g1,0,none⟩))/\V'.cell? ⟨B2,0,none⟩=some (.pointer (some ⟨g2,0,none⟩))/\V'.cell? ⟨g1,2,none⟩=some (.func (.func N1) x1 y1)/\V'.cell? ⟨g2,2,none⟩=some (.func (.func N2) x2 y2))):=aB (fun V h=>(aA H1 V h.1 D4).mono (fun e V' h2=>⟨h2.1,gA V V' h h2.2⟩))
  have tE:Hid (∀ V:World,(K0 W V/\V.cell? ⟨B1,0,none⟩=some (.pointer (some ⟨g1,0,none⟩))/\V.cell? ⟨B2,0,none⟩=some (.pointer (some ⟨g2,0,none⟩))/\V.cell? ⟨g1,2,none⟩=some (.func (.func N1) x1 y1)/\V.cell? ⟨g2,2,none⟩=some (.func (.func N2) x2 y2))->Calls Tryz.prog N2 (x2.push (.string (aE (s.drop (aH A B s))))++y2) V fun e V'=>e = .returned (.string (aE (G2 (s.drop (aH A B s)))))/\(K0 W V'/\V'.cell? ⟨B1,0,none⟩=some (.pointer (some ⟨g1,0,none⟩))/\V'.cell? ⟨B2,0,none⟩=some (.pointer (some ⟨g2,0,none⟩))/\V'.cell? ⟨g1,2,none⟩=some (.func (.func N1) x1 y1)/\V'.cell? ⟨g2,2,none⟩=some (.func (.func N2) x2 y2))):=aB (fun V h=>(aA H2 V h.1 hcB).mono (fun e V' h2=>⟨h2.1,gA V V' h h2.2⟩))
  have Hm:=aB hm
  clear hm hl hk hbl gS gA H1 H2 HB HZ HS D4 hcB dU c0 c1 c2
  obtain ⟨a1,ha1⟩:∃ a1,s.take (aH A B s)=a1:=⟨_,rfl⟩
  obtain ⟨a2,ha2⟩:∃ a2,s.drop (aH A B s)=a2:=⟨_,rfl⟩
  rw [ha1] at z1 lM
  rw [ha2] at z2 tE
  obtain ⟨r1,hr1⟩:∃ r1,G1 a1=r1:=⟨_,rfl⟩
  obtain ⟨r2,hr2⟩:∃ r2,G2 a2=r2:=⟨_,rfl⟩
  rw [hr1] at z1 lM
  rw [hr2] at z2 tE
  rw [ha1,ha2]
  have HQ:=aB (And.intro ha1 (And.intro ha2 (And.intro hr1 hr2)))
  clear ha1 ha2 hr1 hr2
  have vO:¬ 9223372036854775807<(aE r1).size+(aE r2).size:=by rw [aO,aO];omega
  have fV:K0 W w1.drew:=aY.trans (Kp.drew _ _)
  go_wp2_with fail
  go_region_held3 (fun V=>(K0 W V/\V.cell? ⟨B1,0,none⟩=some (.pointer (some ⟨g1,0,none⟩))/\V.cell? ⟨B2,0,none⟩=some (.pointer (some ⟨g2,0,none⟩))/\V.cell? ⟨g1,2,none⟩=some (.func (.func N1) x1 y1)/\V.cell? ⟨g2,2,none⟩=some (.func (.func N2) x2 y2))) (go_keep) (first | (refine (aA lM _ (by assumption)).mono ?_;rintro e w2 ⟨rfl,iH⟩) | (refine (aA tE _ (by assumption)).mono ?_;rintro e w3 ⟨rfl,fX⟩))
  go_wp2
  go_ret
  exact ⟨.inl ⟨aA Hm,by rw [(aA HQ).1,(aA HQ).2.1,(aA HQ).2.2.1,(aA HQ).2.2.2,cU];rfl⟩,fX.1⟩
 ·exact ⟨rfl,.inr ⟨hm,rfl⟩,aY⟩
theorem EW {Y:Nat->Prop} {W:World} {A B:PT} {P1 P2:List UInt8->Prop} {G1 G2:List UInt8->List UInt8} {m:Int} {ba bb Bp B1 B2 g1 g2:Nat} {F1 F2 F3 E1 E2 E3:Value} {s:List UInt8}
  (hs:W.heap[Bp]? = some (lG m ba bb)) (hl:W.heap[B1]? = some (gQ g1)) (hk:W.heap[B2]? = some (gQ g2)) (hA:bF W A ba) (hB:bF W B bb) (hbl:W.heap[g1]? = some (gB F1 F2 F3)) (gS:W.heap[g2]? = some (gB E1 E2 E3))
  (UA:zO Y W F3 P1 G1 m) (hf2:zO Y W E3 P2 G2 m) (e1:∀ u,M B u->P1 u) (e2:∀ u,M A u->P2 u) (fU:s.length<=1000) (b1:∀ u,P1 u->u.length<=1000->(G1 u).length<=1000000000) (b2:∀ u,P2 u->u.length<=1000->(G2 u).length<=1000000000):
  Calls Tryz.prog 105 #[.string (aE s),.pointer (some ⟨Bp,0,none⟩),.pointer (some ⟨B1,0,none⟩),.pointer (some ⟨B2,0,none⟩)] W fun e w'=>tC W (kE A B s) (G1 (s.drop (aH A B s))++G2 (s.take (aH A B s))) m e w':=by
 have c0:=aC hs 0
 have c1:=aC hs 1
 have c2:=aC hs 2
 simp at c0 c1 c2
 have HS:=aB (gD (m:=m) (u:=s) hA hB fU)
 obtain ⟨N1,x1,y1,rfl,n1,s1⟩:=UA
 obtain ⟨N2,x2,y2,rfl,n2,s2⟩:=hf2
 have HB:=aB (And.intro hl (And.intro hk (And.intro hbl gS)))
 have H1:Hid (∀ V:World,K0 W V->M B (s.drop (aH A B s))->Calls Tryz.prog N1 (x1.push (.string (aE (s.drop (aH A B s))))++y1) V fun e V'=>e = .returned (.string (aE (G1 (s.drop (aH A B s)))))/\K0 V V'):=aB (fun V hV hM=>(s1 V (s.drop (aH A B s)) (hV.ky Y) (by first | (rw [List.length_take];omega) | (rw [List.length_drop];omega))).mono (fun e V' h=>by
  obtain ⟨(⟨_,h1⟩ | ⟨h1,_⟩),h2⟩:=h
  ·exact ⟨h1,h2⟩
  ·exact absurd (e1 _ hM) h1))
 have H2:Hid (∀ V:World,K0 W V->M A (s.take (aH A B s))->Calls Tryz.prog N2 (x2.push (.string (aE (s.take (aH A B s))))++y2) V fun e V'=>e = .returned (.string (aE (G2 (s.take (aH A B s)))))/\K0 V V'):=aB (fun V hV hM=>(s2 V (s.take (aH A B s)) (hV.ky Y) (by first | (rw [List.length_take];omega) | (rw [List.length_drop];omega))).mono (fun e V' h=>by
  obtain ⟨(⟨_,h1⟩ | ⟨h1,_⟩),h2⟩:=h
  ·exact ⟨h1,h2⟩
  ·exact absurd (e2 _ hM) h1))
 have HZ:=aB (And.intro e1 (And.intro e2 (And.intro b1 b2)))
 clear hs hl hk hA hB hbl gS s1 s2 e1 e2 b1 b2
 unfold wG at n1 n2
 go_enter Tryz.func105,Tryz.ntmps105
 go_wp2_with fail
 refine (aA HS).mono ?_
 rintro e w1 ⟨(⟨hm,rfl⟩ | ⟨hm,rfl⟩),aY⟩
 ·obtain ⟨hl,hk,hbl,gS⟩:=aA HB
  obtain ⟨_,dU,D4,hcB,_⟩:=bQ hm
  have d0:=aC ((aY.heap (aD hl)).trans hl) 0
  have d1:=aC ((aY.heap (aD hk)).trans hk) 0
  have d2:=aC ((aY.heap (aD hbl)).trans hbl) 2
  have d3:=aC ((aY.heap (aD gS)).trans gS) 2
  simp at d0 d1 d2 d3
  have z1:(G1 (s.drop (aH A B s))).length<=1000000000:=(aA HZ).2.2.1 _ ((aA HZ).1 _ hcB) (by first | (rw [List.length_take];omega) | (rw [List.length_drop];omega))
  have z2:(G2 (s.take (aH A B s))).length<=1000000000:=(aA HZ).2.2.2 _ ((aA HZ).2.1 _ D4) (by first | (rw [List.length_take];omega) | (rw [List.length_drop];omega))
  have gA:∀ V V':World,(K0 W V/\V.cell? ⟨B1,0,none⟩=some (.pointer (some ⟨g1,0,none⟩))/\V.cell? ⟨B2,0,none⟩=some (.pointer (some ⟨g2,0,none⟩))/\V.cell? ⟨g1,2,none⟩=some (.func (.func N1) x1 y1)/\V.cell? ⟨g2,2,none⟩=some (.func (.func N2) x2 y2))->K0 V V'->(K0 W V'/\V'.cell? ⟨B1,0,none⟩=some (.pointer (some ⟨g1,0,none⟩))/\V'.cell? ⟨B2,0,none⟩=some (.pointer (some ⟨g2,0,none⟩))/\V'.cell? ⟨g1,2,none⟩=some (.func (.func N1) x1 y1)/\V'.cell? ⟨g2,2,none⟩=some (.func (.func N2) x2 y2)):=fun V V' h hk=>⟨h.1.trans hk,hk.cellz h.2.1,hk.cellz h.2.2.1,hk.cellz h.2.2.2.1,hk.cellz h.2.2.2.2⟩
  have lM:Hid (∀ V:World,(K0 W V/\V.cell? ⟨B1,0,none⟩=some (.pointer (some ⟨g1,0,none⟩))/\V.cell? ⟨B2,0,none⟩=some (.pointer (some ⟨g2,0,none⟩))/\V.cell? ⟨g1,2,none⟩=some (.func (.func N1) x1 y1)/\V.cell? ⟨g2,2,none⟩=some (.func (.func N2) x2 y2))->Calls Tryz.prog N1 (x1.push (.string (aE (s.drop (aH A B s))))++y1) V fun e V'=>e = .returned (.string (aE (G1 (s.drop (aH A B s)))))/\(K0 W V'/\V'.cell? ⟨B1,0,none⟩=some (.pointer (some ⟨g1,0,none⟩))/\V'.cell? ⟨B2,0,none⟩=some (.pointer (some ⟨g2,0,none⟩))/\V'.cell? ⟨g1,2,none⟩=some (.func (.func N1) x1 y1)/\V'.cell? ⟨g2,2,none⟩=some (.func (.func N2) x2 y2))):=aB (fun V h=>(aA H1 V h.1 hcB).mono (fun e V' h2=>⟨h2.1,gA V V' h h2.2⟩))
  have tE:Hid (∀ V:World,(K0 W V/\V.cell? ⟨B1,0,none⟩=some (.pointer (some ⟨g1,0,none⟩))/\V.cell? ⟨B2,0,none⟩=some (.pointer (some ⟨g2,0,none⟩))/\V.cell? ⟨g1,2,none⟩=some (.func (.func N1) x1 y1)/\V.cell? ⟨g2,2,none⟩=some (.func (.func N2) x2 y2))->Calls Tryz.prog N2 (x2.push (.string (aE (s.take (aH A B s))))++y2) V fun e V'=>e = .returned (.string (aE (G2 (s.take (aH A B s)))))/\(K0 W V'/\V'.cell? ⟨B1,0,none⟩=some (.pointer (some ⟨g1,0,none⟩))/\V'.cell? ⟨B2,0,none⟩=some (.pointer (some ⟨g2,0,none⟩))/\V'.cell? ⟨g1,2,none⟩=some (.func (.func N1) x1 y1)/\V'.cell? ⟨g2,2,none⟩=some (.func (.func N2) x2 y2))):=aB (fun V h=>(aA H2 V h.1 D4).mono (fun e V' h2=>⟨h2.1,gA V V' h h2.2⟩))
  have Hm:=aB hm
  clear hm hl hk hbl gS gA H1 H2 HB HZ HS D4 hcB dU c0 c1 c2
  obtain ⟨a1,ha1⟩:∃ a1,s.drop (aH A B s)=a1:=⟨_,rfl⟩
  obtain ⟨a2,ha2⟩:∃ a2,s.take (aH A B s)=a2:=⟨_,rfl⟩
  rw [ha1] at z1 lM
  rw [ha2] at z2 tE
  obtain ⟨r1,hr1⟩:∃ r1,G1 a1=r1:=⟨_,rfl⟩
  obtain ⟨r2,hr2⟩:∃ r2,G2 a2=r2:=⟨_,rfl⟩
  rw [hr1] at z1 lM
  rw [hr2] at z2 tE
  rw [ha1,ha2]
  have HQ:=aB (And.intro ha1 (And.intro ha2 (And.intro hr1 hr2)))
  clear ha1 ha2 hr1 hr2
  have vO:¬ 9223372036854775807<(aE r1).size+(aE r2).size:=by rw [aO,aO];omega
  have fV:K0 W w1.drew:=aY.trans (Kp.drew _ _)
  go_wp2_with fail
  go_region_held3 (fun V=>(K0 W V/\V.cell? ⟨B1,0,none⟩=some (.pointer (some ⟨g1,0,none⟩))/\V.cell? ⟨B2,0,none⟩=some (.pointer (some ⟨g2,0,none⟩))/\V.cell? ⟨g1,2,none⟩=some (.func (.func N1) x1 y1)/\V.cell? ⟨g2,2,none⟩=some (.func (.func N2) x2 y2))) (go_keep) (first | (refine (aA lM _ (by assumption)).mono ?_;rintro e w2 ⟨rfl,iH⟩) | (refine (aA tE _ (by assumption)).mono ?_;rintro e w3 ⟨rfl,fX⟩))
  go_wp2
  go_ret
  exact ⟨.inl ⟨aA Hm,by rw [(aA HQ).1,(aA HQ).2.1,(aA HQ).2.2.1,(aA HQ).2.2.2,cU];rfl⟩,fX.1⟩
 ·exact ⟨rfl,.inr ⟨hm,rfl⟩,aY⟩
theorem FT {Y:Nat->Prop} {W:World} {A B A' B':PT} {Pv1 Ps1 Pv2 Ps2:List UInt8->Prop} {G1 G2:List UInt8->List UInt8->List UInt8} {ba bb ca cb Bv Bs B1 B2 g1 g2:Nat} {F1 F2 F3 E1 E2 E3:Value} {v s:List UInt8}
  (hv:W.heap[Bv]? = some (lG 2 ca cb)) (hs:W.heap[Bs]? = some (lG 1 ba bb)) (hl:W.heap[B1]? = some (gQ g1)) (hk:W.heap[B2]? = some (gQ g2)) (hA:bF W A ba) (hB:bF W B bb) (hA':bF W A' ca) (uR:bF W B' cb) (hbl:W.heap[g1]? = some (gB F1 F2 F3)) (gS:W.heap[g2]? = some (gB E1 E2 E3))
  (UA:JR Y W F2 Pv1 Ps1 G1) (hf2:JR Y W E2 Pv2 Ps2 G2) (e1:∀ u,M A' u->Pv1 u) (e2:∀ u,M B' u->Pv2 u) (i1:∀ u,M A u->Ps1 u) (i2:∀ u,M B u->Ps2 u) (dB:v.length<=1000) (fU:s.length<=1000) (b1:∀ u x,Pv1 u->Ps1 x->u.length<=1000->x.length<=1000->(G1 u x).length<=1000000000) (b2:∀ u x,Pv2 u->Ps2 x->u.length<=1000->x.length<=1000->(G2 u x).length<=1000000000):
  Calls Tryz.prog 147 #[.string (aE v),.string (aE s),.pointer (some ⟨Bv,0,none⟩),.pointer (some ⟨Bs,0,none⟩),.pointer (some ⟨B1,0,none⟩),.pointer (some ⟨B2,0,none⟩)] W fun e w'=>J9 W (kE A' B' v) (kE A B s) (G1 (v.take (aH A' B' v)) (s.take (aH A B s))++G2 (v.drop (aH A' B' v)) (s.drop (aH A B s))) e w':=by
 have c0:=aC hv 0
 have c1:=aC hv 1
 have c2:=aC hv 2
 simp at c0 c1 c2
 have HV:=aB (gD (m:=2) (u:=v) hA' uR dB)
 have HS:=aB (fun (V:World) (hV:K0 W V)=>gD (m:=1) (u:=s) (hA.k0 hV) (hB.k0 hV) fU)
 obtain ⟨N1,x1,y1,rfl,n1,t1⟩:=UA
 obtain ⟨N2,x2,y2,rfl,n2,t2⟩:=hf2
 have HB:=aB (And.intro hs (And.intro hl (And.intro hk (And.intro hbl gS))))
 have H1:Hid (∀ V:World,K0 W V->M A' (v.take (aH A' B' v))->M A (s.take (aH A B s))->Calls Tryz.prog N1 (x1++(#[.string (aE (v.take (aH A' B' v))),.string (aE (s.take (aH A B s)))]++y1)) V fun e V'=>e = .returned (.string (aE (G1 (v.take (aH A' B' v)) (s.take (aH A B s)))))/\K0 V V'):=aB (fun V hV hM hM'=>(t1 V (v.take (aH A' B' v)) (s.take (aH A B s)) (hV.ky Y) (by first | (rw [List.length_take];omega) | (rw [List.length_drop];omega)) (by first | (rw [List.length_take];omega) | (rw [List.length_drop];omega))).mono (fun e V' h=>by
  obtain ⟨(⟨_,_,h1⟩ | ⟨h1,_⟩ | ⟨_,h1,_⟩),h2⟩:=h
  ·exact ⟨h1,h2⟩
  ·exact absurd (e1 _ hM) h1
  ·exact absurd (i1 _ hM') h1))
 have H2:Hid (∀ V:World,K0 W V->M B' (v.drop (aH A' B' v))->M B (s.drop (aH A B s))->Calls Tryz.prog N2 (x2++(#[.string (aE (v.drop (aH A' B' v))),.string (aE (s.drop (aH A B s)))]++y2)) V fun e V'=>e = .returned (.string (aE (G2 (v.drop (aH A' B' v)) (s.drop (aH A B s)))))/\K0 V V'):=aB (fun V hV hM hM'=>(t2 V (v.drop (aH A' B' v)) (s.drop (aH A B s)) (hV.ky Y) (by first | (rw [List.length_take];omega) | (rw [List.length_drop];omega)) (by first | (rw [List.length_take];omega) | (rw [List.length_drop];omega))).mono (fun e V' h=>by
  obtain ⟨(⟨_,_,h1⟩ | ⟨h1,_⟩ | ⟨_,h1,_⟩),h2⟩:=h
  ·exact ⟨h1,h2⟩
  ·exact absurd (e2 _ hM) h1
  ·exact absurd (i2 _ hM') h1))
 have HZ:=aB (And.intro e1 (And.intro e2 (And.intro i1 (And.intro i2 (And.intro b1 b2)))))
 clear hs hv hl hk hA hB hA' uR hbl gS t1 t2 e1 e2 i1 i2 b1 b2
 unfold wG at n1 n2
 go_enter Tryz.func147,Tryz.ntmps147
 go_wp2_with fail
 refine (aA HV).mono ?_
 rintro e w0 ⟨(⟨qI,rfl⟩ | ⟨qI,rfl⟩),eE⟩
 ·have hb0:=(eE.heap (aD (aA HB).1)).trans (aA HB).1
  have u0:=aC hb0 0
  have u1:=aC hb0 1
  have u2:=aC hb0 2
  simp at u0 u1 u2
  have Hmv:=aB qI
  clear qI hb0
  go_wp2_with fail
  refine (aA HS _ eE).mono ?_
  rintro e w1 ⟨(⟨hm,rfl⟩ | ⟨hm,rfl⟩),GS⟩
  ·have aY:K0 W w1:=eE.trans GS
   obtain ⟨_,hl,hk,hbl,gS⟩:=aA HB
   obtain ⟨_,dU,D4,hcB,_⟩:=bQ hm
   obtain ⟨_,NZ,GX,GW,_⟩:=bQ (aA Hmv)
   have d0:=aC ((aY.heap (aD hl)).trans hl) 0
   have d1:=aC ((aY.heap (aD hk)).trans hk) 0
   have d2:=aC ((aY.heap (aD hbl)).trans hbl) 1
   have d3:=aC ((aY.heap (aD gS)).trans gS) 1
   simp at d0 d1 d2 d3
   have z1:(G1 (v.take (aH A' B' v)) (s.take (aH A B s))).length<=1000000000:=(aA HZ).2.2.2.2.1 _ _ ((aA HZ).1 _ GX) ((aA HZ).2.2.1 _ D4) (by first | (rw [List.length_take];omega) | (rw [List.length_drop];omega)) (by first | (rw [List.length_take];omega) | (rw [List.length_drop];omega))
   have z2:(G2 (v.drop (aH A' B' v)) (s.drop (aH A B s))).length<=1000000000:=(aA HZ).2.2.2.2.2 _ _ ((aA HZ).2.1 _ GW) ((aA HZ).2.2.2.1 _ hcB) (by first | (rw [List.length_take];omega) | (rw [List.length_drop];omega)) (by first | (rw [List.length_take];omega) | (rw [List.length_drop];omega))
   have gA:∀ V V':World,(K0 W V/\V.cell? ⟨B1,0,none⟩=some (.pointer (some ⟨g1,0,none⟩))/\V.cell? ⟨B2,0,none⟩=some (.pointer (some ⟨g2,0,none⟩))/\V.cell? ⟨g1,1,none⟩=some (.func (.func N1) x1 y1)/\V.cell? ⟨g2,1,none⟩=some (.func (.func N2) x2 y2))->K0 V V'->(K0 W V'/\V'.cell? ⟨B1,0,none⟩=some (.pointer (some ⟨g1,0,none⟩))/\V'.cell? ⟨B2,0,none⟩=some (.pointer (some ⟨g2,0,none⟩))/\V'.cell? ⟨g1,1,none⟩=some (.func (.func N1) x1 y1)/\V'.cell? ⟨g2,1,none⟩=some (.func (.func N2) x2 y2)):=fun V V' h hk=>⟨h.1.trans hk,hk.cellz h.2.1,hk.cellz h.2.2.1,hk.cellz h.2.2.2.1,hk.cellz h.2.2.2.2⟩
   have lM:Hid (∀ V:World,(K0 W V/\V.cell? ⟨B1,0,none⟩=some (.pointer (some ⟨g1,0,none⟩))/\V.cell? ⟨B2,0,none⟩=some (.pointer (some ⟨g2,0,none⟩))/\V.cell? ⟨g1,1,none⟩=some (.func (.func N1) x1 y1)/\V.cell? ⟨g2,1,none⟩=some (.func (.func N2) x2 y2))->Calls Tryz.prog N1 (x1++(#[.string (aE (v.take (aH A' B' v))),.string (aE (s.take (aH A B s)))]++y1)) V fun e V'=>e = .returned (.string (aE (G1 (v.take (aH A' B' v)) (s.take (aH A B s)))))/\(K0 W V'/\V'.cell? ⟨B1,0,none⟩=some (.pointer (some ⟨g1,0,none⟩))/\V'.cell? ⟨B2,0,none⟩=some (.pointer (some ⟨g2,0,none⟩))/\V'.cell? ⟨g1,1,none⟩=some (.func (.func N1) x1 y1)/\V'.cell? ⟨g2,1,none⟩=some (.func (.func N2) x2 y2))):=aB (fun V h=>(aA H1 V h.1 GX D4).mono (fun e V' h2=>⟨h2.1,gA V V' h h2.2⟩))
   have tE:Hid (∀ V:World,(K0 W V/\V.cell? ⟨B1,0,none⟩=some (.pointer (some ⟨g1,0,none⟩))/\V.cell? ⟨B2,0,none⟩=some (.pointer (some ⟨g2,0,none⟩))/\V.cell? ⟨g1,1,none⟩=some (.func (.func N1) x1 y1)/\V.cell? ⟨g2,1,none⟩=some (.func (.func N2) x2 y2))->Calls Tryz.prog N2 (x2++(#[.string (aE (v.drop (aH A' B' v))),.string (aE (s.drop (aH A B s)))]++y2)) V fun e V'=>e = .returned (.string (aE (G2 (v.drop (aH A' B' v)) (s.drop (aH A B s)))))/\(K0 W V'/\V'.cell? ⟨B1,0,none⟩=some (.pointer (some ⟨g1,0,none⟩))/\V'.cell? ⟨B2,0,none⟩=some (.pointer (some ⟨g2,0,none⟩))/\V'.cell? ⟨g1,1,none⟩=some (.func (.func N1) x1 y1)/\V'.cell? ⟨g2,1,none⟩=some (.func (.func N2) x2 y2))):=aB (fun V h=>(aA H2 V h.1 GW hcB).mono (fun e V' h2=>⟨h2.1,gA V V' h h2.2⟩))
   have Hm:=aB hm
   clear hm hl hk hbl gS gA H1 H2 HB HZ HS HV D4 hcB dU GX GW NZ c0 c1 c2 u0 u1 u2 GS
   obtain ⟨a1,ha1⟩:∃ a1,v.take (aH A' B' v)=a1:=⟨_,rfl⟩
   obtain ⟨a2,ha2⟩:∃ a2,v.drop (aH A' B' v)=a2:=⟨_,rfl⟩
   obtain ⟨o1,D2⟩:∃ o1,s.take (aH A B s)=o1:=⟨_,rfl⟩
   obtain ⟨o2,NV⟩:∃ o2,s.drop (aH A B s)=o2:=⟨_,rfl⟩
   rw [ha1,D2] at z1 lM
   rw [ha2,NV] at z2 tE
   obtain ⟨r1,hr1⟩:∃ r1,G1 a1 o1=r1:=⟨_,rfl⟩
   obtain ⟨r2,hr2⟩:∃ r2,G2 a2 o2=r2:=⟨_,rfl⟩
   rw [hr1] at z1 lM
   rw [hr2] at z2 tE
   rw [ha1,ha2,D2,NV]
   have HQ:=aB (And.intro ha1 (And.intro ha2 (And.intro D2 (And.intro NV (And.intro hr1 hr2)))))
   clear ha1 ha2 D2 NV hr1 hr2
   have vO:¬ 9223372036854775807<(aE r1).size+(aE r2).size:=by rw [aO,aO];omega
   have fV:K0 W w1.drew:=aY.trans (Kp.drew _ _)
   go_wp2_with fail
   go_region_held3 (fun V=>(K0 W V/\V.cell? ⟨B1,0,none⟩=some (.pointer (some ⟨g1,0,none⟩))/\V.cell? ⟨B2,0,none⟩=some (.pointer (some ⟨g2,0,none⟩))/\V.cell? ⟨g1,1,none⟩=some (.func (.func N1) x1 y1)/\V.cell? ⟨g2,1,none⟩=some (.func (.func N2) x2 y2))) (go_keep) (first | (refine (aA lM _ (by assumption)).mono ?_;rintro e w2 ⟨rfl,iH⟩) | (refine (aA tE _ (by assumption)).mono ?_;rintro e w3 ⟨rfl,fX⟩))
   go_wp2
   go_ret
   obtain ⟨ha1,ha2,D2,NV,hr1,hr2⟩:=aA HQ
   exact ⟨.inl ⟨aA Hmv,aA Hm,by rw [ha1,ha2,D2,NV,hr1,hr2,cU];rfl⟩,fX.1⟩
  ·exact ⟨rfl,.inr (.inr ⟨aA Hmv,hm,rfl⟩),eE.trans GS⟩
 ·exact ⟨rfl,.inr (.inl ⟨qI,rfl⟩),eE⟩
theorem EX {Y:Nat->Prop} {W:World} {A B A' B':PT} {Pv1 Ps1 Pv2 Ps2:List UInt8->Prop} {G1 G2:List UInt8->List UInt8->List UInt8} {ba bb ca cb Bv Bs B1 B2 g1 g2:Nat} {F1 F2 F3 E1 E2 E3:Value} {v s:List UInt8}
  (hv:W.heap[Bv]? = some (lG 2 ca cb)) (hs:W.heap[Bs]? = some (lG 1 ba bb)) (hl:W.heap[B1]? = some (gQ g1)) (hk:W.heap[B2]? = some (gQ g2)) (hA:bF W A ba) (hB:bF W B bb) (hA':bF W A' ca) (uR:bF W B' cb) (hbl:W.heap[g1]? = some (gB F1 F2 F3)) (gS:W.heap[g2]? = some (gB E1 E2 E3))
  (UA:JR Y W F2 Pv1 Ps1 G1) (hf2:JR Y W E2 Pv2 Ps2 G2) (e1:∀ u,M B' u->Pv1 u) (e2:∀ u,M A' u->Pv2 u) (i1:∀ u,M A u->Ps1 u) (i2:∀ u,M B u->Ps2 u) (dB:v.length<=1000) (fU:s.length<=1000) (b1:∀ u x,Pv1 u->Ps1 x->u.length<=1000->x.length<=1000->(G1 u x).length<=1000000000) (b2:∀ u x,Pv2 u->Ps2 x->u.length<=1000->x.length<=1000->(G2 u x).length<=1000000000):
  Calls Tryz.prog 104 #[.string (aE v),.string (aE s),.pointer (some ⟨Bv,0,none⟩),.pointer (some ⟨Bs,0,none⟩),.pointer (some ⟨B1,0,none⟩),.pointer (some ⟨B2,0,none⟩)] W fun e w'=>J9 W (kE A' B' v) (kE A B s) (G1 (v.drop (aH A' B' v)) (s.take (aH A B s))++G2 (v.take (aH A' B' v)) (s.drop (aH A B s))) e w':=by
 have c0:=aC hv 0
 have c1:=aC hv 1
 have c2:=aC hv 2
 simp at c0 c1 c2
 have HV:=aB (gD (m:=2) (u:=v) hA' uR dB)
 have HS:=aB (fun (V:World) (hV:K0 W V)=>gD (m:=1) (u:=s) (hA.k0 hV) (hB.k0 hV) fU)
 obtain ⟨N1,x1,y1,rfl,n1,t1⟩:=UA
 obtain ⟨N2,x2,y2,rfl,n2,t2⟩:=hf2
 have HB:=aB (And.intro hs (And.intro hl (And.intro hk (And.intro hbl gS))))
 have H1:Hid (∀ V:World,K0 W V->M B' (v.drop (aH A' B' v))->M A (s.take (aH A B s))->Calls Tryz.prog N1 (x1++(#[.string (aE (v.drop (aH A' B' v))),.string (aE (s.take (aH A B s)))]++y1)) V fun e V'=>e = .returned (.string (aE (G1 (v.drop (aH A' B' v)) (s.take (aH A B s)))))/\K0 V V'):=aB (fun V hV hM hM'=>(t1 V (v.drop (aH A' B' v)) (s.take (aH A B s)) (hV.ky Y) (by first | (rw [List.length_take];omega) | (rw [List.length_drop];omega)) (by first | (rw [List.length_take];omega) | (rw [List.length_drop];omega))).mono (fun e V' h=>by
  obtain ⟨(⟨_,_,h1⟩ | ⟨h1,_⟩ | ⟨_,h1,_⟩),h2⟩:=h
  ·exact ⟨h1,h2⟩
  ·exact absurd (e1 _ hM) h1
  ·exact absurd (i1 _ hM') h1))
 have H2:Hid (∀ V:World,K0 W V->M A' (v.take (aH A' B' v))->M B (s.drop (aH A B s))->Calls Tryz.prog N2 (x2++(#[.string (aE (v.take (aH A' B' v))),.string (aE (s.drop (aH A B s)))]++y2)) V fun e V'=>e = .returned (.string (aE (G2 (v.take (aH A' B' v)) (s.drop (aH A B s)))))/\K0 V V'):=aB (fun V hV hM hM'=>(t2 V (v.take (aH A' B' v)) (s.drop (aH A B s)) (hV.ky Y) (by first | (rw [List.length_take];omega) | (rw [List.length_drop];omega)) (by first | (rw [List.length_take];omega) | (rw [List.length_drop];omega))).mono (fun e V' h=>by
  obtain ⟨(⟨_,_,h1⟩ | ⟨h1,_⟩ | ⟨_,h1,_⟩),h2⟩:=h
  ·exact ⟨h1,h2⟩
  ·exact absurd (e2 _ hM) h1
  ·exact absurd (i2 _ hM') h1))
 have HZ:=aB (And.intro e1 (And.intro e2 (And.intro i1 (And.intro i2 (And.intro b1 b2)))))
 clear hs hv hl hk hA hB hA' uR hbl gS t1 t2 e1 e2 i1 i2 b1 b2
 unfold wG at n1 n2
 go_enter Tryz.func104,Tryz.ntmps104
 go_wp2_with fail
 refine (aA HV).mono ?_
 rintro e w0 ⟨(⟨qI,rfl⟩ | ⟨qI,rfl⟩),eE⟩
 ·have hb0:=(eE.heap (aD (aA HB).1)).trans (aA HB).1
  have u0:=aC hb0 0
  have u1:=aC hb0 1
  have u2:=aC hb0 2
  simp at u0 u1 u2
  have Hmv:=aB qI
  clear qI hb0
  go_wp2_with fail
  refine (aA HS _ eE).mono ?_
  rintro e w1 ⟨(⟨hm,rfl⟩ | ⟨hm,rfl⟩),GS⟩
  ·have aY:K0 W w1:=eE.trans GS
   obtain ⟨_,hl,hk,hbl,gS⟩:=aA HB
   obtain ⟨_,dU,D4,hcB,_⟩:=bQ hm
   obtain ⟨_,NZ,GX,GW,_⟩:=bQ (aA Hmv)
   have d0:=aC ((aY.heap (aD hl)).trans hl) 0
   have d1:=aC ((aY.heap (aD hk)).trans hk) 0
   have d2:=aC ((aY.heap (aD hbl)).trans hbl) 1
   have d3:=aC ((aY.heap (aD gS)).trans gS) 1
   simp at d0 d1 d2 d3
   have z1:(G1 (v.drop (aH A' B' v)) (s.take (aH A B s))).length<=1000000000:=(aA HZ).2.2.2.2.1 _ _ ((aA HZ).1 _ GW) ((aA HZ).2.2.1 _ D4) (by first | (rw [List.length_take];omega) | (rw [List.length_drop];omega)) (by first | (rw [List.length_take];omega) | (rw [List.length_drop];omega))
   have z2:(G2 (v.take (aH A' B' v)) (s.drop (aH A B s))).length<=1000000000:=(aA HZ).2.2.2.2.2 _ _ ((aA HZ).2.1 _ GX) ((aA HZ).2.2.2.1 _ hcB) (by first | (rw [List.length_take];omega) | (rw [List.length_drop];omega)) (by first | (rw [List.length_take];omega) | (rw [List.length_drop];omega))
   have gA:∀ V V':World,(K0 W V/\V.cell? ⟨B1,0,none⟩=some (.pointer (some ⟨g1,0,none⟩))/\V.cell? ⟨B2,0,none⟩=some (.pointer (some ⟨g2,0,none⟩))/\V.cell? ⟨g1,1,none⟩=some (.func (.func N1) x1 y1)/\V.cell? ⟨g2,1,none⟩=some (.func (.func N2) x2 y2))->K0 V V'->(K0 W V'/\V'.cell? ⟨B1,0,none⟩=some (.pointer (some ⟨g1,0,none⟩))/\V'.cell? ⟨B2,0,none⟩=some (.pointer (some ⟨g2,0,none⟩))/\V'.cell? ⟨g1,1,none⟩=some (.func (.func N1) x1 y1)/\V'.cell? ⟨g2,1,none⟩=some (.func (.func N2) x2 y2)):=fun V V' h hk=>⟨h.1.trans hk,hk.cellz h.2.1,hk.cellz h.2.2.1,hk.cellz h.2.2.2.1,hk.cellz h.2.2.2.2⟩
   have lM:Hid (∀ V:World,(K0 W V/\V.cell? ⟨B1,0,none⟩=some (.pointer (some ⟨g1,0,none⟩))/\V.cell? ⟨B2,0,none⟩=some (.pointer (some ⟨g2,0,none⟩))/\V.cell? ⟨g1,1,none⟩=some (.func (.func N1) x1 y1)/\V.cell? ⟨g2,1,none⟩=some (.func (.func N2) x2 y2))->Calls Tryz.prog N1 (x1++(#[.string (aE (v.drop (aH A' B' v))),.string (aE (s.take (aH A B s)))]++y1)) V fun e V'=>e = .returned (.string (aE (G1 (v.drop (aH A' B' v)) (s.take (aH A B s)))))/\(K0 W V'/\V'.cell? ⟨B1,0,none⟩=some (.pointer (some ⟨g1,0,none⟩))/\V'.cell? ⟨B2,0,none⟩=some (.pointer (some ⟨g2,0,none⟩))/\V'.cell? ⟨g1,1,none⟩=some (.func (.func N1) x1 y1)/\V'.cell? ⟨g2,1,none⟩=some (.func (.func N2) x2 y2))):=aB (fun V h=>(aA H1 V h.1 GW D4).mono (fun e V' h2=>⟨h2.1,gA V V' h h2.2⟩))
   have tE:Hid (∀ V:World,(K0 W V/\V.cell? ⟨B1,0,none⟩=some (.pointer (some ⟨g1,0,none⟩))/\V.cell? ⟨B2,0,none⟩=some (.pointer (some ⟨g2,0,none⟩))/\V.cell? ⟨g1,1,none⟩=some (.func (.func N1) x1 y1)/\V.cell? ⟨g2,1,none⟩=some (.func (.func N2) x2 y2))->Calls Tryz.prog N2 (x2++(#[.string (aE (v.take (aH A' B' v))),.string (aE (s.drop (aH A B s)))]++y2)) V fun e V'=>e = .returned (.string (aE (G2 (v.take (aH A' B' v)) (s.drop (aH A B s)))))/\(K0 W V'/\V'.cell? ⟨B1,0,none⟩=some (.pointer (some ⟨g1,0,none⟩))/\V'.cell? ⟨B2,0,none⟩=some (.pointer (some ⟨g2,0,none⟩))/\V'.cell? ⟨g1,1,none⟩=some (.func (.func N1) x1 y1)/\V'.cell? ⟨g2,1,none⟩=some (.func (.func N2) x2 y2))):=aB (fun V h=>(aA H2 V h.1 GX hcB).mono (fun e V' h2=>⟨h2.1,gA V V' h h2.2⟩))
   have Hm:=aB hm
   clear hm hl hk hbl gS gA H1 H2 HB HZ HS HV D4 hcB dU GX GW NZ c0 c1 c2 u0 u1 u2 GS
   obtain ⟨a1,ha1⟩:∃ a1,v.drop (aH A' B' v)=a1:=⟨_,rfl⟩
   obtain ⟨a2,ha2⟩:∃ a2,v.take (aH A' B' v)=a2:=⟨_,rfl⟩
   obtain ⟨o1,D2⟩:∃ o1,s.take (aH A B s)=o1:=⟨_,rfl⟩
   obtain ⟨o2,NV⟩:∃ o2,s.drop (aH A B s)=o2:=⟨_,rfl⟩
   rw [ha1,D2] at z1 lM
   rw [ha2,NV] at z2 tE
   obtain ⟨r1,hr1⟩:∃ r1,G1 a1 o1=r1:=⟨_,rfl⟩
   obtain ⟨r2,hr2⟩:∃ r2,G2 a2 o2=r2:=⟨_,rfl⟩
   rw [hr1] at z1 lM
   rw [hr2] at z2 tE
   rw [ha1,ha2,D2,NV]
   have HQ:=aB (And.intro ha1 (And.intro ha2 (And.intro D2 (And.intro NV (And.intro hr1 hr2)))))
   clear ha1 ha2 D2 NV hr1 hr2
   have vO:¬ 9223372036854775807<(aE r1).size+(aE r2).size:=by rw [aO,aO];omega
   have fV:K0 W w1.drew:=aY.trans (Kp.drew _ _)
   go_wp2_with fail
   go_region_held3 (fun V=>(K0 W V/\V.cell? ⟨B1,0,none⟩=some (.pointer (some ⟨g1,0,none⟩))/\V.cell? ⟨B2,0,none⟩=some (.pointer (some ⟨g2,0,none⟩))/\V.cell? ⟨g1,1,none⟩=some (.func (.func N1) x1 y1)/\V.cell? ⟨g2,1,none⟩=some (.func (.func N2) x2 y2))) (go_keep) (first | (refine (aA lM _ (by assumption)).mono ?_;rintro e w2 ⟨rfl,iH⟩) | (refine (aA tE _ (by assumption)).mono ?_;rintro e w3 ⟨rfl,fX⟩))
   go_wp2
   go_ret
   obtain ⟨ha1,ha2,D2,NV,hr1,hr2⟩:=aA HQ
   exact ⟨.inl ⟨aA Hmv,aA Hm,by rw [ha1,ha2,D2,NV,hr1,hr2,cU];rfl⟩,fX.1⟩
  ·exact ⟨rfl,.inr (.inr ⟨aA Hmv,hm,rfl⟩),eE.trans GS⟩
 ·exact ⟨rfl,.inr (.inl ⟨qI,rfl⟩),eE⟩
theorem DS (W:World) (o1 o2 o3 o4 o5:Obj):∃ w5,((((W.alloc o1).alloc o2).alloc o3).alloc o4).alloc o5=w5/\w5.heap.size=W.heap.size+5/\w5.heap[W.heap.size]? = some o1/\w5.heap[W.heap.size+1]? = some o2/\w5.heap[W.heap.size+2]? = some o3/\w5.heap[W.heap.size+3]? = some o4/\w5.heap[W.heap.size+4]? = some o5/\W.grownBy w5 none:=by
 obtain ⟨w4,h4,s4,a,b,c,d,g4⟩:=oQ W o1 o2 o3 o4
 refine ⟨w4.alloc o5,by rw [h4],by simp;omega,heap_alloc_old _ a,heap_alloc_old _ b,heap_alloc_old _ c,heap_alloc_old _ d,?_,g4.trans (World.grownBy_alloc _ _ none)⟩
 have:=heap_alloc_new w4 o5
 rw [s4] at this
 exact this
theorem s7 {A B A' B':PT} (hA:∀ u,M A u↔M A' u) (hB:∀ u,M B u↔M B' u) (u:List UInt8):kE A B u↔M (.seq [A',B']) u:=by
 constructor
 ·rintro ⟨i,_,h1,h2⟩;exact aG0 ((hA _).1 h1) ((hB _).1 h2)
 ·intro h
  obtain ⟨i,h1,h2,h3⟩:=MA h
  exact ⟨i,h1,(hA _).2 h2,(hB _).2 h3⟩
theorem J2 {c:BT} (h:fH c<=800) (n:Nat) (hn:n<=1000):bd c n<=96000000:=by
 unfold bd
 exact Nat.le_trans (Nat.mul_le_mul (Nat.mul_le_mul_left 120 h) (show max 1 n<=1000 by omega)) (by decide)
theorem mO {c:BT} (h:pQ c) (hz:fH c<=800):∀ u,M (bS c) u->u.length<=1000->(dA c u).length<=1000000000:=fun u hu hl=>by
 have:=tT c h u hu
 have:=J2 hz u.length hl
 omega
theorem kN {c:BT} (h:pQ c) (hz:fH c<=800):∀ u,M (bV c) u->u.length<=1000->(bA c u).length<=1000000000:=fun u hu hl=>by
 have:=jN c h u hu
 have:=J2 hz u.length hl
 omega
theorem mK {c:BT} (h:pQ c) (hz:fH c<=800):∀ v s,M (bV c) v->M (bS c) s->v.length<=1000->s.length<=1000->(cB c v s).length<=1000000000:=fun v s hv hs hl hl'=>by
 have:=qA c h v s hv hs
 have:=J2 hz v.length hl
 omega
theorem NC {Y:Nat->Prop} {w:World} {a b:BT} (p:Nat) {A B A' B':PT} {gl gk ba bb ca cb:Nat} (hY:∀ k,Y k->k<w.heap.size) (hca:CL Y w gl a) (hcb:CL Y w gk b) (hA:bR w Y A ba) (hB:bR w Y B bb) (hA':bR w Y A' ca) (uR:bR w Y B' cb)
  (eA:∀ u,M A u↔M (bS a) u) (eB:∀ u,M B u↔M (bS b) u) (eA':∀ u,M A' u↔M (bV a) u) (eB':∀ u,M B' u↔M (bV b) u) (na:pQ a) (nb:pQ b) (za:fH a<=800) (zb:fH b<=800):
  Calls Tryz.prog 115 #[.pointer (some ⟨gl,0,none⟩),.pointer (some ⟨gk,0,none⟩),uB 1 ba bb,uB 2 ca cb] w fun e w'=>lT Y w (.two 114 p a b) e w':=by
 have XE:∀ (fn:Fn) (first cap:Array Value) (w:World),(Instr.makeFunc fn first cap).run Tryz.prog w = .ok (.func fn first cap) w:=fun _ _ _ _=>rfl
 have sS:∀ u,kE A B u↔M (bS (.two 114 p a b)) u:=fun u=>by rw [bS,if_neg (by decide)];exact s7 eA eB u
 have sV:∀ u,kE A' B' u↔M (bV (.two 114 p a b)) u:=fun u=>by rw [bV,if_neg (by decide),if_neg (by decide)];exact s7 eA' eB' u
 have xS:∀ u,aH A B u=aH (bS a) (bS b) u:=nS eA eB
 have xV:∀ u,aH A' B' u=aH (bV a) (bV b) u:=nS eA' eB'
 have HH:=aB (And.intro hY (And.intro hca (And.intro hcb (And.intro hA (And.intro hB (And.intro hA' (And.intro uR (And.intro eA (And.intro eB (And.intro eA' (And.intro eB' (And.intro na (And.intro nb (And.intro za (And.intro zb (And.intro sS (And.intro sV (And.intro xS xV))))))))))))))))))
 clear hY hca hcb hA hB hA' uR eA eB eA' eB' na nb za zb sS sV xS xV
 unfold uB
 go_enter Tryz.func115,Tryz.ntmps115
 go_wp2
 go_ret
 obtain ⟨hY,⟨f1,f2,f3,bl,yl,l1,l2,l3⟩,⟨e1,e2,e3,bk,yk,k1,k2,k3⟩,hA,hB,hA',uR,eA,eB,eA',eB',na,nb,za,zb,sS,sV,xS,xV⟩:=aA HH
 obtain ⟨w3,hw3,hs3,p0,p1,p2,p3,p4,hg3⟩:=DS w (.cells #[.pointer (some ⟨gl,0,none⟩)] 57) (.cells #[.pointer (some ⟨gk,0,none⟩)] 57) (.cells #[.int .i64 1,.pointer (some ⟨ba,0,none⟩),.pointer (some ⟨bb,0,none⟩)] 128) (.cells #[.int .i64 2,.pointer (some ⟨ca,0,none⟩),.pointer (some ⟨cb,0,none⟩)] 128) (.cells #[.func (.func 146) #[] #[.pointer (some ⟨w.heap.size+2,0,none⟩),.pointer (some ⟨w.heap.size,0,none⟩),.pointer (some ⟨w.heap.size+1,0,none⟩)],.func (.func 147) #[] #[.pointer (some ⟨w.heap.size+3,0,none⟩),.pointer (some ⟨w.heap.size+2,0,none⟩),.pointer (some ⟨w.heap.size,0,none⟩),.pointer (some ⟨w.heap.size+1,0,none⟩)],.func (.func 148) #[] #[.pointer (some ⟨w.heap.size+3,0,none⟩),.pointer (some ⟨w.heap.size,0,none⟩),.pointer (some ⟨w.heap.size+1,0,none⟩)]] 88)
 have eE:=K0.of_grownz hg3
 have hk:=eE.ky Y
 have ny:∀ k,w.heap.size<=k->¬ Y k:=fun k h hy=>by have:=hY _ hy;omega
 refine ⟨w.heap.size+4,rfl,?_,?_⟩
 ·rw [hw3]
  refine ⟨_,_,_,p4,ny _ (by omega),?_,?_,?_⟩
  ·refine ⟨_,_,_,rfl,enters_of Tryz.func146 (by kernel_rfl) rfl,fun W u hW hu=>?_⟩
   have e:(#[]:Array Value).push (.string (aE u)) ++ #[.pointer (some ⟨w.heap.size+2,0,none⟩),.pointer (some ⟨w.heap.size,0,none⟩),.pointer (some ⟨w.heap.size+1,0,none⟩)] = #[.string (aE u),.pointer (some ⟨w.heap.size+2,0,none⟩),.pointer (some ⟨w.heap.size,0,none⟩),.pointer (some ⟨w.heap.size+1,0,none⟩)]:=by simp
   rw [e]
   refine (FU (hW.heap p2 (ny _ (by omega))) (hW.heap p0 (ny _ (by omega))) (hW.heap p1 (ny _ (by omega))) ((hA.ky hk).ky hW).at_ ((hB.ky hk).ky hW).at_ (hW.heap (hk.heap bl yl) yl) (hW.heap (hk.heap bk yk) yk) ((l1.ky hk).ky hW) ((k1.ky hk).ky hW) (fun x hx=>(eA x).1 hx) (fun x hx=>(eB x).1 hx) hu (mO na za) (mO nb zb)).mono ?_
   rintro e w' ⟨hh,dS⟩
   rw [sS u,xS u] at hh
   rw [dA,if_neg (by decide),if_neg (by decide)]
   exact ⟨hh,dS⟩
  ·refine ⟨_,_,_,rfl,enters_of Tryz.func147 (by kernel_rfl) rfl,fun W v s hW hv hs=>?_⟩
   have e:(#[]:Array Value)++(#[.string (aE v),.string (aE s)] ++ #[.pointer (some ⟨w.heap.size+3,0,none⟩),.pointer (some ⟨w.heap.size+2,0,none⟩),.pointer (some ⟨w.heap.size,0,none⟩),.pointer (some ⟨w.heap.size+1,0,none⟩)]) = #[.string (aE v),.string (aE s),.pointer (some ⟨w.heap.size+3,0,none⟩),.pointer (some ⟨w.heap.size+2,0,none⟩),.pointer (some ⟨w.heap.size,0,none⟩),.pointer (some ⟨w.heap.size+1,0,none⟩)]:=by simp
   rw [e]
   refine (FT (hW.heap p3 (ny _ (by omega))) (hW.heap p2 (ny _ (by omega))) (hW.heap p0 (ny _ (by omega))) (hW.heap p1 (ny _ (by omega))) ((hA.ky hk).ky hW).at_ ((hB.ky hk).ky hW).at_ ((hA'.ky hk).ky hW).at_ ((uR.ky hk).ky hW).at_ (hW.heap (hk.heap bl yl) yl) (hW.heap (hk.heap bk yk) yk) ((l2.ky hk).ky hW) ((k2.ky hk).ky hW) (fun x hx=>(eA' x).1 hx) (fun x hx=>(eB' x).1 hx) (fun x hx=>(eA x).1 hx) (fun x hx=>(eB x).1 hx) hv hs (mK na za) (mK nb zb)).mono ?_
   rintro e w' ⟨hh,dS⟩
   rw [sS s,sV v,xS s,xV v] at hh
   rw [cB,if_neg (by decide),if_neg (by decide)]
   exact ⟨hh,dS⟩
  ·refine ⟨_,_,_,rfl,enters_of Tryz.func148 (by kernel_rfl) rfl,fun W u hW hu=>?_⟩
   have e:(#[]:Array Value).push (.string (aE u)) ++ #[.pointer (some ⟨w.heap.size+3,0,none⟩),.pointer (some ⟨w.heap.size,0,none⟩),.pointer (some ⟨w.heap.size+1,0,none⟩)] = #[.string (aE u),.pointer (some ⟨w.heap.size+3,0,none⟩),.pointer (some ⟨w.heap.size,0,none⟩),.pointer (some ⟨w.heap.size+1,0,none⟩)]:=by simp
   rw [e]
   refine (FS (hW.heap p3 (ny _ (by omega))) (hW.heap p0 (ny _ (by omega))) (hW.heap p1 (ny _ (by omega))) ((hA'.ky hk).ky hW).at_ ((uR.ky hk).ky hW).at_ (hW.heap (hk.heap bl yl) yl) (hW.heap (hk.heap bk yk) yk) ((l3.ky hk).ky hW) ((k3.ky hk).ky hW) (fun x hx=>(eA' x).1 hx) (fun x hx=>(eB' x).1 hx) hu (kN na za) (kN nb zb)).mono ?_
   rintro e w' ⟨hh,dS⟩
   rw [sV u,xV u] at hh
   rw [bA,if_neg (by decide),if_neg (by decide)]
   exact ⟨hh,dS⟩
 ·rw [hw3]
  exact eE
theorem MP {Y:Nat->Prop} {w:World} {a b:BT} (p:Nat) {A B A' B':PT} {gl gk ba bb ca cb:Nat} (hY:∀ k,Y k->k<w.heap.size) (hca:CL Y w gl a) (hcb:CL Y w gk b) (hA:bR w Y A ba) (hB:bR w Y B bb) (hA':bR w Y A' ca) (uR:bR w Y B' cb)
  (eA:∀ u,M A u↔M (bS a) u) (eB:∀ u,M B u↔M (bS b) u) (eA':∀ u,M A' u↔M (bV b) u) (eB':∀ u,M B' u↔M (bV a) u) (na:pQ a) (nb:pQ b) (za:fH a<=800) (zb:fH b<=800):
  Calls Tryz.prog 71 #[.pointer (some ⟨gl,0,none⟩),.pointer (some ⟨gk,0,none⟩),uB 1 ba bb,uB 2 ca cb] w fun e w'=>lT Y w (.two 126 p a b) e w':=by
 have XE:∀ (fn:Fn) (first cap:Array Value) (w:World),(Instr.makeFunc fn first cap).run Tryz.prog w = .ok (.func fn first cap) w:=fun _ _ _ _=>rfl
 have sS:∀ u,kE A B u↔M (bS (.two 126 p a b)) u:=fun u=>by rw [bS,if_neg (by decide)];exact s7 eA eB u
 have sV:∀ u,kE A' B' u↔M (bV (.two 126 p a b)) u:=fun u=>by rw [bV,if_neg (by decide),if_pos rfl];exact s7 eA' eB' u
 have xS:∀ u,aH A B u=aH (bS a) (bS b) u:=nS eA eB
 have xV:∀ u,aH A' B' u=aH (bV b) (bV a) u:=nS eA' eB'
 have HH:=aB (And.intro hY (And.intro hca (And.intro hcb (And.intro hA (And.intro hB (And.intro hA' (And.intro uR (And.intro eA (And.intro eB (And.intro eA' (And.intro eB' (And.intro na (And.intro nb (And.intro za (And.intro zb (And.intro sS (And.intro sV (And.intro xS xV))))))))))))))))))
 clear hY hca hcb hA hB hA' uR eA eB eA' eB' na nb za zb sS sV xS xV
 unfold uB
 go_enter Tryz.func71,Tryz.ntmps71
 go_wp2
 go_ret
 obtain ⟨hY,⟨f1,f2,f3,bl,yl,l1,l2,l3⟩,⟨e1,e2,e3,bk,yk,k1,k2,k3⟩,hA,hB,hA',uR,eA,eB,eA',eB',na,nb,za,zb,sS,sV,xS,xV⟩:=aA HH
 obtain ⟨w3,hw3,hs3,p0,p1,p2,p3,p4,hg3⟩:=DS w (.cells #[.pointer (some ⟨gl,0,none⟩)] 57) (.cells #[.pointer (some ⟨gk,0,none⟩)] 57) (.cells #[.int .i64 1,.pointer (some ⟨ba,0,none⟩),.pointer (some ⟨bb,0,none⟩)] 128) (.cells #[.int .i64 2,.pointer (some ⟨ca,0,none⟩),.pointer (some ⟨cb,0,none⟩)] 128) (.cells #[.func (.func 102) #[] #[.pointer (some ⟨w.heap.size+2,0,none⟩),.pointer (some ⟨w.heap.size+1,0,none⟩),.pointer (some ⟨w.heap.size,0,none⟩)],.func (.func 104) #[] #[.pointer (some ⟨w.heap.size+3,0,none⟩),.pointer (some ⟨w.heap.size+2,0,none⟩),.pointer (some ⟨w.heap.size,0,none⟩),.pointer (some ⟨w.heap.size+1,0,none⟩)],.func (.func 105) #[] #[.pointer (some ⟨w.heap.size+3,0,none⟩),.pointer (some ⟨w.heap.size,0,none⟩),.pointer (some ⟨w.heap.size+1,0,none⟩)]] 88)
 have eE:=K0.of_grownz hg3
 have hk:=eE.ky Y
 have ny:∀ k,w.heap.size<=k->¬ Y k:=fun k h hy=>by have:=hY _ hy;omega
 refine ⟨w.heap.size+4,rfl,?_,?_⟩
 ·rw [hw3]
  refine ⟨_,_,_,p4,ny _ (by omega),?_,?_,?_⟩
  ·refine ⟨_,_,_,rfl,enters_of Tryz.func102 (by kernel_rfl) rfl,fun W u hW hu=>?_⟩
   have e:(#[]:Array Value).push (.string (aE u)) ++ #[.pointer (some ⟨w.heap.size+2,0,none⟩),.pointer (some ⟨w.heap.size+1,0,none⟩),.pointer (some ⟨w.heap.size,0,none⟩)] = #[.string (aE u),.pointer (some ⟨w.heap.size+2,0,none⟩),.pointer (some ⟨w.heap.size+1,0,none⟩),.pointer (some ⟨w.heap.size,0,none⟩)]:=by simp
   rw [e]
   refine (EY (hW.heap p2 (ny _ (by omega))) (hW.heap p1 (ny _ (by omega))) (hW.heap p0 (ny _ (by omega))) ((hA.ky hk).ky hW).at_ ((hB.ky hk).ky hW).at_ (hW.heap (hk.heap bk yk) yk) (hW.heap (hk.heap bl yl) yl) ((k1.ky hk).ky hW) ((l1.ky hk).ky hW) (fun x hx=>(eB x).1 hx) (fun x hx=>(eA x).1 hx) hu (mO nb zb) (mO na za)).mono ?_
   rintro e w' ⟨hh,dS⟩
   rw [sS u,xS u] at hh
   rw [dA,if_neg (by decide),if_pos rfl]
   exact ⟨hh,dS⟩
  ·refine ⟨_,_,_,rfl,enters_of Tryz.func104 (by kernel_rfl) rfl,fun W v s hW hv hs=>?_⟩
   have e:(#[]:Array Value)++(#[.string (aE v),.string (aE s)] ++ #[.pointer (some ⟨w.heap.size+3,0,none⟩),.pointer (some ⟨w.heap.size+2,0,none⟩),.pointer (some ⟨w.heap.size,0,none⟩),.pointer (some ⟨w.heap.size+1,0,none⟩)]) = #[.string (aE v),.string (aE s),.pointer (some ⟨w.heap.size+3,0,none⟩),.pointer (some ⟨w.heap.size+2,0,none⟩),.pointer (some ⟨w.heap.size,0,none⟩),.pointer (some ⟨w.heap.size+1,0,none⟩)]:=by simp
   rw [e]
   refine (EX (hW.heap p3 (ny _ (by omega))) (hW.heap p2 (ny _ (by omega))) (hW.heap p0 (ny _ (by omega))) (hW.heap p1 (ny _ (by omega))) ((hA.ky hk).ky hW).at_ ((hB.ky hk).ky hW).at_ ((hA'.ky hk).ky hW).at_ ((uR.ky hk).ky hW).at_ (hW.heap (hk.heap bl yl) yl) (hW.heap (hk.heap bk yk) yk) ((l2.ky hk).ky hW) ((k2.ky hk).ky hW) (fun x hx=>(eB' x).1 hx) (fun x hx=>(eA' x).1 hx) (fun x hx=>(eA x).1 hx) (fun x hx=>(eB x).1 hx) hv hs (mK na za) (mK nb zb)).mono ?_
   rintro e w' ⟨hh,dS⟩
   rw [sS s,sV v,xS s,xV v] at hh
   rw [cB,if_neg (by decide),if_pos rfl]
   exact ⟨hh,dS⟩
  ·refine ⟨_,_,_,rfl,enters_of Tryz.func105 (by kernel_rfl) rfl,fun W u hW hu=>?_⟩
   have e:(#[]:Array Value).push (.string (aE u)) ++ #[.pointer (some ⟨w.heap.size+3,0,none⟩),.pointer (some ⟨w.heap.size,0,none⟩),.pointer (some ⟨w.heap.size+1,0,none⟩)] = #[.string (aE u),.pointer (some ⟨w.heap.size+3,0,none⟩),.pointer (some ⟨w.heap.size,0,none⟩),.pointer (some ⟨w.heap.size+1,0,none⟩)]:=by simp
   rw [e]
   refine (EW (hW.heap p3 (ny _ (by omega))) (hW.heap p0 (ny _ (by omega))) (hW.heap p1 (ny _ (by omega))) ((hA'.ky hk).ky hW).at_ ((uR.ky hk).ky hW).at_ (hW.heap (hk.heap bl yl) yl) (hW.heap (hk.heap bk yk) yk) ((l3.ky hk).ky hW) ((k3.ky hk).ky hW) (fun x hx=>(eB' x).1 hx) (fun x hx=>(eA' x).1 hx) hu (kN na za) (kN nb zb)).mono ?_
   rintro e w' ⟨hh,dS⟩
   rw [sV u,xV u] at hh
   rw [bA,if_neg (by decide),if_pos rfl]
   exact ⟨hh,dS⟩
 ·rw [hw3]
  exact eE
end Go.Proofs.YtlljggefbngkeaaGreatDoor
