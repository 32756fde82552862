import Derived.Test.YtlljggefbngkeaaGreatDoorU44
import Derived.Test.YtlljggefbngkeaaGreatDoorU26
set_option maxRecDepth 100000
set_option maxHeartbeats 6400000
namespace Go.Proofs.YtlljggefbngkeaaGreatDoor
open Go.RowKit Go.Shelf
theorem a7 {x:List UInt8}:∀ {l:List (List UInt8)},x∈l->x.length<=l.flatten.length
 | [],h=>by cases h
 | y::l,h=>by
  rw [List.flatten_cons,List.length_append]
  rcases List.mem_cons.1 h with e | h
  ·rw [e];omega
  ·have:=a7 h;omega
theorem e8:∀ {l:List (List UInt8)},(∀ x,x∈l->x≠[])->l.length<=l.flatten.length
 | [],_=>by simp
 | y::l,h=>by
  have h1:=List.length_pos_iff.2 (h y List.mem_cons_self)
  have h2:=e8 (l:=l) (fun x hx=>h x (List.mem_cons_of_mem _ hx))
  rw [List.flatten_cons,List.length_append,List.length_cons]
  omega
theorem Y5 {K:Nat}:∀ {l:List (List UInt8)},(∀ x,x∈l->x.length<=K)->l.flatten.length<=l.length*K
 | [],_=>by simp
 | y::l,h=>by
  have h1:=h y List.mem_cons_self
  have h2:=Y5 (l:=l) (fun x hx=>h x (List.mem_cons_of_mem _ hx))
  rw [List.flatten_cons,List.length_append,List.length_cons,Nat.add_mul,Nat.one_mul]
  omega
theorem p8 {A:PT} (h0:¬ M A []) {u:List UInt8} (hu:M (.rep 42 A) u) (hl:u.length<=1000):(dV A u).length<=1000/\∀ x,x∈dV A u->M A x/\x.length<=1000:=by
 obtain ⟨h1,h2⟩:=lH h0 hu
 have h3:=e8 (fun x hx=>(h1 x hx).2)
 rw [h2] at h3
 refine ⟨by omega,fun x hx=>⟨(h1 x hx).1,?_⟩⟩
 have:=a7 hx
 rw [h2] at this
 omega
theorem SQ {Y:Nat->Prop} {W:World} {A:PT} {P:List UInt8->Prop} {G:List UInt8->List UInt8} {m:Int} {ba bb Bp Bl g:Nat} {F1 F2 F3:Value} {u:List UInt8}
  (hp:W.heap[Bp]? = some (lG m ba bb)) (hl:W.heap[Bl]? = some (gQ g)) (hA:bF W A ba) (hB:bF W (.rep 42 A) bb) (h0:¬ M A []) (hb:W.heap[g]? = some (gB F1 F2 F3)) (hf:zO Y W F1 P G m) (eP:∀ x,M A x->P x) (fQ:∀ x,P x->x.length<=1000->(G x).length<=1000000000) (fF:u.length<=1000) (hu:M (.rep 42 A) u):
  Calls Tryz.prog 109 #[.string (aE u),.pointer (some ⟨Bp,0,none⟩),.pointer (some ⟨Bl,0,none⟩)] W fun e w'=>e = .returned (.string (aE ((dV A u).flatMap G)))/\K0 W w':=by
 have c0:=aC hp 0
 have c1:=aC hp 1
 have c2:=aC hp 2
 have l0:=aC hl 0
 have b0:=aC hb 0
 simp at c0 c1 c2 l0 b0
 obtain ⟨N,x,y,rfl,n1,s1⟩:=hf
 obtain ⟨few,pin⟩:=p8 h0 hu fF
 have gA:∀ V V':World,(K0 W V/\V.cell? ⟨Bp,0,none⟩=some (.int .i64 m)/\V.cell? ⟨Bp,1,none⟩=some (.pointer (some ⟨ba,0,none⟩))/\V.cell? ⟨Bp,2,none⟩=some (.pointer (some ⟨bb,0,none⟩))/\V.cell? ⟨Bl,0,none⟩=some (.pointer (some ⟨g,0,none⟩))/\V.cell? ⟨g,0,none⟩=some (.func (.func N) x y))->K0 V V'->(K0 W V'/\V'.cell? ⟨Bp,0,none⟩=some (.int .i64 m)/\V'.cell? ⟨Bp,1,none⟩=some (.pointer (some ⟨ba,0,none⟩))/\V'.cell? ⟨Bp,2,none⟩=some (.pointer (some ⟨bb,0,none⟩))/\V'.cell? ⟨Bl,0,none⟩=some (.pointer (some ⟨g,0,none⟩))/\V'.cell? ⟨g,0,none⟩=some (.func (.func N) x y)):=fun V V' h hk=>⟨h.1.trans hk,hk.cellz h.2.1,hk.cellz h.2.2.1,hk.cellz h.2.2.2.1,hk.cellz h.2.2.2.2.1,hk.cellz h.2.2.2.2.2⟩
 have HP:Hid (∀ V:World,(K0 W V/\V.cell? ⟨Bp,0,none⟩=some (.int .i64 m)/\V.cell? ⟨Bp,1,none⟩=some (.pointer (some ⟨ba,0,none⟩))/\V.cell? ⟨Bp,2,none⟩=some (.pointer (some ⟨bb,0,none⟩))/\V.cell? ⟨Bl,0,none⟩=some (.pointer (some ⟨g,0,none⟩))/\V.cell? ⟨g,0,none⟩=some (.func (.func N) x y))->Calls Tryz.prog 112 #[.agg #[.int .i64 m,.pointer (some ⟨ba,0,none⟩),.pointer (some ⟨bb,0,none⟩)],.string (aE u)] V fun e V'=>(∃ ao n cp,e = .returned (.slice ao n cp)/\V'.ownsRow 0 9 1 (.slice ao n cp) (dV A u).length (cD (dV A u)))/\(K0 W V'/\V'.cell? ⟨Bp,0,none⟩=some (.int .i64 m)/\V'.cell? ⟨Bp,1,none⟩=some (.pointer (some ⟨ba,0,none⟩))/\V'.cell? ⟨Bp,2,none⟩=some (.pointer (some ⟨bb,0,none⟩))/\V'.cell? ⟨Bl,0,none⟩=some (.pointer (some ⟨g,0,none⟩))/\V'.cell? ⟨g,0,none⟩=some (.func (.func N) x y))):=aB (fun V h=>(nD (m:=m) (hA.k0 h.1) (hB.k0 h.1) h0 hu fF).mono (fun e V' h2=>by
  obtain ⟨vv,e1,e2,e3⟩:=h2
  obtain ⟨ao,cp,rfl⟩:=aG e2
  exact ⟨⟨ao,_,cp,e1,e2⟩,gA V V' h e3⟩))
 have HE:Hid (∀ (V:World) (sl:Value),(K0 W V/\V.cell? ⟨Bp,0,none⟩=some (.int .i64 m)/\V.cell? ⟨Bp,1,none⟩=some (.pointer (some ⟨ba,0,none⟩))/\V.cell? ⟨Bp,2,none⟩=some (.pointer (some ⟨bb,0,none⟩))/\V.cell? ⟨Bl,0,none⟩=some (.pointer (some ⟨g,0,none⟩))/\V.cell? ⟨g,0,none⟩=some (.func (.func N) x y))->V.ownsRow 0 9 1 sl (dV A u).length (cD (dV A u))->Calls Tryz.prog 111 #[sl,.func (.func N) x y] V fun e V'=>(∃ ao n cp,e = .returned (.slice ao n cp)/\V'.ownsRow 0 9 1 (.slice ao n cp) ((dV A u).map G).length (cD ((dV A u).map G)))/\(K0 W V'/\V'.cell? ⟨Bp,0,none⟩=some (.int .i64 m)/\V'.cell? ⟨Bp,1,none⟩=some (.pointer (some ⟨ba,0,none⟩))/\V'.cell? ⟨Bp,2,none⟩=some (.pointer (some ⟨bb,0,none⟩))/\V'.cell? ⟨Bl,0,none⟩=some (.pointer (some ⟨g,0,none⟩))/\V'.cell? ⟨g,0,none⟩=some (.func (.func N) x y))):=aB (fun V sl h ho=>(I8 (G:=G) ho few n1 (fun V2 z hk hz=>(s1 V2 z ((h.1.trans hk).ky Y) (pin z hz).2).mono (fun e V' h2=>by
  obtain ⟨(⟨_,h3⟩ | ⟨h3,_⟩),h4⟩:=h2
  ·exact ⟨h3,h4⟩
  ·exact absurd (eP z (pin z hz).1) h3))).mono (fun e V' h2=>by
  obtain ⟨vv,e1,e2,e3⟩:=h2
  obtain ⟨ao,cp,rfl⟩:=aG e2
  exact ⟨⟨ao,_,cp,e1,e2⟩,gA V V' h e3⟩))
 have dG:((dV A u).map G).flatten.length<=1000000000000:=by
  have h1:=Y5 (K:=1000000000) (l:=(dV A u).map G) (fun z hz=>by
   obtain ⟨z',hz',rfl⟩:=List.mem_map.1 hz
   exact fQ z' (eP z' (pin z' hz').1) (pin z' hz').2)
  rw [List.length_map] at h1
  have h2:(dV A u).length*1000000000<=1000*1000000000:=Nat.mul_le_mul_right _ few
  omega
 have HJ:Hid (∀ (V:World) (sl:Value),(K0 W V/\V.cell? ⟨Bp,0,none⟩=some (.int .i64 m)/\V.cell? ⟨Bp,1,none⟩=some (.pointer (some ⟨ba,0,none⟩))/\V.cell? ⟨Bp,2,none⟩=some (.pointer (some ⟨bb,0,none⟩))/\V.cell? ⟨Bl,0,none⟩=some (.pointer (some ⟨g,0,none⟩))/\V.cell? ⟨g,0,none⟩=some (.func (.func N) x y))->V.ownsRow 0 9 1 sl ((dV A u).map G).length (cD ((dV A u).map G))->Calls Tryz.prog 110 #[sl,.string ⟨#[]⟩] V fun e V'=>e = .returned (.string (aE ((dV A u).flatMap G)))/\(K0 W V'/\V'.cell? ⟨Bp,0,none⟩=some (.int .i64 m)/\V'.cell? ⟨Bp,1,none⟩=some (.pointer (some ⟨ba,0,none⟩))/\V'.cell? ⟨Bp,2,none⟩=some (.pointer (some ⟨bb,0,none⟩))/\V'.cell? ⟨Bl,0,none⟩=some (.pointer (some ⟨g,0,none⟩))/\V'.cell? ⟨g,0,none⟩=some (.func (.func N) x y))):=aB (fun V sl h ho=>(Q5 ho (by rw [List.length_map];exact few) dG).mono (fun e V' h2=>by
  rw [List.flatMap_def]
  exact ⟨h2.1,gA V V' h h2.2⟩))
 have fV:K0 W W.drew:=Kp.drew _ _
 obtain ⟨r,hr⟩:∃ r,(dV A u).flatMap G=r:=⟨_,rfl⟩
 rw [hr] at HJ ⊢
 obtain ⟨L1,wF⟩:∃ L,dV A u=L:=⟨_,rfl⟩
 rw [wF] at HP HE HJ
 obtain ⟨L2,hL2⟩:∃ L,L1.map G=L:=⟨_,rfl⟩
 rw [hL2] at HE HJ
 clear hp hl hA hB h0 hb s1 eP fQ hu few pin gA dG hr wF hL2 n1
 go_enter Tryz.func109,Tryz.ntmps109
 go_wp2_with fail
 go_region_held3 (fun V=>(K0 W V/\V.cell? ⟨Bp,0,none⟩=some (.int .i64 m)/\V.cell? ⟨Bp,1,none⟩=some (.pointer (some ⟨ba,0,none⟩))/\V.cell? ⟨Bp,2,none⟩=some (.pointer (some ⟨bb,0,none⟩))/\V.cell? ⟨Bl,0,none⟩=some (.pointer (some ⟨g,0,none⟩))/\V.cell? ⟨g,0,none⟩=some (.func (.func N) x y))) (go_keep) (first
  | (go_at_call 112;refine (aA HP _ (by assumption)).mono ?_;rintro e w2 ⟨⟨ao,n,cp,rfl,hown2⟩,iH⟩;have HO2:=aB hown2;clear hown2)
  | (go_at_call 111;refine (aA HE _ _ (by assumption) (aA HO2)).mono ?_;rintro e w3 ⟨⟨ao3,n3,cp3,rfl,dW⟩,fX⟩;have HO3:=aB dW;clear dW)
  | (go_at_call 110;refine (aA HJ _ _ (by assumption) (aA HO3)).mono ?_;rintro e w4 ⟨rfl,mD⟩))
 go_wp2
 go_ret
 exact ⟨rfl,mD.1⟩
theorem SS {W:World} {A:PT} {m:Int} {ba bb Bp Bl g N:Nat} {x y:Array Value} {u:List UInt8}
  (hp:W.heap[Bp]? = some (lG m ba bb)) (hl:W.heap[Bl]? = some (gQ g)) (hA:bF W A ba) (hB:bF W (.rep 42 A) bb) (hg:W.cell? ⟨g,0,none⟩=some (.func (.func N) x y)) (fF:u.length<=1000) (hu:¬ M (.rep 42 A) u):
  Calls Tryz.prog 109 #[.string (aE u),.pointer (some ⟨Bp,0,none⟩),.pointer (some ⟨Bl,0,none⟩)] W fun e w'=>e = .panicked (kL m)/\K0 W w':=by
 have c0:=aC hp 0
 have c1:=aC hp 1
 have c2:=aC hp 2
 have l0:=aC hl 0
 simp at c0 c1 c2 l0
 have HP:Hid (∀ V:World,(K0 W V/\V.cell? ⟨Bp,0,none⟩=some (.int .i64 m)/\V.cell? ⟨Bp,1,none⟩=some (.pointer (some ⟨ba,0,none⟩))/\V.cell? ⟨Bp,2,none⟩=some (.pointer (some ⟨bb,0,none⟩))/\V.cell? ⟨Bl,0,none⟩=some (.pointer (some ⟨g,0,none⟩))/\V.cell? ⟨g,0,none⟩=some (.func (.func N) x y))->Calls Tryz.prog 112 #[.agg #[.int .i64 m,.pointer (some ⟨ba,0,none⟩),.pointer (some ⟨bb,0,none⟩)],.string (aE u)] V fun e V'=>e = .panicked (kL m)/\K0 W V'):=aB (fun V h=>(qC (m:=m) (hA.k0 h.1) (hB.k0 h.1) hu fF).mono (fun e V' h2=>⟨h2.1,h.1.trans h2.2⟩))
 have fV:K0 W W.drew:=Kp.drew _ _
 clear hp hl hA hB hu
 go_enter Tryz.func109,Tryz.ntmps109
 go_wp2_with fail
 refine wp_region_held_drew (S:=fun V=>(K0 W V/\V.cell? ⟨Bp,0,none⟩=some (.int .i64 m)/\V.cell? ⟨Bp,1,none⟩=some (.pointer (some ⟨ba,0,none⟩))/\V.cell? ⟨Bp,2,none⟩=some (.pointer (some ⟨bb,0,none⟩))/\V.cell? ⟨Bl,0,none⟩=some (.pointer (some ⟨g,0,none⟩))/\V.cell? ⟨g,0,none⟩=some (.func (.func N) x y))) (by kernel_rfl) ⟨fV,by simp [*],by simp [*],by simp [*],by simp [*],by simp [*]⟩ ?_
 intro hHeld
 refine wpAnyH_take (i:=0) (v := .agg #[.int .i64 m,.pointer (some ⟨ba,0,none⟩),.pointer (some ⟨bb,0,none⟩)]) rfl (by kernel_rfl) (by kernel_rfl) (by kernel_rfl) (fun _ _ _ h=>h) (Or.inl ⟨by rfl,?_⟩) hHeld ?_
 ·intro w hSw
  go_simp
 refine wpAnyH_take (i:=1) (v := .string (aE u)) rfl (by kernel_rfl) (by kernel_rfl) (by kernel_rfl) (fun _ _ _ h=>h) (Or.inl ⟨by rfl,?_⟩) hHeld ?_
 ·intro w hSw
  go_simp
 refine wpAnyH_take (i:=3) (v := .pointer (some ⟨g,0,none⟩)) rfl (by kernel_rfl) (by kernel_rfl) (by kernel_rfl) (fun _ _ _ h=>h) (Or.inl ⟨by rfl,?_⟩) hHeld ?_
 ·intro w hSw
  go_simp
 refine wpAnyH_take (i:=4) (v := .pointer (some ⟨g,0,none⟩)) rfl (by kernel_rfl) (by kernel_rfl) (by kernel_rfl) (fun _ _ _ h=>h) (Or.inl ⟨by rfl,?_⟩) hHeld ?_
 ·intro w hSw
  go_simp
 refine wpAnyH_take (i:=5) (v := .pointer (some ⟨g,0,none⟩)) rfl (by kernel_rfl) (by kernel_rfl) (by kernel_rfl) (fun _ _ _ h=>h) (Or.inl ⟨by rfl,?_⟩) hHeld ?_
 ·intro w hSw
  go_simp
 refine wpAnyH_take (i:=6) (v := .func (.func N) x y) rfl (by kernel_rfl) (by kernel_rfl) (by kernel_rfl) (fun _ _ _ h=>h) (Or.inl ⟨by rfl,?_⟩) hHeld ?_
 ·intro w hSw
  go_simp
 refine wpAnyH_ready (rs:=[2]) (by kernel_rfl) (by simp) ?_
 refine AllReadyH.cons rfl (fun K' hK=>?_) AllReadyH.nil
 go_simp
 refine (aA HP _ hHeld).mono ?_
 rintro e w2 ⟨rfl,iH⟩
 exact ⟨rfl,rfl,iH⟩
theorem SN {Y:Nat->Prop} {W:World} {A:PT} {P:List UInt8->Prop} {G:List UInt8->List UInt8} {m:Int} {ba bb Bp Bl g:Nat} {F1 F2 F3:Value} {u:List UInt8}
  (hp:W.heap[Bp]? = some (lG m ba bb)) (hl:W.heap[Bl]? = some (gQ g)) (hA:bF W A ba) (hB:bF W (.rep 42 A) bb) (h0:¬ M A []) (hb:W.heap[g]? = some (gB F1 F2 F3)) (hf:zO Y W F3 P G m) (eP:∀ x,M A x->P x) (fQ:∀ x,P x->x.length<=1000->(G x).length<=1000000000) (fF:u.length<=1000) (hu:M (.rep 42 A) u):
  Calls Tryz.prog 114 #[.string (aE u),.pointer (some ⟨Bp,0,none⟩),.pointer (some ⟨Bl,0,none⟩)] W fun e w'=>e = .returned (.string (aE ((dV A u).flatMap G)))/\K0 W w':=by
 have c0:=aC hp 0
 have c1:=aC hp 1
 have c2:=aC hp 2
 have l0:=aC hl 0
 have b0:=aC hb 2
 simp at c0 c1 c2 l0 b0
 obtain ⟨N,x,y,rfl,n1,s1⟩:=hf
 obtain ⟨few,pin⟩:=p8 h0 hu fF
 have gA:∀ V V':World,(K0 W V/\V.cell? ⟨Bp,0,none⟩=some (.int .i64 m)/\V.cell? ⟨Bp,1,none⟩=some (.pointer (some ⟨ba,0,none⟩))/\V.cell? ⟨Bp,2,none⟩=some (.pointer (some ⟨bb,0,none⟩))/\V.cell? ⟨Bl,0,none⟩=some (.pointer (some ⟨g,0,none⟩))/\V.cell? ⟨g,2,none⟩=some (.func (.func N) x y))->K0 V V'->(K0 W V'/\V'.cell? ⟨Bp,0,none⟩=some (.int .i64 m)/\V'.cell? ⟨Bp,1,none⟩=some (.pointer (some ⟨ba,0,none⟩))/\V'.cell? ⟨Bp,2,none⟩=some (.pointer (some ⟨bb,0,none⟩))/\V'.cell? ⟨Bl,0,none⟩=some (.pointer (some ⟨g,0,none⟩))/\V'.cell? ⟨g,2,none⟩=some (.func (.func N) x y)):=fun V V' h hk=>⟨h.1.trans hk,hk.cellz h.2.1,hk.cellz h.2.2.1,hk.cellz h.2.2.2.1,hk.cellz h.2.2.2.2.1,hk.cellz h.2.2.2.2.2⟩
 have HP:Hid (∀ V:World,(K0 W V/\V.cell? ⟨Bp,0,none⟩=some (.int .i64 m)/\V.cell? ⟨Bp,1,none⟩=some (.pointer (some ⟨ba,0,none⟩))/\V.cell? ⟨Bp,2,none⟩=some (.pointer (some ⟨bb,0,none⟩))/\V.cell? ⟨Bl,0,none⟩=some (.pointer (some ⟨g,0,none⟩))/\V.cell? ⟨g,2,none⟩=some (.func (.func N) x y))->Calls Tryz.prog 112 #[.agg #[.int .i64 m,.pointer (some ⟨ba,0,none⟩),.pointer (some ⟨bb,0,none⟩)],.string (aE u)] V fun e V'=>(∃ ao n cp,e = .returned (.slice ao n cp)/\V'.ownsRow 0 9 1 (.slice ao n cp) (dV A u).length (cD (dV A u)))/\(K0 W V'/\V'.cell? ⟨Bp,0,none⟩=some (.int .i64 m)/\V'.cell? ⟨Bp,1,none⟩=some (.pointer (some ⟨ba,0,none⟩))/\V'.cell? ⟨Bp,2,none⟩=some (.pointer (some ⟨bb,0,none⟩))/\V'.cell? ⟨Bl,0,none⟩=some (.pointer (some ⟨g,0,none⟩))/\V'.cell? ⟨g,2,none⟩=some (.func (.func N) x y))):=aB (fun V h=>(nD (m:=m) (hA.k0 h.1) (hB.k0 h.1) h0 hu fF).mono (fun e V' h2=>by
  obtain ⟨vv,e1,e2,e3⟩:=h2
  obtain ⟨ao,cp,rfl⟩:=aG e2
  exact ⟨⟨ao,_,cp,e1,e2⟩,gA V V' h e3⟩))
 have HE:Hid (∀ (V:World) (sl:Value),(K0 W V/\V.cell? ⟨Bp,0,none⟩=some (.int .i64 m)/\V.cell? ⟨Bp,1,none⟩=some (.pointer (some ⟨ba,0,none⟩))/\V.cell? ⟨Bp,2,none⟩=some (.pointer (some ⟨bb,0,none⟩))/\V.cell? ⟨Bl,0,none⟩=some (.pointer (some ⟨g,0,none⟩))/\V.cell? ⟨g,2,none⟩=some (.func (.func N) x y))->V.ownsRow 0 9 1 sl (dV A u).length (cD (dV A u))->Calls Tryz.prog 111 #[sl,.func (.func N) x y] V fun e V'=>(∃ ao n cp,e = .returned (.slice ao n cp)/\V'.ownsRow 0 9 1 (.slice ao n cp) ((dV A u).map G).length (cD ((dV A u).map G)))/\(K0 W V'/\V'.cell? ⟨Bp,0,none⟩=some (.int .i64 m)/\V'.cell? ⟨Bp,1,none⟩=some (.pointer (some ⟨ba,0,none⟩))/\V'.cell? ⟨Bp,2,none⟩=some (.pointer (some ⟨bb,0,none⟩))/\V'.cell? ⟨Bl,0,none⟩=some (.pointer (some ⟨g,0,none⟩))/\V'.cell? ⟨g,2,none⟩=some (.func (.func N) x y))):=aB (fun V sl h ho=>(I8 (G:=G) ho few n1 (fun V2 z hk hz=>(s1 V2 z ((h.1.trans hk).ky Y) (pin z hz).2).mono (fun e V' h2=>by
  obtain ⟨(⟨_,h3⟩ | ⟨h3,_⟩),h4⟩:=h2
  ·exact ⟨h3,h4⟩
  ·exact absurd (eP z (pin z hz).1) h3))).mono (fun e V' h2=>by
  obtain ⟨vv,e1,e2,e3⟩:=h2
  obtain ⟨ao,cp,rfl⟩:=aG e2
  exact ⟨⟨ao,_,cp,e1,e2⟩,gA V V' h e3⟩))
 have dG:((dV A u).map G).flatten.length<=1000000000000:=by
  have h1:=Y5 (K:=1000000000) (l:=(dV A u).map G) (fun z hz=>by
   obtain ⟨z',hz',rfl⟩:=List.mem_map.1 hz
   exact fQ z' (eP z' (pin z' hz').1) (pin z' hz').2)
  rw [List.length_map] at h1
  have h2:(dV A u).length*1000000000<=1000*1000000000:=Nat.mul_le_mul_right _ few
  omega
 have HJ:Hid (∀ (V:World) (sl:Value),(K0 W V/\V.cell? ⟨Bp,0,none⟩=some (.int .i64 m)/\V.cell? ⟨Bp,1,none⟩=some (.pointer (some ⟨ba,0,none⟩))/\V.cell? ⟨Bp,2,none⟩=some (.pointer (some ⟨bb,0,none⟩))/\V.cell? ⟨Bl,0,none⟩=some (.pointer (some ⟨g,0,none⟩))/\V.cell? ⟨g,2,none⟩=some (.func (.func N) x y))->V.ownsRow 0 9 1 sl ((dV A u).map G).length (cD ((dV A u).map G))->Calls Tryz.prog 110 #[sl,.string ⟨#[]⟩] V fun e V'=>e = .returned (.string (aE ((dV A u).flatMap G)))/\(K0 W V'/\V'.cell? ⟨Bp,0,none⟩=some (.int .i64 m)/\V'.cell? ⟨Bp,1,none⟩=some (.pointer (some ⟨ba,0,none⟩))/\V'.cell? ⟨Bp,2,none⟩=some (.pointer (some ⟨bb,0,none⟩))/\V'.cell? ⟨Bl,0,none⟩=some (.pointer (some ⟨g,0,none⟩))/\V'.cell? ⟨g,2,none⟩=some (.func (.func N) x y))):=aB (fun V sl h ho=>(Q5 ho (by rw [List.length_map];exact few) dG).mono (fun e V' h2=>by
  rw [List.flatMap_def]
  exact ⟨h2.1,gA V V' h h2.2⟩))
 have fV:K0 W W.drew:=Kp.drew _ _
 obtain ⟨r,hr⟩:∃ r,(dV A u).flatMap G=r:=⟨_,rfl⟩
 rw [hr] at HJ ⊢
 obtain ⟨L1,wF⟩:∃ L,dV A u=L:=⟨_,rfl⟩
 rw [wF] at HP HE HJ
 obtain ⟨L2,hL2⟩:∃ L,L1.map G=L:=⟨_,rfl⟩
 rw [hL2] at HE HJ
 clear hp hl hA hB h0 hb s1 eP fQ hu few pin gA dG hr wF hL2 n1
 go_enter Tryz.func114,Tryz.ntmps114
 go_wp2_with fail
 go_region_held3 (fun V=>(K0 W V/\V.cell? ⟨Bp,0,none⟩=some (.int .i64 m)/\V.cell? ⟨Bp,1,none⟩=some (.pointer (some ⟨ba,0,none⟩))/\V.cell? ⟨Bp,2,none⟩=some (.pointer (some ⟨bb,0,none⟩))/\V.cell? ⟨Bl,0,none⟩=some (.pointer (some ⟨g,0,none⟩))/\V.cell? ⟨g,2,none⟩=some (.func (.func N) x y))) (go_keep) (first
  | (go_at_call 112;refine (aA HP _ (by assumption)).mono ?_;rintro e w2 ⟨⟨ao,n,cp,rfl,hown2⟩,iH⟩;have HO2:=aB hown2;clear hown2)
  | (go_at_call 111;refine (aA HE _ _ (by assumption) (aA HO2)).mono ?_;rintro e w3 ⟨⟨ao3,n3,cp3,rfl,dW⟩,fX⟩;have HO3:=aB dW;clear dW)
  | (go_at_call 110;refine (aA HJ _ _ (by assumption) (aA HO3)).mono ?_;rintro e w4 ⟨rfl,mD⟩))
 go_wp2
 go_ret
 exact ⟨rfl,mD.1⟩
theorem SO {W:World} {A:PT} {m:Int} {ba bb Bp Bl g N:Nat} {x y:Array Value} {u:List UInt8}
  (hp:W.heap[Bp]? = some (lG m ba bb)) (hl:W.heap[Bl]? = some (gQ g)) (hA:bF W A ba) (hB:bF W (.rep 42 A) bb) (hg:W.cell? ⟨g,2,none⟩=some (.func (.func N) x y)) (fF:u.length<=1000) (hu:¬ M (.rep 42 A) u):
  Calls Tryz.prog 114 #[.string (aE u),.pointer (some ⟨Bp,0,none⟩),.pointer (some ⟨Bl,0,none⟩)] W fun e w'=>e = .panicked (kL m)/\K0 W w':=by
 have c0:=aC hp 0
 have c1:=aC hp 1
 have c2:=aC hp 2
 have l0:=aC hl 0
 simp at c0 c1 c2 l0
 have HP:Hid (∀ V:World,(K0 W V/\V.cell? ⟨Bp,0,none⟩=some (.int .i64 m)/\V.cell? ⟨Bp,1,none⟩=some (.pointer (some ⟨ba,0,none⟩))/\V.cell? ⟨Bp,2,none⟩=some (.pointer (some ⟨bb,0,none⟩))/\V.cell? ⟨Bl,0,none⟩=some (.pointer (some ⟨g,0,none⟩))/\V.cell? ⟨g,2,none⟩=some (.func (.func N) x y))->Calls Tryz.prog 112 #[.agg #[.int .i64 m,.pointer (some ⟨ba,0,none⟩),.pointer (some ⟨bb,0,none⟩)],.string (aE u)] V fun e V'=>e = .panicked (kL m)/\K0 W V'):=aB (fun V h=>(qC (m:=m) (hA.k0 h.1) (hB.k0 h.1) hu fF).mono (fun e V' h2=>⟨h2.1,h.1.trans h2.2⟩))
 have fV:K0 W W.drew:=Kp.drew _ _
 clear hp hl hA hB hu
 go_enter Tryz.func114,Tryz.ntmps114
 go_wp2_with fail
 refine wp_region_held_drew (S:=fun V=>(K0 W V/\V.cell? ⟨Bp,0,none⟩=some (.int .i64 m)/\V.cell? ⟨Bp,1,none⟩=some (.pointer (some ⟨ba,0,none⟩))/\V.cell? ⟨Bp,2,none⟩=some (.pointer (some ⟨bb,0,none⟩))/\V.cell? ⟨Bl,0,none⟩=some (.pointer (some ⟨g,0,none⟩))/\V.cell? ⟨g,2,none⟩=some (.func (.func N) x y))) (by kernel_rfl) ⟨fV,by simp [*],by simp [*],by simp [*],by simp [*],by simp [*]⟩ ?_
 intro hHeld
 refine wpAnyH_take (i:=0) (v := .agg #[.int .i64 m,.pointer (some ⟨ba,0,none⟩),.pointer (some ⟨bb,0,none⟩)]) rfl (by kernel_rfl) (by kernel_rfl) (by kernel_rfl) (fun _ _ _ h=>h) (Or.inl ⟨by rfl,?_⟩) hHeld ?_
 ·intro w hSw
  go_simp
 refine wpAnyH_take (i:=1) (v := .string (aE u)) rfl (by kernel_rfl) (by kernel_rfl) (by kernel_rfl) (fun _ _ _ h=>h) (Or.inl ⟨by rfl,?_⟩) hHeld ?_
 ·intro w hSw
  go_simp
 refine wpAnyH_take (i:=3) (v := .pointer (some ⟨g,0,none⟩)) rfl (by kernel_rfl) (by kernel_rfl) (by kernel_rfl) (fun _ _ _ h=>h) (Or.inl ⟨by rfl,?_⟩) hHeld ?_
 ·intro w hSw
  go_simp
 refine wpAnyH_take (i:=4) (v := .pointer (some ⟨g,0,none⟩)) rfl (by kernel_rfl) (by kernel_rfl) (by kernel_rfl) (fun _ _ _ h=>h) (Or.inl ⟨by rfl,?_⟩) hHeld ?_
 ·intro w hSw
  go_simp
 refine wpAnyH_take (i:=5) (v := .pointer (some ⟨g,2,none⟩)) rfl (by kernel_rfl) (by kernel_rfl) (by kernel_rfl) (fun _ _ _ h=>h) (Or.inl ⟨by rfl,?_⟩) hHeld ?_
 ·intro w hSw
  go_simp
 refine wpAnyH_take (i:=6) (v := .func (.func N) x y) rfl (by kernel_rfl) (by kernel_rfl) (by kernel_rfl) (fun _ _ _ h=>h) (Or.inl ⟨by rfl,?_⟩) hHeld ?_
 ·intro w hSw
  go_simp
 refine wpAnyH_ready (rs:=[2]) (by kernel_rfl) (by simp) ?_
 refine AllReadyH.cons rfl (fun K' hK=>?_) AllReadyH.nil
 go_simp
 refine (aA HP _ hHeld).mono ?_
 rintro e w2 ⟨rfl,iH⟩
 exact ⟨rfl,rfl,iH⟩
theorem P4 {w w':World} {base:Nat} {e:TypeId} {size:Nat} {v:Value} {n:Nat} {xs:List Value} (h:w.ownsRowF base e size v n xs) (hk:∀ k,k<w.heap.size->w'.heap[k]? = w.heap[k]?):w'.ownsRowF base e size v n xs:=by
 obtain ⟨h1,h2⟩:=h
 refine ⟨h1,?_⟩
 rcases h2 with h2 | ⟨g,cap,cur,fz,e1,e2,e3,e4⟩
 ·exact .inl h2
 ·exact .inr ⟨g,cap,cur,fz,e1,e2,(hk g (aD e3)).trans e3,e4⟩
theorem BH.k0 {B b:Nat} {l:List UInt8} {w w':World} (h:BH B b l w) (hk:K0 w w'):BH B b l w':=by
 rcases h with ⟨hB,v,hb,hown,hne⟩ | ⟨hB,v,hb,hown,hne⟩
 ·exact .inl ⟨hB,v,(hk.heap (aD hb)).trans hb,P4 hown (fun k h=>hk.heap h),hne⟩
 ·exact .inr ⟨hB,v,(hk.heap (aD hb)).trans hb,P4 hown (fun k h=>hk.heap h),hne⟩
theorem LQ {B b:Nat} {l:List UInt8} {w:World} (s:ByteArray) (h:BH B b l w) (hlen:l.length+s.size<=1000000000000) (R3:B<=w.heap.size):
  Calls Tryz.prog 84 #[.pointer (some ⟨b,0,none⟩),.string s] w fun e w'=>e = .returned (.tuple #[.int .i64 s.size,.nilIface])/\BH B b (l++s.data.toList) w'/\Below B w w':=by
 obtain ⟨i0,hi,hz0,hz1,hz2⟩:=info_parts Z4.infoByte
 have HC:=aB (aDE h)
 have hl:=Lib.byteCells_length l
 clear h
 go_enter Tryz.func84,Tryz.ntmps84
 go_wp2_with fail
 refine (aA HC).mono ?_
 rintro e w1 ⟨rfl,h1,hb1⟩
 obtain ⟨hB,v,gS,hown,hne⟩:=h1
 have c0:w1.cell? ⟨b,0,none⟩=some (.pointer (some ⟨b,0,none⟩)):=by rw [Lib.cell_of_heap gS];rfl
 have c1:w1.cell? ⟨b,1,none⟩=some v:=by rw [Lib.cell_of_heap gS];rfl
 have mN:=hb1.size
 clear HC
 go_wp2_with (at_builtin;refine Lib.wpList_append_own_stringF _ rfl _ _ 96 9 rfl B 5 i0 Tryz.underlying96 Tryz.underlying9 hi hz0 hz1 hz2 _ _ _ rfl hown s rfl (by unfold maxLen;omega) (by omega) (by omega) ?_)
 intro v' w2 hown' hgrow _
 have hlt:b<w1.heap.size:=aD gS
 have hb2:w2.heap[b]? = some (.cells #[.pointer (some ⟨b,0,none⟩),v] 98 (0,0)):=by
  rw [hgrow.block b hlt (fun e=>hne e.symm)]
  exact gS
 have d0:w2.cell? ⟨b,0,none⟩=some (.pointer (some ⟨b,0,none⟩)):=by rw [Lib.cell_of_heap hb2];rfl
 have d1:w2.cell? ⟨b,1,none⟩=some v:=by rw [Lib.cell_of_heap hb2];rfl
 have f1:w2.frozen? ⟨b,1,none⟩=false:=Lib.frozen_of_heap hb2 1
 obtain ⟨ao,n',cap,rfl⟩:∃ ao n' cap,v' = .slice ao n' cap:=by
  rcases hown'.2 with ⟨hv,_⟩ | ⟨g,cap,cur,fz,hv,_⟩
  ·exact ⟨_,_,_,hv⟩
  ·exact ⟨_,_,_,hv⟩
 go_wp2
 go_ret2
 refine ⟨rfl,Or.inr ?_,?_⟩
 ·have hx:=Lib.BuilderAtF.put (T:=98) (e:=5) hB hb2 (bs':=Lib.byteCells l++Lib.strCells s) (by simpa [Lib.strCells_length,hl] using hown') (by decide)
  have e:Lib.byteCells (l++s.data.toList)=Lib.byteCells l++Lib.strCells s:=by simp [Lib.byteCells,Lib.strCells]
  rw [e]
  exact hx
 ·exact (hb1.grown hgrow (Nat.le_trans R3 mN) (fun k hk=>(hown.lt k hk).1)).setCell (p:=⟨b,1,none⟩) hB _
theorem vD (f:List UInt8->List UInt8->List UInt8) (g:List UInt8->List UInt8):∀ (p q:List (List UInt8)),bT f g p q=(List.zipWith f p q).flatten++((p.drop (min p.length q.length)).map g).flatten
 | [],q=>by rw [bT];simp
 | x::p,[]=>by
  have:=vD f g p []
  rw [bT,this]
  simp
 | x::p,y::q=>by
  have:=vD f g p q
  rw [bT,this,List.zipWith_cons_cons,List.flatten_cons,List.length_cons,List.length_cons,Nat.add_min_add_right,List.drop_succ_cons,List.append_assoc]
theorem NK {W:World} {A':PT} {ca cb Bv Bs Bl:Nat} {v s:List UInt8} (hv:W.heap[Bv]? = some (lG 2 ca cb)) (hA:bF W A' ca) (hB:bF W (.rep 42 A') cb) (dB:v.length<=1000) (hn:¬ M (.rep 42 A') v):
  Calls Tryz.prog 113 #[.string (aE v),.string (aE s),.pointer (some ⟨Bv,0,none⟩),.pointer (some ⟨Bs,0,none⟩),.pointer (some ⟨Bl,0,none⟩)] W fun e w'=>e = .panicked (kL 2)/\K0 W w':=by
 have c0:=aC hv 0
 have c1:=aC hv 1
 have c2:=aC hv 2
 simp at c0 c1 c2
 have HV:=aB (qC (m:=2) hA hB hn dB)
 unfold uB at HV
 clear hv hA hB hn
 go_enter Tryz.func113,Tryz.ntmps113
 go_wp2_with fail
 refine (aA HV).mono ?_
 rintro e w1 ⟨rfl,aY⟩
 exact ⟨rfl,rfl,aY⟩
theorem NL {W:World} {A' A:PT} {ca cb ba bb Bv Bs Bl:Nat} {v s:List UInt8} (hv:W.heap[Bv]? = some (lG 2 ca cb)) (hs:W.heap[Bs]? = some (lG 1 ba bb)) (hA':bF W A' ca) (uR:bF W (.rep 42 A') cb) (hA:bF W A ba) (hB:bF W (.rep 42 A) bb) (h0:¬ M A' []) (dB:v.length<=1000) (fU:s.length<=1000) (hm:M (.rep 42 A') v) (hn:¬ M (.rep 42 A) s):
  Calls Tryz.prog 113 #[.string (aE v),.string (aE s),.pointer (some ⟨Bv,0,none⟩),.pointer (some ⟨Bs,0,none⟩),.pointer (some ⟨Bl,0,none⟩)] W fun e w'=>e = .panicked (kL 1)/\K0 W w':=by
 have c0:=aC hv 0
 have c1:=aC hv 1
 have c2:=aC hv 2
 simp at c0 c1 c2
 have HV:=aB (nD (m:=2) hA' uR h0 hm dB)
 have HS:=aB (fun (V:World) (hk:K0 W V)=>qC (m:=1) (hA.k0 hk) (hB.k0 hk) hn fU)
 unfold uB at HV HS
 have HB:=aB hs
 clear hv hs hA hB hA' uR hm hn h0
 go_enter Tryz.func113,Tryz.ntmps113
 go_wp2_with fail
 refine (aA HV).mono ?_
 rintro e w1 ⟨v1,rfl,hown1,aY⟩
 have hb1:=(aY.heap (aD (aA HB))).trans (aA HB)
 have d0:=aC hb1 0
 have d1:=aC hb1 1
 have d2:=aC hb1 2
 simp at d0 d1 d2
 clear hb1 c0 c1 c2 hown1
 go_wp2_with fail
 refine (aA HS _ aY).mono ?_
 rintro e w2 ⟨rfl,hk2⟩
 exact ⟨rfl,rfl,aY.trans hk2⟩
theorem S5 (l:List (List UInt8)) (k:Nat):(l.take k).flatten.length<=l.flatten.length:=by
 have h:(l.take k).flatten++(l.drop k).flatten=l.flatten:=by rw [← List.flatten_append,List.take_append_drop]
 rw [← h,List.length_append]
 omega
theorem S6 {l:List (List UInt8)} {k:Nat} {x:List UInt8} (h:l[k]? = some x):(l.take (k+1)).flatten=(l.take k).flatten++x:=by
 rw [List.take_add_one,h]
 simp
structure BI (w2:World) (Bb:Nat) (l:List UInt8) (V:World):Prop where
 bh:BH w2.heap.size Bb l V
 bel:K0 w2 V
theorem BI.below {w2 V V':World} {Bb:Nat} {l':List UInt8} (h:K0 w2 V) (hb:BH w2.heap.size Bb l' V') (hB:Below w2.heap.size V V'):BI w2 Bb l' V' :=
 ⟨hb,hB.os.trans h.os,hB.tape.trans h.tape,hB.output.trans h.output,Nat.le_trans h.size hB.size,fun k hk _=>(hB.block k hk).trans (h.heap hk)⟩
theorem SP {Y:Nat->Prop} {W:World} {A' A:PT} {Pv Ps:List UInt8->Prop} {G2:List UInt8->List UInt8->List UInt8} {G1:List UInt8->List UInt8} {ca cb ba bb Bv Bs Bl g:Nat} {F1 F2 F3:Value} {v s:List UInt8} (hv:W.heap[Bv]? = some (lG 2 ca cb)) (hs:W.heap[Bs]? = some (lG 1 ba bb)) (hl:W.heap[Bl]? = some (gQ g)) (hb:W.heap[g]? = some (gB F1 F2 F3)) (hA':bF W A' ca) (uR:bF W (.rep 42 A') cb) (hA:bF W A ba) (hB:bF W (.rep 42 A) bb) (h0v:¬ M A' []) (h0s:¬ M A [])
  (hf2:JR Y W F2 Pv Ps G2) (hf3:zO Y W F3 Pv G1 2) (eV:∀ x,M A' x->Pv x) (eS:∀ x,M A x->Ps x) (fQ:(bT G2 G1 (dV A' v) (dV A s)).length<=1000000000) (dB:v.length<=1000) (fU:s.length<=1000) (qI:M (.rep 42 A') v) (xI:M (.rep 42 A) s):
  Calls Tryz.prog 113 #[.string (aE v),.string (aE s),.pointer (some ⟨Bv,0,none⟩),.pointer (some ⟨Bs,0,none⟩),.pointer (some ⟨Bl,0,none⟩)] W fun e w'=>e = .returned (.string (aE (bT G2 G1 (dV A' v) (dV A s))))/\K0 W w':=by
 have c0:=aC hv 0
 have c1:=aC hv 1
 have c2:=aC hv 2
 simp at c0 c1 c2
 obtain ⟨fewv,pinv⟩:=p8 h0v qI dB
 obtain ⟨fews,pins⟩:=p8 h0s xI fU
 have HV:=aB (nD (m:=2) hA' uR h0v qI dB)
 have HS:=aB (fun (V:World) (hk:K0 W V)=>nD (m:=1) (hA.k0 hk) (hB.k0 hk) h0s xI fU)
 unfold uB at HV HS
 obtain ⟨N2,x2,y2,rfl,n2,t2⟩:=hf2
 obtain ⟨N3,x3,y3,rfl,n3,t3⟩:=hf3
 have aEB:=vD G2 G1 (dV A' v) (dV A s)
 generalize dV A' v=pv at *
 generalize dV A s=ps at *
 rw [aEB] at fQ ⊢
 clear aEB
 have H2:Hid (∀ (V:World) (p q:List UInt8),K0 W V->p∈pv->q∈ps->Calls Tryz.prog N2 (x2++(#[.string (aE p),.string (aE q)]++y2)) V fun e V'=>e = .returned (.string (aE (G2 p q)))/\K0 V V'):=aB (fun V p q hk hp hq=>(t2 V p q (hk.ky Y) (pinv p hp).2 (pins q hq).2).mono (fun e V' h=>by
  obtain ⟨(⟨_,_,h1⟩ | ⟨h1,_⟩ | ⟨_,h1,_⟩),h2⟩:=h
  ·exact ⟨h1,h2⟩
  ·exact absurd (eV p (pinv p hp).1) h1
  ·exact absurd (eS q (pins q hq).1) h1))
 have H3:Hid (∀ (V:World) (p:List UInt8),K0 W V->p∈pv->Calls Tryz.prog N3 (x3.push (.string (aE p))++y3) V fun e V'=>e = .returned (.string (aE (G1 p)))/\K0 V V'):=aB (fun V p hk hp=>(t3 V p (hk.ky Y) (pinv p hp).2).mono (fun e V' h=>by
  obtain ⟨(⟨_,h1⟩ | ⟨h1,_⟩),h2⟩:=h
  ·exact ⟨h1,h2⟩
  ·exact absurd (eV p (pinv p hp).1) h1))
 have HB:=aB (And.intro hs (And.intro hl hb))
 have HD:=aB fQ
 clear hv hs hl hb hA hB hA' uR h0v h0s qI xI t2 t3 eV eS pinv pins fQ
 unfold wG at n2 n3
 go_enter Tryz.func113,Tryz.ntmps113
 go_wp2_with fail
 refine (aA HV).mono ?_
 rintro e w1 ⟨v1,rfl,hown1,aY⟩
 obtain ⟨ao,cp,rfl⟩:=aG hown1
 have hb1:=(aY.heap (aD (aA HB).1)).trans (aA HB).1
 have d0:=aC hb1 0
 have d1:=aC hb1 1
 have d2:=aC hb1 2
 simp at d0 d1 d2
 have HO1:=aB hown1
 clear hb1 c0 c1 c2 hown1 HV
 go_wp2_with fail
 refine (aA HS _ aY).mono ?_
 rintro e w2 ⟨v2,rfl,hown2,hk2⟩
 obtain ⟨as_,cs,rfl⟩:=aG hown2
 have hown1:=aI (aA HO1) (fun j e=>hk2.heap (aJ (aA HO1) j e))
 have HO:=aB (And.intro hown1 hown2)
 have dZ:=aY.trans hk2
 clear d0 d1 d2 hown1 hown2 HO1 HS
 have hwB:BI w2 w2.heap.size [] (w2.alloc (.cells #[.pointer none,.slice none 0 0] 98)):=⟨Or.inl ⟨Nat.le_refl _,.slice none 0 0,heap_alloc_new w2 _,⟨by simp [Lib.byteCells],Or.inl ⟨rfl,by simp [Lib.byteCells]⟩⟩,by simp [Value.ownBlock]⟩,Kp.alloc _ _ _⟩
 have AM:=aB hwB
 clear hwB
 go_wp2_with fail
 obtain ⟨w3,hw3⟩:∃ w3,w2.alloc (.cells #[.pointer none,.slice none 0 0] 98 (0,0))=w3:=⟨_,rfl⟩
 rw [hw3] at AM ⊢
 clear hw3
 obtain ⟨mm,hmm⟩:∃ mm:Nat,mm=min pv.length ps.length:=⟨_,rfl⟩
 have hmi:min (pv.length:Int) (ps.length:Int)=(mm:Int):=by omega
 rw [hmi]
 have qI:mm<=pv.length:=by omega
 have xI:mm<=ps.length:=by omega
 have HMM:=aB hmm
 have hz1:(List.zipWith G2 pv ps).length=mm:=by rw [List.length_zipWith,hmm]
 have HZ:=aB hz1
 clear hmm hmi hz1
 go_loopg [27] (mm+2) (fun gk v27 wv=>∃ (k:Nat),v27 = .int .i64 (k:Int)/\k<=mm/\mm-k<gk/\BI w2 w2.heap.size (((List.zipWith G2 pv ps).take k).flatten) wv)
 case atStart=>exact ⟨0,rfl,Nat.zero_le _,by omega,by simpa using aA AM⟩
 case round=>
  obtain ⟨k,rfl,hk,fW,hI⟩:=hrel
  by_cases hlt:k<mm
  ·have hd:(k:Int)<(mm:Int):=by omega
   obtain ⟨hown1,hown2⟩:=aA HO
   obtain ⟨vb,cap,fM,_,aEF⟩:=hown1.form (by omega)
   injection fM with hao _ nY
   subst hao
   subst nY
   obtain ⟨sb,cap2,hseq,_,aGU⟩:=hown2.form (by omega)
   injection hseq with aHK _ aHG
   subst aHK
   subst aHG
   obtain ⟨p,hp⟩:∃ p,pv[k]? = some p:=⟨_,List.getElem?_eq_getElem (by omega)⟩
   obtain ⟨q,hq⟩:∃ q,ps[k]? = some q:=⟨_,List.getElem?_eq_getElem (by omega)⟩
   have hdv:(k:Int)<(pv.length:Int):=by omega
   have hds:(k:Int)<(ps.length:Int):=by omega
   have a1:w2.cell? ⟨vb,k,none⟩=some (.string (aE p)):=by
    rw [hown1.cellAt k (by omega)]
    simp [cD,hp]
   have a2:w2.cell? ⟨sb,k,none⟩=some (.string (aE q)):=by
    rw [hown2.cellAt k (by omega)]
    simp [cD,hq]
   have a3:w2.cell? ⟨Bl,0,none⟩=some (.pointer (some ⟨g,0,none⟩)):=by
    rw [aC ((dZ.heap (aD (aA HB).2.1)).trans (aA HB).2.1) 0];rfl
   have a4:w2.cell? ⟨g,1,none⟩=some (.func (.func N2) x2 y2):=by
    rw [aC ((dZ.heap (aD (aA HB).2.2)).trans (aA HB).2.2) 1];rfl
   have gA:∀ V:World,K0 w2 V->(K0 w2 V/\V.cell? ⟨Bl,0,none⟩=some (.pointer (some ⟨g,0,none⟩))/\V.cell? ⟨g,1,none⟩=some (.func (.func N2) x2 y2)/\V.cell? ⟨vb,k,none⟩=some (.string (aE p))/\V.cell? ⟨sb,k,none⟩=some (.string (aE q))):=fun V hk=>⟨hk,hk.cellz a3,hk.cellz a4,hk.cellz a1,hk.cellz a2⟩
   have hr:(List.zipWith G2 pv ps)[k]? = some (G2 p q):=by rw [List.getElem?_zipWith,hp,hq]
   have TP:=S6 hr
   have c9:((List.zipWith G2 pv ps).take k).flatten.length+(G2 p q).length<=1000000000:=by
    have h1:=S5 (List.zipWith G2 pv ps) (k+1)
    have h2:=aA HD
    rw [TP,List.length_append] at h1
    rw [List.length_append] at h2
    omega
   have lM:Hid (∀ V:World,(K0 w2 V/\V.cell? ⟨Bl,0,none⟩=some (.pointer (some ⟨g,0,none⟩))/\V.cell? ⟨g,1,none⟩=some (.func (.func N2) x2 y2)/\V.cell? ⟨vb,k,none⟩=some (.string (aE p))/\V.cell? ⟨sb,k,none⟩=some (.string (aE q)))->Calls Tryz.prog N2 (x2++(#[.string (aE p),.string (aE q)]++y2)) V fun e V'=>e = .returned (.string (aE (G2 p q)))/\K0 V V'/\(K0 w2 V'/\V'.cell? ⟨Bl,0,none⟩=some (.pointer (some ⟨g,0,none⟩))/\V'.cell? ⟨g,1,none⟩=some (.func (.func N2) x2 y2)/\V'.cell? ⟨vb,k,none⟩=some (.string (aE p))/\V'.cell? ⟨sb,k,none⟩=some (.string (aE q)))):=aB (fun V h=>(aA H2 V p q (dZ.trans h.1) (List.mem_of_getElem? hp) (List.mem_of_getElem? hq)).mono (fun e V' h2=>⟨h2.1,h2.2,gA V' (h.1.trans h2.2)⟩))
   have HWS:Hid (∀ V:World,(K0 w2 V/\V.cell? ⟨Bl,0,none⟩=some (.pointer (some ⟨g,0,none⟩))/\V.cell? ⟨g,1,none⟩=some (.func (.func N2) x2 y2)/\V.cell? ⟨vb,k,none⟩=some (.string (aE p))/\V.cell? ⟨sb,k,none⟩=some (.string (aE q)))->BH w2.heap.size w2.heap.size (((List.zipWith G2 pv ps).take k).flatten) V->Calls Tryz.prog 84 #[.pointer (some ⟨w2.heap.size,0,none⟩),.string (aE (G2 p q))] V fun e V'=>(∃ n,e = .returned (.tuple #[.int .i64 n,.nilIface]))/\BI w2 w2.heap.size (((List.zipWith G2 pv ps).take (k+1)).flatten) V'/\(K0 w2 V'/\V'.cell? ⟨Bl,0,none⟩=some (.pointer (some ⟨g,0,none⟩))/\V'.cell? ⟨g,1,none⟩=some (.func (.func N2) x2 y2)/\V'.cell? ⟨vb,k,none⟩=some (.string (aE p))/\V'.cell? ⟨sb,k,none⟩=some (.string (aE q)))):=aB (fun V h hb=>(LQ (aE (G2 p q)) hb (by rw [aO];omega) h.1.size).mono (fun e V' h2=>by
    obtain ⟨h3,h4,h5⟩:=h2
    have e1:(aE (G2 p q)).data.toList=G2 p q:=by simp [aE]
    rw [e1,← TP] at h4
    have hBI:=BI.below h.1 h4 h5
    exact ⟨⟨_,h3⟩,hBI,gA V' hBI.bel⟩))
   have x1:=(gA wr hI.bel).2.1
   have x2':=(gA wr hI.bel).2.2.1
   have x3':=(gA wr hI.bel).2.2.2.1
   have x4':=(gA wr hI.bel).2.2.2.2
   have fV:K0 w2 wr.drew:=hI.bel.trans (Kp.drew _ _)
   have HI:=aB hI
   obtain ⟨r,hr9⟩:∃ r,G2 p q=r:=⟨_,rfl⟩
   rw [hr9] at lM HWS
   clear hI hown1 hown2 hp hq a1 a2 a3 a4 gA hr TP c9 hr9 AM
   go_wp2_with fail
   go_region_held3 (fun V=>(K0 w2 V/\V.cell? ⟨Bl,0,none⟩=some (.pointer (some ⟨g,0,none⟩))/\V.cell? ⟨g,1,none⟩=some (.func (.func N2) x2 y2)/\V.cell? ⟨vb,k,none⟩=some (.string (aE p))/\V.cell? ⟨sb,k,none⟩=some (.string (aE q)))) (go_keep) (first
    | (go_at_call 84;refine (aA HWS _ (by assumption) (aA HB4)).mono ?_;rintro e w5 ⟨⟨n5,rfl⟩,UR,UH⟩)
    | (refine (aA lM _ (by assumption)).mono ?_;rintro e w4 ⟨rfl,hk4,mD⟩;have HB4:=aB (((aA HI).bh.k0 (Kp.drew _ _)).k0 hk4)))
   have H5:=aB UR
   clear UR UH mD hk4
   go_wp2_with fail
   go_roundg (gk-1)
   case measure=>omega
   case rel=>exact ⟨k+1,by simp,by omega,by omega,aA H5⟩
  ·have hd:¬ (k:Int)<(mm:Int):=by omega
   obtain rfl:k=mm:=by omega
   rw [List.take_of_length_le (by rw [aA HZ];exact Nat.le_refl _)] at hI
   have HI:=aB hI
   clear hI AM
   obtain ⟨hown1,hown2⟩:=aA HO
   rcases hown1.2 with ⟨h',h''⟩ | ⟨vb,cap,cur,h',_,aHE,hnc,hcm,_,_⟩
   ·injection h' with e1 e2 e3
    subst e1 e3
    obtain rfl:pv=[]:=List.eq_nil_of_length_eq_zero h''
    obtain rfl:k=0:=by simp at qI;exact qI
    clear hown1 hown2 h''
    simp only [List.length_nil,Int.natCast_zero] at *
    go_wp2_with fail
    refine wp_loop_rounds 1 ?_
    rw [rounds_succ]
    go_wp2_with fail
    refine (Z3 (aA HI).bh (aA HI).bel.size).mono ?_
    rintro e w5 ⟨rfl,rB⟩
    go_wp2
    go_ret
    refine ⟨by simp,dZ.trans ?_⟩
    have nN:=(aA HI).bel
    exact ⟨rB.os.trans nN.os,rB.tape.trans nN.tape,rB.output.trans nN.output,Nat.le_trans nN.size rB.size,fun j hj _=>(rB.block j hj).trans (nN.heap hj)⟩
   ·injection h' with e1 e2 e3
    subst e1 e3
    unfold maxLen at hcm
    have i1:(0:Int)<=(k:Int):=by omega
    have i2:(k:Int)<=(pv.length:Int):=by omega
    have i3:(pv.length:Int)<=(cp:Int):=by omega
    have HC:=aB hown1
    clear hown1 hown2 aHE
    by_cases hck:cp=k
    ·have C7:pv.length=k:=by omega
     have Hpk:=aB C7
     subst hck
     rw [C7] at HC ⊢
     clear C7
     have xG:cp-cp=0:=by omega
     go_wp2_with fail
     refine wp_loop_rounds 1 ?_
     rw [rounds_succ]
     go_wp2_with fail
     refine (Z3 (aA HI).bh (aA HI).bel.size).mono ?_
     rintro e w5 ⟨rfl,rB⟩
     go_wp2
     go_ret
     rw [← aA HMM,List.drop_of_length_le (by rw [aA Hpk];exact Nat.le_refl _),List.map_nil,List.flatten_nil,List.append_nil]
     refine ⟨rfl,dZ.trans ?_⟩
     have nN:=(aA HI).bel
     exact ⟨rB.os.trans nN.os,rB.tape.trans nN.tape,rB.output.trans nN.output,Nat.le_trans nN.size rB.size,fun j hj _=>(rB.block j hj).trans (nN.heap hj)⟩
    ·have aIZ:¬ (cp-k=0):=by omega
     go_wp2_with fail
     obtain ⟨nz,hnz⟩:∃ nz,pv.length-k=nz:=⟨_,rfl⟩
     rw [hnz]
     rename World=>wo
     have aII:nz<=1000:=by omega
     have Hnz:=aB hnz
     clear hnz
     go_loopg [49] (nz+2) (fun gk v49 wv=>∃ (j:Nat),v49 = .int .i64 (j:Int)/\j<=nz/\nz-j<gk/\BI w2 w2.heap.size ((List.zipWith G2 pv ps).flatten++(((pv.drop k).map G1).take j).flatten) wv)
     case atStart=>exact ⟨0,rfl,Nat.zero_le _,by omega,by simpa using aA HI⟩
     case round=>
      obtain ⟨j,rfl,hj,fW,hI⟩:=hrel
      have hnz:=aA Hnz
      by_cases hjt:j<nz
      ·have XP:(j:Int)<(nz:Int):=by omega
       obtain ⟨p,hp⟩:∃ p,pv[k+j]? = some p:=⟨_,List.getElem?_eq_getElem (by omega)⟩
       have a1:w2.cell? ⟨vb,k+j,none⟩=some (.string (aE p)):=by
        rw [(aA HC).cellAt (k+j) (by omega)]
        simp [cD,hp]
       have a3:w2.cell? ⟨Bl,0,none⟩=some (.pointer (some ⟨g,0,none⟩)):=by
        rw [aC ((dZ.heap (aD (aA HB).2.1)).trans (aA HB).2.1) 0];rfl
       have a4:w2.cell? ⟨g,2,none⟩=some (.func (.func N3) x3 y3):=by
        rw [aC ((dZ.heap (aD (aA HB).2.2)).trans (aA HB).2.2) 2];rfl
       have x1:=hI.bel.cellz a1
       have x3':=hI.bel.cellz a3
       have x4':=hI.bel.cellz a4
       have hr:((pv.drop k).map G1)[j]? = some (G1 p):=by rw [List.getElem?_map,List.getElem?_drop,hp];rfl
       have TP:=S6 hr
       have c9:((List.zipWith G2 pv ps).flatten++(((pv.drop k).map G1).take j).flatten).length+(G1 p).length<=1000000000:=by
        have h1:=S5 ((pv.drop k).map G1) (j+1)
        have h2:=aA HD
        rw [← aA HMM,List.length_append] at h2
        rw [TP,List.length_append] at h1
        rw [List.length_append]
        omega
       have lM:=aB (aA H3 wr p (dZ.trans hI.bel) (List.mem_of_getElem? hp))
       have HWS:Hid (∀ V:World,K0 wr V->Calls Tryz.prog 84 #[.pointer (some ⟨w2.heap.size,0,none⟩),.string (aE (G1 p))] V fun e V'=>(∃ n,e = .returned (.tuple #[.int .i64 n,.nilIface]))/\BI w2 w2.heap.size ((List.zipWith G2 pv ps).flatten++(((pv.drop k).map G1).take (j+1)).flatten) V'):=aB (fun V h=>(LQ (aE (G1 p)) (hI.bh.k0 h) (by rw [aO];omega) (hI.bel.trans h).size).mono (fun e V' h2=>by
        obtain ⟨h3,h4,h5⟩:=h2
        have e1:(aE (G1 p)).data.toList=G1 p:=by simp [aE]
        rw [e1,List.append_assoc,← TP] at h4
        exact ⟨⟨_,h3⟩,BI.below (hI.bel.trans h) h4 h5⟩))
       obtain ⟨r,hr9⟩:∃ r,G1 p=r:=⟨_,rfl⟩
       rw [hr9] at lM HWS
       clear hI hp a1 a3 a4 hr TP c9 hr9 hnz
       go_wp2_with fail
       refine (aA lM).mono ?_
       rintro e w4 ⟨rfl,hk4⟩
       go_wp2_with fail
       refine (aA HWS _ hk4).mono ?_
       rintro e w5 ⟨⟨n5,rfl⟩,UR⟩
       have H5:=aB UR
       clear UR hk4
       go_wp2_with fail
       go_roundg (gk-1)
       case measure=>omega
       case rel=>exact ⟨j+1,by go_num,by omega,by omega,aA H5⟩
      ·have XP:¬ (j:Int)<(nz:Int):=by omega
       obtain rfl:j=nz:=by omega
       rw [List.take_of_length_le (by rw [List.length_map,List.length_drop];omega)] at hI
       have eZ:=aB hI
       clear hI hnz
       go_wp2_with fail
       refine (Z3 (aA eZ).bh (aA eZ).bel.size).mono ?_
       rintro e w5 ⟨rfl,rB⟩
       go_wp2
       go_ret
       rw [← aA HMM,List.map_drop]
       refine ⟨rfl,dZ.trans ?_⟩
       have nN:=(aA eZ).bel
       exact ⟨rB.os.trans nN.os,rB.tape.trans nN.tape,rB.output.trans nN.output,Nat.le_trans nN.size rB.size,fun j hj _=>(rB.block j hj).trans (nN.heap hj)⟩
theorem NJ {Y:Nat->Prop} {w:World} {a:BT} (p:Nat) {A A':PT} {gl ba bb ca cb:Nat} (hY:∀ k,Y k->k<w.heap.size) (hca:CL Y w gl a) (hA:bR w Y A ba) (hB:bR w Y (.rep 42 A) bb) (hA':bR w Y A' ca) (uR:bR w Y (.rep 42 A') cb)
  (eA:∀ u,M A u↔M (bS a) u) (eA':∀ u,M A' u↔M (bV a) u) (na:pQ (.star p a)) (za:fH (.star p a)<=800):
  Calls Tryz.prog 73 #[.pointer (some ⟨gl,0,none⟩),uB 1 ba bb,uB 2 ca cb] w fun e w'=>lT Y w (.star p a) e w':=by
 have XE:∀ (fn:Fn) (first cap:Array Value) (w:World),(Instr.makeFunc fn first cap).run Tryz.prog w = .ok (.func fn first cap) w:=fun _ _ _ _=>rfl
 have HH:=aB (And.intro hY (And.intro hca (And.intro hA (And.intro hB (And.intro hA' (And.intro uR (And.intro eA (And.intro eA' (And.intro na za)))))))))
 clear hY hca hA hB hA' uR eA eA' na za
 unfold uB
 go_enter Tryz.func73,Tryz.ntmps73
 go_wp2
 go_ret
 obtain ⟨hY,⟨f1,f2,f3,bl,yl,l1,l2,l3⟩,hA,hB,hA',uR,eA,eA',na,za⟩:=aA HH
 have na0:=na
 obtain ⟨z1,z2,na⟩:=na
 have za1:fH a<=800:=by rw [fH] at za;omega
 have h0s:¬ M A []:=fun h=>z1 ((eA _).1 h)
 have h0v:¬ M A' []:=fun h=>z2 ((eA' _).1 h)
 have rS:∀ u,M (.rep 42 A) u↔M (bS (.star p a)) u:=fun u=>by rw [bS];exact p6 eA u
 have rV:∀ u,M (.rep 42 A') u↔M (bV (.star p a)) u:=fun u=>by rw [bV];exact p6 eA' u
 have xS:∀ u,dV A u=dV (bS a) u:=O9 eA
 have xV:∀ u,dV A' u=dV (bV a) u:=O9 eA'
 obtain ⟨w3,hw3,hs3,p0,p1,p2,p3,hg3⟩:=oQ w (.cells #[.pointer (some ⟨gl,0,none⟩)] 57) (.cells #[.int .i64 1,.pointer (some ⟨ba,0,none⟩),.pointer (some ⟨bb,0,none⟩)] 128) (.cells #[.int .i64 2,.pointer (some ⟨ca,0,none⟩),.pointer (some ⟨cb,0,none⟩)] 128) (.cells #[.func (.func 109) #[] #[.pointer (some ⟨w.heap.size+1,0,none⟩),.pointer (some ⟨w.heap.size,0,none⟩)],.func (.func 113) #[] #[.pointer (some ⟨w.heap.size+2,0,none⟩),.pointer (some ⟨w.heap.size+1,0,none⟩),.pointer (some ⟨w.heap.size,0,none⟩)],.func (.func 114) #[] #[.pointer (some ⟨w.heap.size+2,0,none⟩),.pointer (some ⟨w.heap.size,0,none⟩)]] 88)
 have eE:=K0.of_grownz hg3
 have hk:=eE.ky Y
 have ny:∀ k,w.heap.size<=k->¬ Y k:=fun k h hy=>by have:=hY _ hy;omega
 refine ⟨w.heap.size+3,rfl,?_,?_⟩
 ·rw [hw3]
  refine ⟨_,_,_,p3,ny _ (by omega),?_,?_,?_⟩
  ·refine ⟨_,_,_,rfl,enters_of Tryz.func109 (by kernel_rfl) rfl,fun W u hW hu=>?_⟩
   have e:(#[]:Array Value).push (.string (aE u)) ++ #[.pointer (some ⟨w.heap.size+1,0,none⟩),.pointer (some ⟨w.heap.size,0,none⟩)] = #[.string (aE u),.pointer (some ⟨w.heap.size+1,0,none⟩),.pointer (some ⟨w.heap.size,0,none⟩)]:=by simp
   rw [e]
   rcases Classical.em (M (.rep 42 A) u) with hm | hm
   ·refine (SQ (hW.heap p1 (ny _ (by omega))) (hW.heap p0 (ny _ (by omega))) ((hA.ky hk).ky hW).at_ ((hB.ky hk).ky hW).at_ h0s (hW.heap (hk.heap bl yl) yl) ((l1.ky hk).ky hW) (fun x hx=>(eA x).1 hx) (mO na za1) hu hm).mono ?_
    rintro e w' ⟨rfl,dS⟩
    exact ⟨.inl ⟨(rS u).1 hm,by rw [dA,xS]⟩,dS⟩
   ·obtain ⟨N,x,y,rfl,_,_⟩:=l1
    refine (SS (hW.heap p1 (ny _ (by omega))) (hW.heap p0 (ny _ (by omega))) ((hA.ky hk).ky hW).at_ ((hB.ky hk).ky hW).at_ (N:=N) (x:=x) (y:=y) (by rw [aC (hW.heap (hk.heap bl yl) yl) 0];rfl) hu hm).mono ?_
    rintro e w' ⟨rfl,dS⟩
    exact ⟨.inr ⟨fun h=>hm ((rS u).2 h),rfl⟩,dS⟩
  ·refine ⟨_,_,_,rfl,enters_of Tryz.func113 (by kernel_rfl) rfl,fun W v s hW hv hs=>?_⟩
   have e:(#[]:Array Value)++(#[.string (aE v),.string (aE s)] ++ #[.pointer (some ⟨w.heap.size+2,0,none⟩),.pointer (some ⟨w.heap.size+1,0,none⟩),.pointer (some ⟨w.heap.size,0,none⟩)]) = #[.string (aE v),.string (aE s),.pointer (some ⟨w.heap.size+2,0,none⟩),.pointer (some ⟨w.heap.size+1,0,none⟩),.pointer (some ⟨w.heap.size,0,none⟩)]:=by simp
   rw [e]
   rcases Classical.em (M (.rep 42 A') v) with hm | hm
   ·rcases Classical.em (M (.rep 42 A) s) with hn | hn
    ·have hb:=mK na0 za v s ((rV v).1 hm) ((rS s).1 hn) hv hs
     rw [cB,← xS,← xV] at hb
     refine (SP (hW.heap p2 (ny _ (by omega))) (hW.heap p1 (ny _ (by omega))) (hW.heap p0 (ny _ (by omega))) (hW.heap (hk.heap bl yl) yl) ((hA'.ky hk).ky hW).at_ ((uR.ky hk).ky hW).at_ ((hA.ky hk).ky hW).at_ ((hB.ky hk).ky hW).at_ h0v h0s ((l2.ky hk).ky hW) ((l3.ky hk).ky hW) (fun x hx=>(eA' x).1 hx) (fun x hx=>(eA x).1 hx) hb hv hs hm hn).mono ?_
     rintro e w' ⟨rfl,dS⟩
     exact ⟨.inl ⟨(rV v).1 hm,(rS s).1 hn,by rw [cB,xS,xV]⟩,dS⟩
    ·refine (NL (hW.heap p2 (ny _ (by omega))) (hW.heap p1 (ny _ (by omega))) ((hA'.ky hk).ky hW).at_ ((uR.ky hk).ky hW).at_ ((hA.ky hk).ky hW).at_ ((hB.ky hk).ky hW).at_ h0v hv hs hm hn).mono ?_
     rintro e w' ⟨rfl,dS⟩
     exact ⟨.inr (.inr ⟨(rV v).1 hm,fun h=>hn ((rS s).2 h),rfl⟩),dS⟩
   ·refine (NK (hW.heap p2 (ny _ (by omega))) ((hA'.ky hk).ky hW).at_ ((uR.ky hk).ky hW).at_ hv hm).mono ?_
    rintro e w' ⟨rfl,dS⟩
    exact ⟨.inr (.inl ⟨fun h=>hm ((rV v).2 h),rfl⟩),dS⟩
  ·refine ⟨_,_,_,rfl,enters_of Tryz.func114 (by kernel_rfl) rfl,fun W u hW hu=>?_⟩
   have e:(#[]:Array Value).push (.string (aE u)) ++ #[.pointer (some ⟨w.heap.size+2,0,none⟩),.pointer (some ⟨w.heap.size,0,none⟩)] = #[.string (aE u),.pointer (some ⟨w.heap.size+2,0,none⟩),.pointer (some ⟨w.heap.size,0,none⟩)]:=by simp
   rw [e]
   rcases Classical.em (M (.rep 42 A') u) with hm | hm
   ·refine (SN (hW.heap p2 (ny _ (by omega))) (hW.heap p0 (ny _ (by omega))) ((hA'.ky hk).ky hW).at_ ((uR.ky hk).ky hW).at_ h0v (hW.heap (hk.heap bl yl) yl) ((l3.ky hk).ky hW) (fun x hx=>(eA' x).1 hx) (kN na za1) hu hm).mono ?_
    rintro e w' ⟨rfl,dS⟩
    exact ⟨.inl ⟨(rV u).1 hm,by rw [bA,xV]⟩,dS⟩
   ·obtain ⟨N,x,y,rfl,_,_⟩:=l3
    refine (SO (hW.heap p2 (ny _ (by omega))) (hW.heap p0 (ny _ (by omega))) ((hA'.ky hk).ky hW).at_ ((uR.ky hk).ky hW).at_ (N:=N) (x:=x) (y:=y) (by rw [aC (hW.heap (hk.heap bl yl) yl) 2];rfl) hu hm).mono ?_
    rintro e w' ⟨rfl,dS⟩
    exact ⟨.inr ⟨fun h=>hm ((rV u).2 h),rfl⟩,dS⟩
 ·rw [hw3]
  exact eE
end Go.Proofs.YtlljggefbngkeaaGreatDoor
