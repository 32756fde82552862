import Derived.Test.YtlljggefbngkeaaGreatDoorU46
import Derived.Test.YtlljggefbngkeaaGreatDoorU49
import Derived.Test.YtlljggefbngkeaaGreatDoorU48
import Derived.Test.YtlljggefbngkeaaGreatDoorU25
import Derived.Test.YtlljggefbngkeaaGreatDoorU38
import Derived.Test.YtlljggefbngkeaaGreatDoorU47
import Derived.Test.YtlljggefbngkeaaGreatDoorU17
set_option maxRecDepth 100000
set_option maxHeartbeats 3200000
namespace Go.Proofs.YtlljggefbngkeaaGreatDoor
open Go.RowKit Go.Shelf
theorem SX {Y:Nat->Prop} {W:World} {P:List UInt8->Prop} {G:List UInt8->List UInt8} {m:Int} {Bl Bs b:Nat} {F1 F2 F3:Value} {u:List UInt8} (hl:W.heap[Bl]? = some (gQ b)) (hs:W.heap[Bs]? = some (.cells #[.string (aE u)] 9 (0,0))) (hb:W.heap[b]? = some (gB F1 F2 F3)) (hf:zO Y W F3 P G m) (hu:u.length<=1000) (hP:P u):
  Calls Tryz.prog 51 #[.pointer (some ⟨Bl,0,none⟩),.pointer (some ⟨Bs,0,none⟩)] W fun e w'=>e = .returned (.string (aE (G u)))/\K0 W w':=by
 have c0:=aC hl 0
 have c1:=aC hs 0
 have c2:=aC hb 2
 simp at c0 c1 c2
 obtain ⟨N,x,y,rfl,n1,s1⟩:=hf
 have HF:Hid (∀ V:World,(K0 W V/\V.cell? ⟨Bl,0,none⟩=some (.pointer (some ⟨b,0,none⟩))/\V.cell? ⟨Bs,0,none⟩=some (.string (aE u))/\V.cell? ⟨b,2,none⟩=some (.func (.func N) x y))->Calls Tryz.prog N (x.push (.string (aE u))++y) V fun e V'=>e = .returned (.string (aE (G u)))/\(K0 W V'/\V'.cell? ⟨Bl,0,none⟩=some (.pointer (some ⟨b,0,none⟩))/\V'.cell? ⟨Bs,0,none⟩=some (.string (aE u))/\V'.cell? ⟨b,2,none⟩=some (.func (.func N) x y))):=aB (fun V h=>(s1 V u (h.1.ky Y) hu).mono (fun e V' h2=>by
  obtain ⟨(⟨_,h3⟩ | ⟨h3,_⟩),hk⟩:=h2
  ·exact ⟨h3,h.1.trans hk,hk.cellz h.2.1,hk.cellz h.2.2.1,hk.cellz h.2.2.2⟩
  ·exact absurd hP h3))
 obtain ⟨r,hr⟩:∃ r,G u=r:=⟨_,rfl⟩
 rw [hr] at HF ⊢
 have fV:K0 W W.drew:=Kp.drew _ _
 clear hl hs hb s1 hr hP
 unfold wG at n1
 go_enter Tryz.func51,Tryz.ntmps51
 go_wp2_with fail
 go_region_held3 (fun V=>(K0 W V/\V.cell? ⟨Bl,0,none⟩=some (.pointer (some ⟨b,0,none⟩))/\V.cell? ⟨Bs,0,none⟩=some (.string (aE u))/\V.cell? ⟨b,2,none⟩=some (.func (.func N) x y))) (go_keep) (first | (refine (aA HF _ (by assumption)).mono ?_;rintro e w3 ⟨rfl,fX⟩))
 go_wp2
 go_ret
 exact ⟨rfl,fX.1⟩
theorem SY {Y:Nat->Prop} {W:World} {P:List UInt8->Prop} {G:List UInt8->List UInt8} {m:Int} {Bl Bs b:Nat} {F1 F2 F3:Value} {u:List UInt8} (hl:W.heap[Bl]? = some (gQ b)) (hs:W.heap[Bs]? = some (.cells #[.string (aE u)] 9 (0,0))) (hb:W.heap[b]? = some (gB F1 F2 F3)) (hf:zO Y W F3 P G m) (hu:u.length<=1000) (hP:¬ P u):
  Calls Tryz.prog 51 #[.pointer (some ⟨Bl,0,none⟩),.pointer (some ⟨Bs,0,none⟩)] W fun e w'=>e = .panicked (kL m)/\K0 W w':=by
 have c0:=aC hl 0
 have c1:=aC hs 0
 have c2:=aC hb 2
 simp at c0 c1 c2
 obtain ⟨N,x,y,rfl,n1,s1⟩:=hf
 have HF:Hid (∀ V:World,(K0 W V/\V.cell? ⟨Bl,0,none⟩=some (.pointer (some ⟨b,0,none⟩))/\V.cell? ⟨Bs,0,none⟩=some (.string (aE u))/\V.cell? ⟨b,2,none⟩=some (.func (.func N) x y))->Calls Tryz.prog N (x.push (.string (aE u))++y) V fun e V'=>e = .panicked (kL m)/\K0 W V'):=aB (fun V h=>(s1 V u (h.1.ky Y) hu).mono (fun e V' h2=>by
  obtain ⟨(⟨h3,_⟩ | ⟨_,h3⟩),hk⟩:=h2
  ·exact absurd h3 hP
  ·exact ⟨h3,h.1.trans hk⟩))
 have fV:K0 W W.drew:=Kp.drew _ _
 clear hl hs hb s1 hP
 unfold wG at n1
 go_enter Tryz.func51,Tryz.ntmps51
 go_wp2_with fail
 refine wp_region_held_drew (S:=fun V=>(K0 W V/\V.cell? ⟨Bl,0,none⟩=some (.pointer (some ⟨b,0,none⟩))/\V.cell? ⟨Bs,0,none⟩=some (.string (aE u))/\V.cell? ⟨b,2,none⟩=some (.func (.func N) x y))) (by kernel_rfl) ⟨fV,by simp [*],by simp [*],by simp [*]⟩ ?_
 intro hHeld
 refine wpAnyH_take (i:=0) (v := .pointer (some ⟨b,0,none⟩)) rfl (by kernel_rfl) (by kernel_rfl) (by kernel_rfl) (fun _ _ _ h=>h) (Or.inl ⟨by rfl,?_⟩) hHeld ?_
 ·intro w hSw
  go_simp
 refine wpAnyH_take (i:=1) (v := .pointer (some ⟨b,0,none⟩)) rfl (by kernel_rfl) (by kernel_rfl) (by kernel_rfl) (fun _ _ _ h=>h) (Or.inl ⟨by rfl,?_⟩) hHeld ?_
 ·intro w hSw
  go_simp
 refine wpAnyH_take (i:=2) (v := .pointer (some ⟨b,2,none⟩)) rfl (by kernel_rfl) (by kernel_rfl) (by kernel_rfl) (fun _ _ _ h=>h) (Or.inl ⟨by rfl,?_⟩) hHeld ?_
 ·intro w hSw
  go_simp
 refine wpAnyH_take (i:=3) (v := .func (.func N) x y) rfl (by kernel_rfl) (by kernel_rfl) (by kernel_rfl) (fun _ _ _ h=>h) (Or.inl ⟨by rfl,?_⟩) hHeld ?_
 ·intro w hSw
  go_simp
 refine wpAnyH_take (i:=4) (v := .string (aE u)) rfl (by kernel_rfl) (by kernel_rfl) (by kernel_rfl) (fun _ _ _ h=>h) (Or.inl ⟨by rfl,?_⟩) hHeld ?_
 ·intro w hSw
  go_simp
 refine wpAnyH_ready (rs:=[5]) (by kernel_rfl) (by simp) ?_
 refine AllReadyH.cons rfl (fun K' hK=>?_) AllReadyH.nil
 go_simp
 refine (aA HF _ hHeld).mono ?_
 rintro e w2 ⟨rfl,iH⟩
 exact ⟨rfl,rfl,iH⟩
theorem GC {Y:Nat->Prop} {w:World} {b:Nat} {c:BT} {u:List UInt8} (hC:CL Y w b c) (hne:pQ c) (hz:fH c<=800) (hu:u.length<=1000):
  Calls Tryz.prog 40 #[.pointer (some ⟨b,0,none⟩),.string (aE u)] w fun e w'=>(∃ r m,((M (bV c) u/\r=bA c u/\m=0)\/(¬ M (bV c) u/\r=[]/\m=2))/\e = .returned (.tuple #[.string (aE r),.int .i64 m]))/\K0 w w':=by
 have XE:∀ (fn:Fn) (first cap:Array Value) (w:World),(Instr.makeFunc fn first cap).run Tryz.prog w = .ok (.func fn first cap) w:=fun _ _ _ _=>rfl
 obtain ⟨w3,hw3,hs3,p0,p1,hg3⟩:=t8 w (.cells #[.pointer (some ⟨b,0,none⟩)] 57) (.cells #[.string (aE u)] 9)
 have eE:=K0.of_grownz hg3
 obtain ⟨f1,f2,f3,hb,yb,l1,l2,l3⟩:=hC
 have uE:=eE.ky Y
 have HD:Hid (∃ r m,((M (bV c) u/\r=bA c u/\m=0)\/(¬ M (bV c) u/\r=[]/\m=2))/\Calls Tryz.prog 48 #[.func (.func 51) #[] #[.pointer (some ⟨w.heap.size,0,none⟩),.pointer (some ⟨w.heap.size+1,0,none⟩)]] w3 fun e w'=>e = .returned (.tuple #[.string (aE r),.int .i64 m])/\K0 w3 w'):=aB (by
  rcases Classical.em (M (bV c) u) with hm | hm
  ·refine ⟨bA c u,0,.inl ⟨hm,rfl,rfl⟩,zH wA (enters_of Tryz.func51 (by kernel_rfl) rfl) (kN hne hz u hm hu) (fun W hW=>?_)⟩
   exact SX (Y:=Y) ((hW.heap (aD p0)).trans p0) ((hW.heap (aD p1)).trans p1) ((hW.heap (aD (uE.heap hb yb))).trans (uE.heap hb yb)) ((l3.ky uE).ky (hW.ky Y)) hu hm
  ·refine ⟨[],2,.inr ⟨hm,rfl,rfl⟩,tV (enters_of Tryz.func51 (by kernel_rfl) rfl) (fun W hW=>?_)⟩
   exact SY (Y:=Y) ((hW.heap (aD p0)).trans p0) ((hW.heap (aD p1)).trans p1) ((hW.heap (aD (uE.heap hb yb))).trans (uE.heap hb yb)) ((l3.ky uE).ky (hW.ky Y)) hu hm)
 obtain ⟨r,m,b7,dU⟩:=aA HD
 have H1:=aB (And.intro b7 eE)
 have H2:=aB dU
 clear hb yb l1 l2 l3 hne hz uE HD b7 dU eE hg3 p0 p1 hs3
 go_enter Tryz.func40,Tryz.ntmps40
 go_wp2_with fail
 refine (aA H2).mono ?_
 rintro e w4 ⟨rfl,hk4⟩
 go_wp2
 go_ret2
 exact ⟨⟨r,m,(aA H1).1,rfl⟩,(aA H1).2.trans hk4⟩
def WK (s:ByteArray) (u r:List UInt8) (c:Int):Prop:=(l8 s c/\r=[])\/∃ t,jU s t/\((60<u.length/\r=[]/\c=1)\/(u.length<=60/\M (bV (bP t)) u/\r=bA (bP t) u/\c=0)\/(u.length<=60/\¬ M (bV (bP t)) u/\r=[]/\c=6))
theorem WK.rng {s:ByteArray} {u r:List UInt8} {c:Int} (h:WK s u r c):0<=c/\c<=6:=by
 rcases h with ⟨h,_⟩ | ⟨t,_,⟨_,_,h⟩ | ⟨_,_,_,h⟩ | ⟨_,_,_,h⟩⟩
 ·have:=h.nz;omega
 ·omega
 ·omega
 ·omega
theorem NO (s:ByteArray) (u:List UInt8) (w:World) (hm:s.size<=maxLen) (hu:u.length<=maxLen) (cW:nU w):
  Calls Tryz.prog 22 #[.string s,.string (aE u)] w fun e w'=>(∃ r c,WK s u r c/\e = .returned (.tuple #[.string (aE r),.int .i64 c]))/\K0 w w':=by
 have hown:(w.alloc (.cells #[.string (aE u)] 9)).ownsRow 0 9 1 (.slice (some ⟨w.heap.size,0,none⟩) 1 1) [u].length (cD [u]):=by
  have:=World.ownsRow_lit (base:=0) (e:=9) (size:=1) w #[.string (aE u)] 1 (Nat.zero_le _) (by unfold maxLen;omega) rfl
  simpa [cD] using this
 have eE:K0 w (w.alloc (.cells #[.string (aE u)] 9)):=Kp.alloc _ _ _
 have HC:=aB (oW s hm (fun j hj=>eE.cellz (cW j hj)) (fun t h=>h.ne) hown (by simp) (fun x hx=>by rw [List.mem_singleton] at hx;rw [hx];exact hu))
 clear hown cW
 go_enter Tryz.func22,Tryz.ntmps22
 go_wp2_with fail
 refine (aA HC).mono ?_
 rintro e w1 ⟨aY,(⟨c,hB,rfl⟩ | ⟨t,hG,(⟨⟨x,hx,pT⟩,rfl⟩ | ⟨hall,b,rN,rfl⟩)⟩)⟩
 ·have q3:(c != 0)=true:=by rw [bne_iff_ne];have:=hB.nz;omega
  have H1:=aB (And.intro hB (eE.trans aY))
  clear hB aY eE
  go_wp2
  go_ret2
  exact ⟨⟨[],c,.inl ⟨(aA H1).1,rfl⟩,rfl⟩,(aA H1).2⟩
 ·rw [List.mem_singleton] at hx
  subst hx
  have H1:=aB (And.intro hG (And.intro pT (eE.trans aY)))
  clear hG pT aY eE
  go_wp2
  go_ret2
  exact ⟨⟨[],1,.inr ⟨t,(aA H1).1,.inl ⟨(aA H1).2.1,rfl,rfl⟩⟩,rfl⟩,(aA H1).2.2⟩
 ·have pT:u.length<=60:=hall u List.mem_cons_self
  have HL:=aB (GC rN hG.ne hG.bz (by omega:u.length<=1000))
  have H1:=aB (And.intro hG (And.intro pT (eE.trans aY)))
  clear hG hall rN aY eE
  go_wp2_with fail
  refine (aA HL).mono ?_
  rintro e w2 ⟨⟨r,m,b7,rfl⟩,hk2⟩
  have CR:m=0\/m=1\/m=2:=by rcases b7 with ⟨_,_,h⟩ | ⟨_,_,h⟩ <;> omega
  have H2:=aB (And.intro b7 hk2)
  have HR:=aB (pZ m CR w2)
  obtain ⟨cc,hcc⟩:∃ cc:Int,(if m=0 then 0 else m+4)=cc:=⟨_,rfl⟩
  rw [hcc] at HR
  have HCC:=aB hcc
  clear hcc
  clear b7 hk2 CR
  go_wp2_with fail
  refine (aA HR).mono ?_
  rintro e w3 ⟨rfl,rfl⟩
  go_wp2
  go_ret2
  obtain ⟨hG,pT,aY⟩:=aA H1
  obtain ⟨b7,hk2⟩:=aA H2
  refine ⟨⟨r,cc,.inr ⟨t,hG,.inr ?_⟩,rfl⟩,aY.trans hk2⟩
  rcases b7 with ⟨h1,h2,h3⟩ | ⟨h1,h2,h3⟩
  ·exact .inl ⟨pT,h1,h2,by rw [← aA HCC,if_pos h3]⟩
  ·exact .inr ⟨pT,h1,h2,by rw [← aA HCC,h3];rfl⟩
theorem Z0 (s:ByteArray) (u:List UInt8) (w:World) (hm:s.size<=maxLen) (hu:u.length<=maxLen) (cW:nU w):
  Calls Tryz.prog 7 #[.string s,.string (aE u)] w fun e w'=>e = .returned (.bool true)/\K0 w w':=by
 have HG:=aB (NO s u w hm hu cW)
 have HC:=aB (fun (V:World) (hk:K0 w V)=>oX s V hm (cW.k0 hk))
 have HNm:=aB (fun (x:Int) (W:World) (h0:0<=x) (h1:x<=100)=>Q2 x W h0 h1)
 have fF:(aE u).size=u.length:=aO u
 unfold maxLen at hu
 clear cW
 go_enter Tryz.func7,Tryz.ntmps7
 go_wp2_with fail
 refine (aA HG).mono ?_
 rintro e w1 ⟨⟨r,c,hR,rfl⟩,aY⟩
 have HR:=aB hR
 have hrg:=hR.rng
 clear hR
 go_wp2_with fail
 refine (aA HC _ aY).mono ?_
 rintro e w2 ⟨hk2,(⟨c',gv,hB,rfl⟩ | ⟨t,g,R2,hGl,rfl⟩)⟩
 ·have dZ:=aY.trans hk2
  obtain ⟨rfl,rfl⟩:r=[]/\c=c':=by
   rcases aA HR with ⟨h1,h2⟩ | ⟨t,h1,_⟩
   ·exact ⟨h2,h1.det hB⟩
   ·exact (hB.not h1).elim
  have hnz:¬ (c=0):=by have:=hB.nz;omega
  have hnb:(c==0)=false:=by simpa using hnz
  rw [uN]
  clear hB HR
  go_wp2_with fail
  refine (aA HNm c _ hrg.1 (by omega)).mono ?_
  rintro e w3 ⟨rfl,rfl⟩
  go_wp2
  go_ret
  exact ⟨rfl,dZ⟩
 ·have dZ:=aY.trans hk2
  have LD:(60<u.length/\r=[]/\c=1)\/(u.length<=60/\M (bV (bP t)) u/\r=bA (bP t) u/\c=0)\/(u.length<=60/\¬ M (bV (bP t)) u/\r=[]/\c=6):=by
   rcases aA HR with ⟨h1,h2⟩ | ⟨t',h1,h2⟩
   ·exact (h1.not R2).elim
   ·rw [R2.det h1];exact h2
  by_cases pT:60<u.length
  ·obtain ⟨rfl,rfl⟩:r=[]/\c=1:=by rcases LD with ⟨_,h1,h2⟩ | ⟨h1,_⟩ | ⟨h1,_⟩;exact ⟨h1,h2⟩;omega;omega
   have CZ:(60:Int)<((aE u).size:Int):=by rw [fF];omega
   rw [uN]
   clear R2 hGl HR LD fF pT
   go_wp2_with fail
   refine (aA HNm 1 _ (by omega) (by omega)).mono ?_
   rintro e w3 ⟨rfl,rfl⟩
   go_wp2
   go_ret
   exact ⟨rfl,dZ⟩
  ·have CZ:¬ (60:Int)<((aE u).size:Int):=by rw [fF];omega
   obtain ⟨P,L,k,f,gp,cap,gl,cl,xs,hM,dI,UL,d9⟩:=hGl
   have QA:=d9.2.2.1
   have hc2:w2.cell? ⟨g,2,none⟩=some (.int .i64 (k:Int)):=by rw [aC hM.blk 2];rfl
   have HS:=aB (aBK (u:=u) hM dI QA (by omega))
   have HGet:=aB (fun (V:World) (hk:K0 w2 V) (hm':M (bV (bP t)) u)=>(mL (bP t) R2.ne R2.bz).go (u:=u) (hM.k0 hk) dI QA hm' (by omega))
   have HQ:=aB LD
   clear R2 HR LD fF hM d9 QA dI UL
   go_wp2_with fail
   refine (aA HS).mono ?_
   rintro e w3 ⟨z,rfl,hz,hk3⟩
   cases z with
   | true=>
    have xI:=hz.1 rfl
    obtain ⟨rfl,rfl⟩:r=bA (bP t) u/\c=0:=by rcases aA HQ with ⟨h1,_⟩ | ⟨_,_,h1,h2⟩ | ⟨_,h1,_⟩;omega;exact ⟨h1,h2⟩;exact absurd xI h1
    have hc3:=hk3.cellz hc2
    have Hg:=aB (aA HGet w3 hk3 xI)
    obtain ⟨rr,dF⟩:∃ rr,bA (bP t) u=rr:=⟨_,rfl⟩
    rw [dF] at Hg ⊢
    clear hz HQ xI dF HGet hc2
    go_wp2_with fail
    refine (aA Hg).mono ?_
    rintro e w4 ⟨rfl,hk4⟩
    go_wp2_with fail
    refine (aA HNm 0 _ (by omega) (by omega)).mono ?_
    rintro e w5 ⟨rfl,rfl⟩
    go_wp2
    go_ret
    exact ⟨rfl,(dZ.trans hk3).trans hk4⟩
   | false=>
    have xI:¬ M (bV (bP t)) u:=fun h=>by have:=hz.2 h;cases this
    obtain ⟨rfl,rfl⟩:r=[]/\c=6:=by rcases aA HQ with ⟨h1,_⟩ | ⟨_,h1,_⟩ | ⟨_,_,h1,h2⟩;omega;exact absurd h1 xI;exact ⟨h1,h2⟩
    rw [uN]
    clear hz HQ xI HGet hc2
    go_wp2_with fail
    refine (aA HNm 6 _ (by omega) (by omega)).mono ?_
    rintro e w5 ⟨rfl,rfl⟩
    go_wp2
    go_ret
    exact ⟨rfl,dZ.trans hk3⟩
end Go.Proofs.YtlljggefbngkeaaGreatDoor
