import Derived.Test.YtlljggefbngkeaaGreatDoorU07
import Derived.Test.YtlljggefbngkeaaGreatDoorU01
import Derived.Deep.RegionWith
import Derived.Deep.RegionHeld3
set_option maxRecDepth 100000
set_option maxHeartbeats 3200000
namespace Go.Proofs.YtlljggefbngkeaaGreatDoor
open Go.RowKit
mutual
def dJ (P:List iD):PT->Nat->Prop
 | .chr l,k=>P[k]? = some ⟨99,aE l,[]⟩
 | .seq l,k=>∃ ks,P[k]? = some ⟨115,⟨#[]⟩,ks⟩/\iU P l ks
 | .alt l,k=>(∃ ks,P[k]? = some ⟨97,⟨#[]⟩,ks⟩/\iU P l ks)\/∃ v:List UInt8,v.length<=120/\l=[.seq (v.map (fun c => .chr [c]))]/\P[k]? = some ⟨116,aE v,[]⟩
 | .rep c t,k=>(c=42\/c=43\/c=63)/\∃ j,P[k]? = some ⟨c,⟨#[]⟩,[j]⟩/\dJ P t j
def iU (P:List iD):List PT->List Nat->Prop
 | [],[]=>True
 | t::l,k::ks=>dJ P t k/\iU P l ks
 | _,_=>False
end
mutual
def cR:PT->Bool
 | .chr _=>true
 | .seq l=>qL l
 | .alt _=>true
 | .rep _ _=>true
def qL:List PT->Bool
 | []=>false
 | t::l=>cR t||qL l
end
mutual
def wf:PT->Bool
 | .chr l=>decide (l.length<=100000)
 | .seq l=>N5 l
 | .alt l=>N5 l
 | .rep _ t=>cR t&&wf t
def N5:List PT->Bool
 | []=>true
 | t::l=>wf t&&N5 l
end
structure PM (w:World) (gp cap:Nat) (P:List iD) (xs:List Value):Prop where
 own:w.ownsRow 0 90 3 (.slice (some ⟨gp,0,none⟩) P.length cap) P.length xs
 pr:PR w (fun _=>False) P xs
theorem PM.k0 {w w':World} {gp cap:Nat} {P:List iD} {xs:List Value} (h:PM w gp cap P xs) (hk:K0 w w'):PM w' gp cap P xs where
 own:=aI h.own (fun k e=>hk.heap (aJ h.own k e))
 pr:=fun j p hp=>by
  obtain ⟨v,h1,h2,h3,h4,h5⟩:=h.pr j p hp
  exact ⟨v,h1,h2,h3,aI h4 (fun k e=>hk.heap (aJ h4 k e)),h5⟩
theorem aG {w:World} {base:Nat} {e:TypeId} {size:Nat} {v:Value} {n:Nat} {xs:List Value} (h:w.ownsRow base e size v n xs):∃ ao cp,v = .slice ao n cp:=by
 rcases h.2 with ⟨h1,h2⟩ | ⟨g,cap,cur,h1,_⟩
 ·subst h2;exact ⟨none,0,h1⟩
 ·exact ⟨_,cap,h1⟩
theorem PM.cells {w:World} {gp cap:Nat} {P:List iD} {xs:List Value} (h:PM w gp cap P xs) {k:Nat} {p:iD} (hp:P[k]? = some p):
  k<P.length/\∃ ao cp,w.cell? ⟨gp,k*3,none⟩=some (.int .u8 p.kind)/\w.cell? ⟨gp,k*3+1,none⟩=some (.string p.set)/\w.cell? ⟨gp,k*3+2,none⟩=some (.slice ao p.subs.length cp)/\w.ownsRow 0 3 1 (.slice ao p.subs.length cp) p.subs.length (cG p.subs):=by
 have hk:=(List.getElem?_eq_some_iff.1 hp).1
 obtain ⟨v,h1,h2,h3,h4,_⟩:=h.pr k p hp
 obtain ⟨ao,cp,rfl⟩:=aG h4
 refine ⟨hk,ao,cp,?_,?_,?_,h4⟩
 ·rw [World.ownsRow.cellAt h.own (k*3) (by omega),Nat.mul_comm];exact h1
 ·rw [World.ownsRow.cellAt h.own (k*3+1) (by omega),Nat.mul_comm];exact h2
 ·rw [World.ownsRow.cellAt h.own (k*3+2) (by omega),Nat.mul_comm];exact h3
def WS (w:World) (t:PT) (d:ByteArray) (g c:Nat) (f:Nat->Bool) (e:Ending) (w':World):Prop:=
 ∃ g' c' f',e = .returned (.slice (some ⟨g',0,none⟩) (d.size+1) c')/\BR w' g' (d.size+1) c' f'/\wB (M t) d.data.toList f f'/\K0 w w'/\((g'=g/\c'=c)\/w.heap.size<=g')/\(cR t=true->w.heap.size<=g')
def gU (t:PT):Prop:=
 ∀ (w:World) (gp cap:Nat) (P:List iD) (xs:List Value) (k:Nat) (d:ByteArray) (g c:Nat) (f:Nat->Bool),PM w gp cap P xs->P.length<=100000->dJ P t k->BR w g (d.size+1) c f->d.size<=200000000->
  Calls Tryz.prog 44 #[.slice (some ⟨gp,0,none⟩) P.length cap,.int .i64 k,.string d,.slice (some ⟨g,0,none⟩) (d.size+1) c] w fun e w'=>WS w t d g c f e w'
theorem M0 (l:List UInt8) (c:UInt8):oD l (c.toNat:Int)=l.contains c:=by
 rw [Bool.eq_iff_iff]
 simp only [oD,List.any_eq_true,List.contains_iff_mem,beq_iff_eq]
 constructor
 ·rintro ⟨x,hx,he⟩
  have:x=c:=UInt8.toNat.inj (by omega)
  rwa [← this]
 ·intro h;exact ⟨c,h,rfl⟩
theorem jQ {w w1:World} {x:Obj} (hgrow:(w.alloc x).grownBy w1 none):w1.heap[w.heap.size]? = some x/\K0 w w1:=by
 refine ⟨(hgrow.block w.heap.size (by simp) (by simp)).trans (heap_alloc_new w x),?_⟩
 exact (Kp.alloc _ w x).trans (Kp.of_grown hgrow (fun _ e=>by cases e))
def M7 (f:Nat->Bool) (l d:List UInt8):Nat->Bool
 | 0=>false
 | i+1=>f i&&(match d[i]? with | some c=>l.contains c | none=>false)
theorem K0.drew {w wv:World} (h:K0 w wv):K0 w wv.drew:=Kp.trans h (Kp.drew _ _)
theorem K0.drewN {w wv:World} (h:K0 w wv) (n:Nat):K0 w (wv.drewN n):=Kp.trans h (Kp.drewN _ _ _)
theorem BR.drew {w:World} {g n c:Nat} {f:Nat->Bool} (h:BR w g n c f):BR w.drew g n c f:=h
theorem aAU (f:Nat->Bool) (l:List UInt8) (d:ByteArray) (m:Nat) (hf:f m=false):M7 f l d.data.toList (m+1)=false:=by simp [M7,hf]
theorem aAV (f:Nat->Bool) (l:List UInt8) (d:ByteArray) (m:Nat) (h:m<d.size) (hf:f m=true) {x:Bool} (hx:oD (aE l).data.toList (d[m].toNat:Int)=x):M7 f l d.data.toList (m+1)=x:=by
 rw [show (aE l).data.toList=l from by simp [aE],M0] at hx
 have:d.data.toList[m]? = some d[m]:=by
  rw [List.getElem?_eq_getElem (by simpa using h)];rfl
 simp only [M7,hf,this,Bool.true_and]
 exact hx
theorem IW (f:Nat->Bool) (l d:List UInt8) (j:Nat):(decide (j<0+1)&&M7 f l d j)=false:=by
 match j with
 | 0=>rfl
 | j+1=>simp
theorem VJ (l:List UInt8) (hl:l.length<=100000):gU (.chr l):=by
 intro w gp cap P xs k d g c f oA dI dO hB hd
 rw [dJ] at dO
 obtain ⟨hk,ao,cp,p0,p1,p2,_⟩:=oA.cells dO
 obtain ⟨i0,jO,hz0,hz1,hz2⟩:=info_parts Tryz.infoBool
 have aY:(k:Int)<(P.length:Int):=by omega
 have HB:=aB hB
 have eC:=hB.lt
 clear oA dO hB
 go_enter Tryz.func44,Tryz.ntmps44
 go_wp2_with (at_make;refine wpList_make_full _ rfl _ _ 77 rfl 0 4 i0 (.bool false) 1 Tryz.underlying77 jO hz0 hz1 _ _ _ _ (d.size+1) rfl rfl (by simp) (by simp) (by rw [hz2];omega) (by unfold maxLen;omega) (by omega) ?_)
 intro w1 hown hgrow
 obtain ⟨hx,cO⟩:=jQ hgrow
 have x0:=aC hx 0
 have HX:=aB (And.intro hx cO)
 have JO:=aB (BR.made hown)
 clear hown hgrow hx cO p0 p1 p2
 simp at x0
 go_wp2_with fail
 go_loopg [11] (d.size+1) (fun gk iv wv=>∃ k:Nat,iv = .int .i64 k/\k<=d.size/\d.size-k<gk/\BR wv (w.heap.size+1) (d.size+1) (d.size+1) (fun j=>decide (j<k+1)&&M7 f l d.data.toList j)/\K0 w wv/\wv.heap[w.heap.size]? = some (.cells #[.int .u8 99,.string (aE l),.slice ao 0 cp] 90 (0,0)))
 case atStart=>exact ⟨0,rfl,Nat.zero_le _,by omega,(aA JO).congr (fun j _=>(IW f l _ j).symm),(aA HX).2,(aA HX).1⟩
 case round=>
  clear JO x0
  obtain ⟨m,rfl,hm,fW,hR,hK,hx⟩:=hrel
  by_cases hlt:m<d.size
  ·have hc1:=((aA HB).k0 hK).cell m (by omega)
   have x1:=aC hx 1
   have ro:=hR.cell (m+1) (by omega)
   have fo:=hR.fz (m+1)
   have l9:=aB (And.intro hR (And.intro hK hx))
   simp at x1
   have qZ:(m:Int)+1<(d.size:Int)+1:=by omega
   have hm0:(0:Int)<=(m:Int)+1:=by omega
   have aH1:(0:Int)<=(m:Int):=by omega
   have aC8:IntKind.i64.wrap ((m:Int)+1)=(m:Int)+1:=IntWalk.i64_in _ (by omega)
   have aHD:g≠w.heap.size+1:=by omega
   have aF5:w.heap.size≠w.heap.size+1:=by omega
   have aF4:¬ (w.heap.size+1=g):=by omega
   have lV:(m:Int)<(d.size:Int)+1:=by omega
   have CR:(m:Int)<(d.size:Int):=by omega
   have hls:(aE l).size<=maxLen:=by rw [aO];unfold maxLen;omega
   have HC:=aB (fun (W:World)=>X2 (aE l) (d[m].toNat:Int) W hls)
   clear hR hK hx hls
   cases hf:f m with
   | true=>
    rw [hf] at hc1
    have Hf:=aB hf
    clear hf
    go_wp2_with fail
    go_region_held3 (fun w'=>w'.cell? ⟨g,m,none⟩=some (.bool true)/\w'.cell? ⟨w.heap.size,1,none⟩=some (.string (aE l))) (go_keep) (first | (go_at_call 61;refine (aA HC _).mono ?_;rintro e w' ⟨rfl,rfl⟩))
    go_wp2
    go_roundg (gk-1)
    case measure=>omega
    case rel=>
     refine ⟨m+1,by go_num,by omega,by omega,((aA l9).1.set (m+1) _).drew.congr (fun j _=>mU (M7 f l d.data.toList) (m+1) _ (aAV f l d m hlt (aA Hf) rfl) j),K0.drew ((aA l9).2.1.set (b:=w.heap.size+1) (Nat.le_succ _) _ _),?_⟩
     rw [iB,Below.heap_setCell _ _ _ _ (by simp)];exact (aA l9).2.2
   | false=>
    rw [hf] at hc1
    have Hf:=aB hf
    clear hf
    go_wp2_with fail
    go_region
    go_wp2
    go_roundg (gk-1)
    case measure=>omega
    case rel=>
     refine ⟨m+1,by go_num,by omega,by omega,((aA l9).1.set (m+1) _).drew.congr (fun j _=>mU (M7 f l d.data.toList) (m+1) _ (aAU f l d m (aA Hf)) j),K0.drew ((aA l9).2.1.set (b:=w.heap.size+1) (Nat.le_succ _) _ _),?_⟩
     rw [iB,Below.heap_setCell _ _ _ _ (by simp)];exact (aA l9).2.2
  ·obtain rfl:m=d.size:=by omega
   go_wp2
   go_ret
   refine ⟨w.heap.size+1,d.size+1,_,rfl,hR.congr (f':=M7 f l d.data.toList) (fun j hj=>by simp [hj]),?_,hK,Or.inr (by omega),fun _=>by omega⟩
   exact wB.chr rfl (fun i c hc=>by simp [M7,hc])
def yE (f:Nat->Bool) (v d:List UInt8) (j:Nat):Bool:=decide (v.length<=j)&&(f (j-v.length)&&decide (fP d (j-v.length) j=v))
theorem EQ (f:Nat->Bool) (v d:List UInt8) (j:Nat):(decide (j<0+v.length)&&yE f v d j)=false:=by
 unfold yE
 by_cases h:v.length<=j
 ·have:decide (j<0+v.length)=false:=by simp;omega
  rw [this,Bool.false_and]
 ·simp [h]
theorem YE {f:Nat->Bool} {v d:List UInt8} {m:Nat} (hf:f m=false):yE f v d (m+v.length)=false:=by
 unfold yE
 rw [show m+v.length-v.length=m by omega,hf]
 simp
theorem YF {f:Nat->Bool} {v:List UInt8} {d:ByteArray} {m:Nat} (hf:f m=true):yE f v d.data.toList (m+v.length)=((d.extract m (m+v.length)).toList==(aE v).toList):=by
 unfold yE
 rw [show m+v.length-v.length=m by omega,hf]
 have h1:decide (v.length<=m+v.length)=true:=by simp
 rw [h1,Bool.true_and,Bool.true_and,ByteArray.toList_eq,ByteArray.toList_eq]
 have hs:(d.extract m (m+v.length)).data.toList=fP d.data.toList m (m+v.length):=by
  simp [fP,ByteArray.data_extract]
 have hv:(aE v).data.toList=v:=by simp [aE]
 rw [hs,hv,Bool.eq_iff_iff]
 simp
def aGF (v:List UInt8):Prop:=
 ∀ (w:World) (gp cap:Nat) (P:List iD) (xs:List Value) (k:Nat) (d:ByteArray) (g c:Nat) (f:Nat->Bool),PM w gp cap P xs->P.length<=100000->P[k]? = some ⟨116,aE v,[]⟩->BR w g (d.size+1) c f->d.size<=200000000->
  Calls Tryz.prog 44 #[.slice (some ⟨gp,0,none⟩) P.length cap,.int .i64 k,.string d,.slice (some ⟨g,0,none⟩) (d.size+1) c] w fun e w' =>
   ∃ g',e = .returned (.slice (some ⟨g',0,none⟩) (d.size+1) (d.size+1))/\BR w' g' (d.size+1) (d.size+1) (yE f v d.data.toList)/\K0 w w'/\w.heap.size<=g'
theorem OQ (v:List UInt8) (hv:v.length<=120):aGF v:=by
 intro w gp cap P xs k d g c f oA dI dO hB hd
 obtain ⟨hk,ao,cp,p0,p1,p2,_⟩:=oA.cells dO
 obtain ⟨i0,jO,hz0,hz1,hz2⟩:=info_parts Tryz.infoBool
 have aY:(k:Int)<(P.length:Int):=by omega
 have HB:=aB hB
 have eC:=hB.lt
 have hvs:(aE v).size=v.length:=aO v
 clear oA dO hB
 go_enter Tryz.func44,Tryz.ntmps44
 go_wp2_with (at_make;refine wpList_make_full _ rfl _ _ 77 rfl 0 4 i0 (.bool false) 1 Tryz.underlying77 jO hz0 hz1 _ _ _ _ (d.size+1) rfl rfl (by simp) (by simp) (by rw [hz2];omega) (by unfold maxLen;omega) (by omega) ?_)
 intro w1 hown hgrow
 obtain ⟨hx,cO⟩:=jQ hgrow
 have x0:=aC hx 0
 have HX:=aB (And.intro hx cO)
 have JO:=aB (BR.made hown)
 clear hown hgrow hx cO p0 p1 p2
 simp at x0
 go_wp2_with fail
 go_loopg [12] (d.size+2) (fun gk iv wv=>∃ k:Nat,iv = .int .i64 k/\k<=d.size+1/\d.size+1-k<gk/\BR wv (w.heap.size+1) (d.size+1) (d.size+1) (fun j=>decide (j<k+v.length)&&yE f v d.data.toList j)/\K0 w wv/\wv.heap[w.heap.size]? = some (.cells #[.int .u8 116,.string (aE v),.slice ao 0 cp] 90 (0,0)))
 case atStart=>exact ⟨0,rfl,Nat.zero_le _,by omega,(aA JO).congr (fun j _=>(EQ f v _ j).symm),(aA HX).2,(aA HX).1⟩
 case round=>
  clear JO x0
  obtain ⟨m,rfl,hm,fW,hR,hK,hx⟩:=hrel
  have x1:=aC hx 1
  simp at x1
  have aC8:IntKind.i64.wrap ((m:Int)+(v.length:Int))=(m:Int)+(v.length:Int):=IntWalk.i64_in _ (by omega)
  have aI9:IntKind.i64.wrap ((m:Int)+1)=(m:Int)+1:=IntWalk.i64_in _ (by omega)
  by_cases hlt:m+v.length<=d.size
  ·have q7:(m:Int)+(v.length:Int)<=(d.size:Int):=by omega
   have hc1:=((aA HB).k0 hK).cell m (by omega)
   have ro:=hR.cell (m+v.length) (by omega)
   have fo:=hR.fz (m+v.length)
   have l9:=aB (And.intro hR (And.intro hK hx))
   clear hR hK hx
   have lV:(m:Int)<(d.size:Int)+1:=by omega
   have CR:(m:Int)+(v.length:Int)<(d.size:Int)+1:=by omega
   have aH1:(0:Int)<=(m:Int):=by omega
   have aIM:(0:Int)<=(m:Int)+(v.length:Int):=by omega
   have aIL:(m:Int)<=(m:Int)+(v.length:Int):=by omega
   have aHD:g≠w.heap.size+1:=by omega
   have aF5:w.heap.size≠w.heap.size+1:=by omega
   have aF4:¬ (w.heap.size+1=g):=by omega
   have htn:((m:Int)+(v.length:Int)).toNat=m+v.length:=by omega
   cases hf:f m with
   | true=>
    rw [hf] at hc1
    have Hf:=aB hf
    clear hf
    go_wp2_with fail
    go_region_held3 (fun w'=>w'.cell? ⟨g,m,none⟩=some (.bool true)/\w'.cell? ⟨w.heap.size,1,none⟩=some (.string (aE v))) (go_keep) (fail)
    go_wp2
    go_roundg (gk-1)
    case measure=>omega
    case rel=>
     refine ⟨m+1,by go_num,by omega,by omega,?_,K0.drew ((aA l9).2.1.set (b:=w.heap.size+1) (Nat.le_succ _) _ _),?_⟩
     ·rw [show m+1+v.length=m+v.length+1 by omega]
      exact ((aA l9).1.set (m+v.length) _).drew.congr (fun j _=>mU (yE f v d.data.toList) (m+v.length) _ (YF (aA Hf)) j)
     ·rw [iB,Below.heap_setCell _ _ _ _ (by simp)];exact (aA l9).2.2
   | false=>
    rw [hf] at hc1
    have Hf:=aB hf
    clear hf
    go_wp2_with fail
    go_region
    go_wp2
    go_roundg (gk-1)
    case measure=>omega
    case rel=>
     refine ⟨m+1,by go_num,by omega,by omega,?_,K0.drew ((aA l9).2.1.set (b:=w.heap.size+1) (Nat.le_succ _) _ _),?_⟩
     ·rw [show m+1+v.length=m+v.length+1 by omega]
      exact ((aA l9).1.set (m+v.length) _).drew.congr (fun j _=>mU (yE f v d.data.toList) (m+v.length) _ (YE (aA Hf)) j)
     ·rw [iB,Below.heap_setCell _ _ _ _ (by simp)];exact (aA l9).2.2
  ·have q7:¬ ((m:Int)+(v.length:Int)<=(d.size:Int)):=by omega
   go_wp2
   go_ret
   refine ⟨w.heap.size+1,rfl,hR.congr (fun j hj=>?_),hK,by omega⟩
   have:decide (j<m+v.length)=true:=by simp;omega
   rw [this,Bool.true_and]
theorem WL:∀ (v u:List UInt8),M (.seq (v.map fun c => .chr [c])) u↔u=v:=by
 have key:∀ (v u:List UInt8),ML (v.map fun c => .chr [c]) u↔u=v:=by
  intro v
  induction v with
  | nil=>
   intro u
   constructor
   ·intro h
    cases h
    rfl
   ·rintro rfl
    exact ML.nil
  | cons c v ih=>
   intro u
   constructor
   ·intro h
    cases h with
    | cons h1 h2=>
     cases h1 with
     | chr hc=>
      rw [List.mem_singleton] at hc
      rw [hc,(ih _).1 h2]
      rfl
   ·rintro rfl
    exact ML.cons (u:=[c]) (M.chr (List.mem_singleton.2 rfl)) ((ih v).2 rfl)
 intro v u
 rw [← key v u]
 constructor
 ·intro h
  cases h with
  | seq h=>exact h
 ·exact M.seq
theorem QI (v d:List UInt8) (f:Nat->Bool):wB (M (.seq (v.map fun c => .chr [c]))) d f (yE f v d):=by
 intro j hj
 unfold yE
 simp only [Bool.and_eq_true,decide_eq_true_eq]
 constructor
 ·rintro ⟨h1,h2,h3⟩
  exact ⟨j-v.length,by omega,h2,(WL _ _).2 h3⟩
 ·rintro ⟨i,h1,h2,h3⟩
  have h4:=(WL _ _).1 h3
  have h5:=fJ d i j hj
  rw [h4] at h5
  have:j-v.length=i:=by omega
  rw [this]
  exact ⟨by omega,h2,h4⟩
theorem aDS (t:PT) (u:List UInt8):M (.alt [t]) u↔M t u:=
 ⟨fun h=>by cases h with | alt h1 h2=>rw [List.mem_singleton] at h1;subst h1;exact h2,fun h => .alt (List.mem_singleton.2 rfl) h⟩
theorem MG (v d:List UInt8) (f:Nat->Bool):wB (M (.alt [.seq (v.map fun c => .chr [c])])) d f (yE f v d):=by
 intro j hj
 rw [QI v d f j hj]
 exact exists_congr fun i=>by rw [aDS]
theorem J7 {P:List iD}:∀ {l:List PT} {ks:List Nat},iU P l ks->l.length=ks.length/\∀ (m:Nat) (t:PT),l[m]? = some t->∃ k,ks[m]? = some k/\dJ P t k
 | [],[],_=>⟨rfl,fun m t h=>by simp at h⟩
 | t::l,k::ks,h=>by
  rw [iU] at h
  obtain ⟨h1,h2⟩:=J7 h.2
  refine ⟨by simp [h1],fun m u hm=>?_⟩
  match m with
  | 0=>simp at hm;subst hm;exact ⟨k,rfl,h.1⟩
  | m+1=>simpa using h2 m u (by simpa using hm)
 | [],k::ks,h=>by simp [iU] at h
 | t::l,[],h=>by simp [iU] at h
theorem vZ:∀ l:List PT,qL l=l.any cR
 | []=>by rw [qL];rfl
 | t::l=>by rw [qL,vZ l];rfl
theorem tP {w:World} {ao:Option Addr} {cp:Nat} {ks:List Nat} (h:w.ownsRow 0 3 1 (.slice ao ks.length cp) ks.length (cG ks)) {m k:Nat} (hk:ks[m]? = some k):∃ gs,ao=some ⟨gs,0,none⟩/\w.cell? ⟨gs,m,none⟩=some (.int .i64 k):=by
 have hm:=(List.getElem?_eq_some_iff.1 hk).1
 rcases h.2 with ⟨_,h0⟩ | ⟨g,cap,cur,hv,_⟩
 ·omega
 ·obtain ⟨rfl,rfl⟩:ao=some ⟨g,0,none⟩/\cp=cap:=by simpa using hv
  refine ⟨g,rfl,?_⟩
  rw [World.ownsRow.cellAt h m (by omega)]
  simp [cG,hk]
theorem VH (l:List PT) (ih:∀ t,t∈l->gU t):gU (.seq l):=by
 intro w gp cap P xs k d g c f oA dI dO hB hd
 rw [dJ] at dO
 obtain ⟨ks,dO,hL⟩:=dO
 obtain ⟨hk,ao,cp,p0,p1,p2,xG⟩:=oA.cells dO
 obtain ⟨hlen,hat⟩:=J7 hL
 obtain ⟨i0,jO,hz0,hz1,hz2⟩:=info_parts Tryz.infoBool
 have aY:(k:Int)<(P.length:Int):=by omega
 have xZ:ks.length<=maxLen:=by
  rcases xG.2 with ⟨_,h0⟩ | ⟨_,_,_,_,_,_,h1,h2,_⟩
  ·show ks.length<=_;rw [show ks.length=0 from h0];unfold maxLen;omega
  ·exact Nat.le_trans h1 h2
 unfold maxLen at xZ
 have HB:=aB (And.intro hB (And.intro oA (And.intro xG (And.intro hat ih))))
 have eC:=hB.lt
 clear oA dO hB xG hL hat ih
 simp only at p0 p1 p2
 go_enter Tryz.func44,Tryz.ntmps44
 go_wp2_with (at_make;refine wpList_make_full _ rfl _ _ 77 rfl 0 4 i0 (.bool false) 1 Tryz.underlying77 jO hz0 hz1 _ _ _ _ (d.size+1) rfl rfl (by simp) (by simp) (by rw [hz2];omega) (by unfold maxLen;omega) (by omega) ?_)
 intro w1 hown hgrow
 obtain ⟨hx,cO⟩:=jQ hgrow
 have x0:=aC hx 0
 have HX:=aB (And.intro hx cO)
 clear hown hgrow hx cO p0 p1 p2
 simp at x0
 go_wp2_with fail
 go_loopg [3,13] (l.length+1) (fun gk av iv wv=>∃ (m g' c':Nat) (f':Nat->Bool),iv = .int .i64 m/\av = .slice (some ⟨g',0,none⟩) (d.size+1) c'/\m<=l.length/\l.length-m<gk/\BR wv g' (d.size+1) c' f'/\wB (ML (l.take m)) d.data.toList f f'/\K0 w wv/\wv.heap[w.heap.size]? = some (.cells #[.int .u8 115,.string ⟨#[]⟩,.slice ao ks.length cp] 90 (0,0))/\((g'=g/\c'=c)\/w.heap.size<=g')/\(qL (l.take m)=true->w.heap.size<=g'))
 case atStart=>exact ⟨0,g,c,f,rfl,rfl,Nat.zero_le _,by omega,(aA HB).1.k0 (aA HX).2,wB.seq0 _ _,(aA HX).2,(aA HX).1,Or.inl ⟨rfl,rfl⟩,by intro h;simp [qL] at h⟩
 case round=>
  clear x0
  obtain ⟨m,g',c',f',rfl,rfl,hm,fW,hR,hV,hK,hx,rH,fZ⟩:=hrel
  have x2:=aC hx 2
  simp at x2
  by_cases hlt:m<l.length
  ·have hlm:(m:Int)<(ks.length:Int):=by omega
   have hm0:(0:Int)<=(m:Int):=by omega
   obtain ⟨km,hkm,CK⟩:=(aA HB).2.2.2.1 m l[m] (List.getElem?_eq_getElem hlt)
   obtain ⟨gs,rfl,uF⟩:=tP (aA HB).2.2.1 hkm
   have hcs:wr.cell? ⟨gs,m,none⟩=some (.int .i64 km):=by
    rw [World.cell?_of_block (w:=w) (hK.heap (World.block_lt_of_cell? w _ uF))];exact uF
   have HE:=aB ((aA HB).2.2.2.2 l[m] (List.getElem_mem hlt) wr gp cap P xs km d g' c' f' ((aA HB).2.1.k0 hK) dI CK hR hd)
   have HF:=aB (And.intro hV (And.intro hK (And.intro hx (And.intro rH (And.intro fZ hR.lt)))))
   clear hV hK hx rH fZ CK hR uF
   go_wp2_with (go_at_call 44;refine (aA HE).mono ?_;rintro e w3 ⟨g3,c3,f3,rfl,eF,M1,hK3,hg3,W7⟩)
   go_roundg (gk-1)
   case measure=>omega
   case rel=>
    obtain ⟨hV,hK,hx,rH,fZ,aIV⟩:=aA HF
    have AK:l.take (m+1)=l.take m++[l[m]]:=List.take_succ_eq_append_getElem hlt
    have hKs:=hK.size
    refine ⟨m+1,g3,c3,f3,by go_num,rfl,by omega,by omega,eF,by rw [AK];exact hV.seq1 M1,hK.trans hK3,(hK3.heap (aD hx)).trans hx,?_,?_⟩
    ·rcases hg3 with ⟨rfl,rfl⟩ | h3
     ·exact rH
     ·right;omega
    ·rw [AK,vZ,List.any_append,← vZ]
     intro h
     simp only [Bool.or_eq_true] at h
     rcases h with h | h
     ·rcases hg3 with ⟨rfl,rfl⟩ | h3
      ·exact fZ h
      ·omega
     ·have:=W7 (by simpa using h)
      omega
  ·obtain rfl:m=l.length:=by omega
   have hlm:¬ ((l.length:Int)<(ks.length:Int)):=by omega
   rw [List.take_length] at hV fZ
   have HF:=aB (And.intro hV (And.intro hK (And.intro rH fZ)))
   clear hV hK rH fZ
   rw [← hlen] at x2
   go_wp2
   go_ret
   exact ⟨g',c',f',rfl,hR,(aA HF).1.seqM,(aA HF).2.1,(aA HF).2.2.1,by rw [cR];exact (aA HF).2.2.2⟩
theorem VK (l:List PT) (ih:∀ t,t∈l->gU t):gU (.alt l):=by
 intro w gp cap P xs k d g c f oA dI dO hB hd
 rw [dJ] at dO
 rcases dO with dO | ⟨v,hv,rfl,dO⟩
 case inr=>
  refine (OQ v hv w gp cap P xs k d g c f oA dI dO hB hd).mono ?_
  rintro e w' ⟨g',rfl,h1,h2,h3⟩
  exact ⟨g',_,_,rfl,h1,MG v _ f,h2,.inr h3,fun _=>h3⟩
 obtain ⟨ks,dO,hL⟩:=dO
 obtain ⟨hk,ao,cp,p0,p1,p2,xG⟩:=oA.cells dO
 obtain ⟨hlen,hat⟩:=J7 hL
 obtain ⟨i0,jO,hz0,hz1,hz2⟩:=info_parts Tryz.infoBool
 have aY:(k:Int)<(P.length:Int):=by omega
 have xZ:ks.length<=maxLen:=by
  rcases xG.2 with ⟨_,h0⟩ | ⟨_,_,_,_,_,_,h1,h2,_⟩
  ·show ks.length<=_;rw [show ks.length=0 from h0];unfold maxLen;omega
  ·exact Nat.le_trans h1 h2
 unfold maxLen at xZ
 have HB:=aB (And.intro hB (And.intro oA (And.intro xG (And.intro hat ih))))
 have eC:=hB.lt
 clear oA dO hB xG hL hat ih
 simp only at p0 p1 p2
 go_enter Tryz.func44,Tryz.ntmps44
 go_wp2_with (at_make;refine wpList_make_full _ rfl _ _ 77 rfl 0 4 i0 (.bool false) 1 Tryz.underlying77 jO hz0 hz1 _ _ _ _ (d.size+1) rfl rfl (by simp) (by simp) (by rw [hz2];omega) (by unfold maxLen;omega) (by omega) ?_)
 intro w1 hown hgrow
 obtain ⟨hx,cO⟩:=jQ hgrow
 have x0:=aC hx 0
 have HX:=aB (And.intro hx cO)
 have JO:=aB (BR.made hown)
 clear hown hgrow hx cO p0 p1 p2
 simp at x0
 go_wp2_with fail
 go_loopg [10,14] (l.length+1) (fun gk av iv wv=>∃ (m g':Nat) (f':Nat->Bool),iv = .int .i64 m/\av = .slice (some ⟨g',0,none⟩) (d.size+1) (d.size+1)/\m<=l.length/\l.length-m<gk/\BR wv g' (d.size+1) (d.size+1) f'/\wB (M (.alt (l.take m))) d.data.toList f f'/\K0 w wv/\wv.heap[w.heap.size]? = some (.cells #[.int .u8 97,.string ⟨#[]⟩,.slice ao ks.length cp] 90 (0,0))/\w.heap.size<=g')
 case atStart=>exact ⟨0,w.heap.size+1,_,rfl,rfl,Nat.zero_le _,by omega,aA JO,wB.alt0 _ _,(aA HX).2,(aA HX).1,by omega⟩
 case round=>
  clear x0 JO
  obtain ⟨m,g',f',rfl,rfl,hm,fW,hR,hV,hK,hx,rH⟩:=hrel
  have x2:=aC hx 2
  simp at x2
  by_cases hlt:m<l.length
  ·have hlm:(m:Int)<(ks.length:Int):=by omega
   have hm0:(0:Int)<=(m:Int):=by omega
   obtain ⟨km,hkm,CK⟩:=(aA HB).2.2.2.1 m l[m] (List.getElem?_eq_getElem hlt)
   obtain ⟨gs,rfl,uF⟩:=tP (aA HB).2.2.1 hkm
   have hcs:wr.cell? ⟨gs,m,none⟩=some (.int .i64 km):=by
    rw [World.cell?_of_block (w:=w) (hK.heap (World.block_lt_of_cell? w _ uF))];exact uF
   have HE:=aB ((aA HB).2.2.2.2 l[m] (List.getElem_mem hlt) wr gp cap P xs km d g c f ((aA HB).2.1.k0 hK) dI CK ((aA HB).1.k0 hK) hd)
   have HF:=aB (And.intro hV (And.intro hK (And.intro hx (And.intro rH hR))))
   clear hV hK hx rH CK hR uF
   go_wp2_with (go_at_call 44;refine (aA HE).mono ?_;rintro e w3 ⟨g3,c3,f3,rfl,eF,M1,hK3,hg3,W7⟩)
   refine (tA ((aA HF).2.2.2.2.k0 hK3) eF (by omega)).mono ?_
   rintro e w4 ⟨g4,rfl,hg4,jP,hK4⟩
   go_wp2_with fail
   go_roundg (gk-1)
   case measure=>omega
   case rel=>
    obtain ⟨hV,hK,hx,rH,hR⟩:=aA HF
    have AK:l.take (m+1)=l.take m++[l[m]]:=List.take_succ_eq_append_getElem hlt
    have hKs:=hK.size
    have aFX:=hK3.size
    exact ⟨m+1,g4,_,by go_num,rfl,by omega,by omega,jP,by rw [AK];exact hV.alt1 M1,(hK.trans hK3).trans hK4,((hK3.trans hK4).heap (aD hx)).trans hx,by omega⟩
  ·obtain rfl:m=l.length:=by omega
   have hlm:¬ ((l.length:Int)<(ks.length:Int)):=by omega
   rw [List.take_length] at hV
   have HF:=aB (And.intro hV (And.intro hK rH))
   clear hV hK rH
   rw [← hlen] at x2
   go_wp2
   go_ret
   exact ⟨g',d.size+1,f',rfl,hR,(aA HF).1,(aA HF).2.1,Or.inr (aA HF).2.2,fun _=>(aA HF).2.2⟩
theorem VI (t:PT) (ih:gU t):gU (.rep 63 t):=by
 intro w gp cap P xs k d g c f oA dI dO hB hd
 rw [dJ] at dO
 obtain ⟨_,j,dO,hL⟩:=dO
 obtain ⟨hk,ao,cp,p0,p1,p2,xG⟩:=oA.cells dO
 obtain ⟨gs,rfl,uF⟩:=tP (ks:=[j]) xG (m:=0) (k:=j) rfl
 obtain ⟨i0,jO,hz0,hz1,hz2⟩:=info_parts Tryz.infoBool
 have aY:(k:Int)<(P.length:Int):=by omega
 have HB:=aB (And.intro hB (And.intro oA (And.intro hL (And.intro uF ih))))
 have eC:=hB.lt
 clear oA dO hB xG hL ih uF
 simp only at p0 p1 p2
 go_enter Tryz.func44,Tryz.ntmps44
 go_wp2_with (at_make;refine wpList_make_full _ rfl _ _ 77 rfl 0 4 i0 (.bool false) 1 Tryz.underlying77 jO hz0 hz1 _ _ _ _ (d.size+1) rfl rfl (by simp) (by simp) (by rw [hz2];omega) (by unfold maxLen;omega) (by omega) ?_)
 intro w1 hown hgrow
 obtain ⟨hx,cO⟩:=jQ hgrow
 have x0:=aC hx 0
 have x2:=aC hx 2
 have HX:=aB (And.intro hx cO)
 have hcs:w1.cell? ⟨gs,0,none⟩=some (.int .i64 j):=by
  rw [World.cell?_of_block (w:=w) (cO.heap (World.block_lt_of_cell? w _ (aA HB).2.2.2.1))];exact (aA HB).2.2.2.1
 have HE:=aB ((aA HB).2.2.2.2 w1 gp cap P xs j d g c f ((aA HB).2.1.k0 cO) dI (aA HB).2.2.1 ((aA HB).1.k0 cO) hd)
 clear hown hgrow hx cO p0 p1 p2
 simp at x0 x2
 go_wp2_with (go_at_call 44;refine (aA HE).mono ?_;rintro e w3 ⟨g3,c3,f3,rfl,eF,M1,hK3,hg3,W7⟩)
 refine (tA (((aA HB).1.k0 (aA HX).2).k0 hK3) eF (by omega)).mono ?_
 rintro e w4 ⟨g4,rfl,hg4,jP,hK4⟩
 go_wp2
 go_ret
 have hs1:=(aA HX).2.size
 have hs3:=hK3.size
 exact ⟨g4,_,_,rfl,jP,M1.opt,((aA HX).2.trans hK3).trans hK4,Or.inr (by omega),fun _=>by omega⟩
def WD (w:World) (cc:Int) (t:PT) (d:ByteArray) (f:Nat->Bool) (e:Ending) (w':World):Prop:=
 ∃ g' f',e = .returned (.slice (some ⟨g',0,none⟩) (d.size+1) (d.size+1))/\BR w' g' (d.size+1) (d.size+1) f'/\wB (M (.rep cc t)) d.data.toList f f'/\K0 w w'/\w.heap.size<=g'
theorem KQ (n:Nat) (f:Nat->Bool):yO n f<=n:=by
 have:=List.length_filter_le (fun j => !f j) (List.range n)
 unfold yO
 simpa using this
def WC (cc:Int) (t:PT):Prop:=
 ∀ (w:World) (gp cap:Nat) (P:List iD) (xs:List Value) (j gs cp:Nat) (d:ByteArray) (g c:Nat) (f:Nat->Bool),PM w gp cap P xs->P.length<=100000->dJ P t j->w.cell? ⟨gs,0,none⟩=some (.int .i64 j)->BR w g (d.size+1) c f->d.size<=200000000->
  Calls Tryz.prog 63 #[.slice (some ⟨gp,0,none⟩) P.length cap,.agg #[.int .u8 cc,.string ⟨#[]⟩,.slice (some ⟨gs,0,none⟩) 1 cp],.string d,.slice (some ⟨g,0,none⟩) (d.size+1) c] w fun e w'=>WD w cc t d f e w'
def gO (m:Nat) (a o:Nat->Bool) (j:Nat):Bool:=if j<m then a j && !o j else a j
def left (m:Nat) (a o:Nat->Bool):Bool:=(List.range m).any fun j=>a j && !o j
theorem dM (m:Nat) (a o:Nat->Bool):left (m+1) a o=(left m a o||(a m && !o m)):=by
 simp [left,List.range_succ]
theorem KW {m:Nat} {a o:Nat->Bool} (h:left m a o=false) (j:Nat) (hj:j<m):(a j && !o j)=false:=by
 simp only [left,List.any_eq_false] at h
 simpa using h j (by simpa using hj)
theorem CE {m:Nat} {a o:Nat->Bool} (h:left m a o=true):∃ j,j<m/\a j=true/\o j=false:=by
 simp only [left,List.any_eq_true,List.mem_range,Bool.and_eq_true,Bool.not_eq_true'] at h
 exact h
theorem cJ (m:Nat) (a o:Nat->Bool) (j:Nat):K8 (gO m a o) m (a m && !o m) j=gO (m+1) a o j:=by
 unfold K8 gO
 by_cases h:j=m
 ·subst h;simp
 ·rw [if_neg h]
  have:(j<m+1)=(j<m):=by simp;omega
  simp only [this]
def AA (w:World) (d:ByteArray) (st:Bool) (t:PT) (f:Nat->Bool) (x:Obj) (gk:Nat) (av ov mv:Value) (wv:World):Prop:=
 ∃ (g' c' go:Nat) (fa fo:Nat->Bool),av = .slice (some ⟨g',0,none⟩) (d.size+1) c'/\ov = .slice (some ⟨go,0,none⟩) (d.size+1) (d.size+1)/\BR wv g' (d.size+1) c' fa/\BR wv go (d.size+1) (d.size+1) fo/\w.heap.size<=go/\K0 w wv/\wv.heap[w.heap.size]? = some x/\fT st t d.data.toList f fo fa/\
  ((mv = .bool true/\yO (d.size+1) fo<gk)\/(mv = .bool false/\∀ j,j<=d.data.toList.length->fa j=false))
theorem QY (st:Bool) (t:PT) (fZ:cR t=true) (ih:gU t):WC (if st then 42 else 43) t:=by
 intro w gp cap P xs j gs cp d g c f oA dI dO uF hB hd
 obtain ⟨i0,jO,hz0,hz1,hz2⟩:=info_parts Tryz.infoBool
 have HB:=aB (And.intro hB (And.intro oA (And.intro dO (And.intro uF (And.intro ih fZ)))))
 have eC:=hB.lt
 have hdl:d.data.toList.length=d.size:=by simp
 have Hdl:=aB hdl
 clear oA dO hB uF ih fZ hdl
 have loop:∀ (w1:World) (gk0:Nat) (go:Nat) (fo:Nat->Bool),BR w1 go (d.size+1) (d.size+1) fo->w.heap.size<=go->K0 w w1->w1.heap[w.heap.size]? = some (.cells #[.int .u8 (if st then 42 else 43),.string ⟨#[]⟩,.slice (some ⟨gs,0,none⟩) 1 cp] 90 (0,0))->fT st t d.data.toList f fo f->yO (d.size+1) fo<gk0->
   AA w d st t f (.cells #[.int .u8 (if st then 42 else 43),.string ⟨#[]⟩,.slice (some ⟨gs,0,none⟩) 1 cp] 90 (0,0)) gk0 (.slice (some ⟨g,0,none⟩) (d.size+1) c) (.slice (some ⟨go,0,none⟩) (d.size+1) (d.size+1)) (.bool true) w1:=
  fun w1 gk0 go fo h1 h2 h3 h4 h5 h6=>⟨g,c,go,f,fo,rfl,rfl,(aA HB).1.k0 h3,h1,h2,h3,h4,h5,Or.inl ⟨rfl,h6⟩⟩
 have HL:=aB loop
 clear loop
 cases st with
 | true=>
  simp only [if_true] at HL ⊢
  go_enter Tryz.func63,Tryz.ntmps63
  go_wp2_with (at_make;refine wpList_make_full _ rfl _ _ 77 rfl 0 4 i0 (.bool false) 1 Tryz.underlying77 jO hz0 hz1 _ _ _ _ (d.size+1) rfl rfl (by simp) (by simp) (by rw [hz2];omega) (by unfold maxLen;omega) (by omega) ?_)
  intro w1 hown hgrow
  obtain ⟨hx,cO⟩:=jQ hgrow
  have x0:=aC hx 0
  have HX:=aB (And.intro hx cO)
  have JO:=aB (BR.made hown)
  have HBo:=aB (tA (aA JO) ((aA HB).1.k0 cO) (by omega))
  clear hown hgrow hx cO
  simp at x0
  go_wp2_with (go_at_call 62;refine (aA HBo).mono ?_;rintro e w2 ⟨g2,rfl,hg2,gI,hK2⟩)
  have hs1:=(aA HX).2.size
  go_loopg [3,9,10] (d.size+2) (fun gk av ov mv wv=>AA w d true t f (.cells #[.int .u8 42,.string ⟨#[]⟩,.slice (some ⟨gs,0,none⟩) 1 cp] 90 (0,0)) gk av ov mv wv)
  case atStart=>
   refine aA HL w2 _ g2 f (gI.congr (fun j _=>by simp)) (by omega) ((aA HX).2.trans hK2) ((hK2.heap (aD (aA HX).1)).trans (aA HX).1) (fT.start _ _ _) ?_
   have:=KQ (d.size+1) f
   omega
  case round=>
   obtain ⟨g',c',go,fa,fo,rfl,rfl,uI,kY,hgo,hK,hx,hI,TQ⟩:=hrel
   rcases TQ with ⟨rfl,CQ⟩ | ⟨rfl,hno⟩
   ·have x2:=aC hx 2
    simp at x2
    have hcs:wr.cell? ⟨gs,0,none⟩=some (.int .i64 j):=by
     rw [World.cell?_of_block (w:=w) (hK.heap (World.block_lt_of_cell? w _ (aA HB).2.2.2.1))];exact (aA HB).2.2.2.1
    have HE:=aB ((aA HB).2.2.2.2.1 wr gp cap P xs j d g' c' fa ((aA HB).2.1.k0 hK) dI (aA HB).2.2.1 uI hd)
    have aHC:=kY.lt
    have hws:=hK.size
    have hxl:=aD hx
    have HF:=aB (And.intro kY (And.intro hK (And.intro hx hI)))
    have Hm:=aB CQ
    clear uI kY hK hx hI CQ
    go_wp2_with (go_at_call 44;refine (aA HE).mono ?_;rintro e w3 ⟨g3,c3,f3,rfl,eF,M1,hK3,hg3,W7⟩)
    have hg3':=W7 (aA HB).2.2.2.2.2
    have HV:=aB M1
    have AM:Hid (BR w3 g3 (d.size+1) c3 (gO 0 f3 fo)/\BR w3 go (d.size+1) (d.size+1) fo/\K0 w w3/\w3.heap[w.heap.size]? = some (.cells #[.int .u8 42,.string ⟨#[]⟩,.slice (some ⟨gs,0,none⟩) 1 cp] 90 (0,0))):=
     ⟨eF.congr (fun j _=>by simp [gO]),(aA HF).1.k0 hK3,(aA HF).2.1.trans hK3,(hK3.heap hxl).trans (aA HF).2.2.1⟩
    clear eF M1 hK3 hg3 W7 x2 hcs
    go_loopg [10,11] (d.size+2) (fun gk mv iv wv=>∃ m:Nat,iv = .int .i64 m/\m<=d.size+1/\d.size+1-m<gk/\mv = .bool (left m f3 fo)/\BR wv g3 (d.size+1) c3 (gO m f3 fo)/\BR wv go (d.size+1) (d.size+1) fo/\K0 w wv/\wv.heap[w.heap.size]? = some (.cells #[.int .u8 42,.string ⟨#[]⟩,.slice (some ⟨gs,0,none⟩) 1 cp] 90 (0,0)))
    case atStart=>exact ⟨0,rfl,Nat.zero_le _,by omega,rfl,(aA AM).1,(aA AM).2.1,(aA AM).2.2.1,(aA AM).2.2.2⟩
    case round=>
     clear AM
     obtain ⟨m,rfl,hm,fW,rfl,hR,kY,hK,hx⟩:=hrel
     by_cases hlt:m<d.size+1
     ·have ca:=hR.cell m hlt
      have co:=kY.cell m hlt
      have fo':=hR.fz m
      have hmi:(m:Int)<(d.size:Int)+1:=by omega
      rw [show gO m f3 fo m=f3 m from by simp [gO]] at ca
      have eZ:=aB (And.intro hR (And.intro kY (And.intro hK hx)))
      clear hR kY hK hx
      cases hl:left m f3 fo with
      | true=>
       cases hf:f3 m with
       | true=>
        cases ho:fo m with
        | true=>
         rw [hf] at ca
         rw [ho] at co
         have HC:=aB (And.intro hf (And.intro ho hl))
         clear hf ho hl
         go_wp2
         go_roundg (gk-1)
         case measure=>omega
         case rel=>
          refine ⟨m+1,by go_num,by omega,by omega,?_,((aA eZ).1.set m false).congr (fun j _=>?_),(aA eZ).2.1.kept (Below.heap_setCell _ _ _ _ (by show go≠g3;omega)),(aA eZ).2.2.1.set (by omega) _ _,(Below.heap_setCell _ _ _ _ (by show w.heap.size≠g3;omega)).trans (aA eZ).2.2.2⟩
          ·rw [dM,(aA HC).1,(aA HC).2.1,(aA HC).2.2];rfl
          ·rw [← cJ m f3 fo j,(aA HC).1,(aA HC).2.1];rfl
        | false=>
         rw [hf] at ca
         rw [ho] at co
         have HC:=aB (And.intro hf (And.intro ho hl))
         clear hf ho hl
         go_wp2
         go_roundg (gk-1)
         case measure=>omega
         case rel=>
          refine ⟨m+1,by go_num,by omega,by omega,?_,((aA eZ).1.set m true).congr (fun j _=>?_),(aA eZ).2.1.kept (Below.heap_setCell _ _ _ _ (by show go≠g3;omega)),(aA eZ).2.2.1.set (by omega) _ _,(Below.heap_setCell _ _ _ _ (by show w.heap.size≠g3;omega)).trans (aA eZ).2.2.2⟩
          ·rw [dM,(aA HC).1,(aA HC).2.1,(aA HC).2.2];rfl
          ·rw [← cJ m f3 fo j,(aA HC).1,(aA HC).2.1];rfl
       | false=>
        cases ho:fo m with
        | true=>
         rw [hf] at ca
         clear co
         have HC:=aB (And.intro hf (And.intro ho hl))
         clear hf ho hl
         go_wp2
         go_roundg (gk-1)
         case measure=>omega
         case rel=>
          refine ⟨m+1,by go_num,by omega,by omega,?_,((aA eZ).1.set m false).congr (fun j _=>?_),(aA eZ).2.1.kept (Below.heap_setCell _ _ _ _ (by show go≠g3;omega)),(aA eZ).2.2.1.set (by omega) _ _,(Below.heap_setCell _ _ _ _ (by show w.heap.size≠g3;omega)).trans (aA eZ).2.2.2⟩
          ·rw [dM,(aA HC).1,(aA HC).2.1,(aA HC).2.2];rfl
          ·rw [← cJ m f3 fo j,(aA HC).1,(aA HC).2.1];rfl
        | false=>
         rw [hf] at ca
         clear co
         have HC:=aB (And.intro hf (And.intro ho hl))
         clear hf ho hl
         go_wp2
         go_roundg (gk-1)
         case measure=>omega
         case rel=>
          refine ⟨m+1,by go_num,by omega,by omega,?_,((aA eZ).1.set m false).congr (fun j _=>?_),(aA eZ).2.1.kept (Below.heap_setCell _ _ _ _ (by show go≠g3;omega)),(aA eZ).2.2.1.set (by omega) _ _,(Below.heap_setCell _ _ _ _ (by show w.heap.size≠g3;omega)).trans (aA eZ).2.2.2⟩
          ·rw [dM,(aA HC).1,(aA HC).2.1,(aA HC).2.2];rfl
          ·rw [← cJ m f3 fo j,(aA HC).1,(aA HC).2.1];rfl
      | false=>
       cases hf:f3 m with
       | true=>
        cases ho:fo m with
        | true=>
         rw [hf] at ca
         rw [ho] at co
         have HC:=aB (And.intro hf (And.intro ho hl))
         clear hf ho hl
         go_wp2
         go_roundg (gk-1)
         case measure=>omega
         case rel=>
          refine ⟨m+1,by go_num,by omega,by omega,?_,((aA eZ).1.set m false).congr (fun j _=>?_),(aA eZ).2.1.kept (Below.heap_setCell _ _ _ _ (by show go≠g3;omega)),(aA eZ).2.2.1.set (by omega) _ _,(Below.heap_setCell _ _ _ _ (by show w.heap.size≠g3;omega)).trans (aA eZ).2.2.2⟩
          ·rw [dM,(aA HC).1,(aA HC).2.1,(aA HC).2.2];rfl
          ·rw [← cJ m f3 fo j,(aA HC).1,(aA HC).2.1];rfl
        | false=>
         rw [hf] at ca
         rw [ho] at co
         have HC:=aB (And.intro hf (And.intro ho hl))
         clear hf ho hl
         go_wp2
         go_roundg (gk-1)
         case measure=>omega
         case rel=>
          refine ⟨m+1,by go_num,by omega,by omega,?_,((aA eZ).1.set m true).congr (fun j _=>?_),(aA eZ).2.1.kept (Below.heap_setCell _ _ _ _ (by show go≠g3;omega)),(aA eZ).2.2.1.set (by omega) _ _,(Below.heap_setCell _ _ _ _ (by show w.heap.size≠g3;omega)).trans (aA eZ).2.2.2⟩
          ·rw [dM,(aA HC).1,(aA HC).2.1,(aA HC).2.2];rfl
          ·rw [← cJ m f3 fo j,(aA HC).1,(aA HC).2.1];rfl
       | false=>
        cases ho:fo m with
        | true=>
         rw [hf] at ca
         clear co
         have HC:=aB (And.intro hf (And.intro ho hl))
         clear hf ho hl
         go_wp2
         go_roundg (gk-1)
         case measure=>omega
         case rel=>
          refine ⟨m+1,by go_num,by omega,by omega,?_,((aA eZ).1.set m false).congr (fun j _=>?_),(aA eZ).2.1.kept (Below.heap_setCell _ _ _ _ (by show go≠g3;omega)),(aA eZ).2.2.1.set (by omega) _ _,(Below.heap_setCell _ _ _ _ (by show w.heap.size≠g3;omega)).trans (aA eZ).2.2.2⟩
          ·rw [dM,(aA HC).1,(aA HC).2.1,(aA HC).2.2];rfl
          ·rw [← cJ m f3 fo j,(aA HC).1,(aA HC).2.1];rfl
        | false=>
         rw [hf] at ca
         clear co
         have HC:=aB (And.intro hf (And.intro ho hl))
         clear hf ho hl
         go_wp2
         go_roundg (gk-1)
         case measure=>omega
         case rel=>
          refine ⟨m+1,by go_num,by omega,by omega,?_,((aA eZ).1.set m false).congr (fun j _=>?_),(aA eZ).2.1.kept (Below.heap_setCell _ _ _ _ (by show go≠g3;omega)),(aA eZ).2.2.1.set (by omega) _ _,(Below.heap_setCell _ _ _ _ (by show w.heap.size≠g3;omega)).trans (aA eZ).2.2.2⟩
          ·rw [dM,(aA HC).1,(aA HC).2.1,(aA HC).2.2];rfl
          ·rw [← cJ m f3 fo j,(aA HC).1,(aA HC).2.1];rfl
     ·obtain rfl:m=d.size+1:=by omega
      have HBo:=aB (tA kY hR (by omega))
      have eZ:=aB (And.intro hR (And.intro kY (And.intro hK hx)))
      clear hR kY hK hx
      go_wp2_with (go_at_call 62;refine (aA HBo).mono ?_;rintro e w6 ⟨g6,rfl,d8,rK,uK⟩)
      go_roundg (yO (d.size+1) fo)
      case measure=>exact aA Hm
      case rel=>
       have hs:=(aA eZ).2.2.1.size
       refine ⟨g3,c3,g6,fun j=>f3 j && !fo j,fun j=>fo j||(f3 j && !fo j),rfl,rfl,((aA eZ).1.k0 uK).congr (fun j hj=>by simp [gO,hj]),rK.congr (fun j hj=>by simp [gO,hj]),by omega,(aA eZ).2.2.1.trans uK,(uK.heap (aD (aA eZ).2.2.2)).trans (aA eZ).2.2.2,fT.step (aA HF).2.2.2 (aA HV),?_⟩
       cases hl:left (d.size+1) f3 fo with
       | true=>
        obtain ⟨k,hk,aY,hk2⟩:=CE hl
        exact Or.inl ⟨rfl,KP (fun j _ h=>by simp [h]) k hk hk2 (by simp [aY,hk2])⟩
       | false=>exact Or.inr ⟨rfl,fun j hj=>KW hl j (by rw [aA Hdl] at hj;omega)⟩
   ·have HF:=aB (hI.done hno)
    clear hI hno
    go_wp2
    go_ret
    exact ⟨go,fo,rfl,kY,aA HF,hK,hgo⟩
 | false=>
  simp only [Bool.false_eq_true,if_false] at HL ⊢
  go_enter Tryz.func63,Tryz.ntmps63
  go_wp2_with (at_make;refine wpList_make_full _ rfl _ _ 77 rfl 0 4 i0 (.bool false) 1 Tryz.underlying77 jO hz0 hz1 _ _ _ _ (d.size+1) rfl rfl (by simp) (by simp) (by rw [hz2];omega) (by unfold maxLen;omega) (by omega) ?_)
  intro w1 hown hgrow
  obtain ⟨hx,cO⟩:=jQ hgrow
  have x0:=aC hx 0
  have HX:=aB (And.intro hx cO)
  have JO:=aB (BR.made hown)
  clear hown hgrow hx cO
  simp at x0
  go_wp2_with fail
  have hs1:=(aA HX).2.size
  go_loopg [3,9,10] (d.size+2) (fun gk av ov mv wv=>AA w d false t f (.cells #[.int .u8 43,.string ⟨#[]⟩,.slice (some ⟨gs,0,none⟩) 1 cp] 90 (0,0)) gk av ov mv wv)
  case atStart=>
   refine aA HL w1 _ _ _ (aA JO) (by omega) (aA HX).2 (aA HX).1 (fT.plus _ _ _) ?_
   have:=KQ (d.size+1) (fun _=>false)
   omega
  case round=>
   obtain ⟨g',c',go,fa,fo,rfl,rfl,uI,kY,hgo,hK,hx,hI,TQ⟩:=hrel
   rcases TQ with ⟨rfl,CQ⟩ | ⟨rfl,hno⟩
   ·have x2:=aC hx 2
    simp at x2
    have hcs:wr.cell? ⟨gs,0,none⟩=some (.int .i64 j):=by
     rw [World.cell?_of_block (w:=w) (hK.heap (World.block_lt_of_cell? w _ (aA HB).2.2.2.1))];exact (aA HB).2.2.2.1
    have HE:=aB ((aA HB).2.2.2.2.1 wr gp cap P xs j d g' c' fa ((aA HB).2.1.k0 hK) dI (aA HB).2.2.1 uI hd)
    have aHC:=kY.lt
    have hws:=hK.size
    have hxl:=aD hx
    have HF:=aB (And.intro kY (And.intro hK (And.intro hx hI)))
    have Hm:=aB CQ
    clear uI kY hK hx hI CQ
    go_wp2_with (go_at_call 44;refine (aA HE).mono ?_;rintro e w3 ⟨g3,c3,f3,rfl,eF,M1,hK3,hg3,W7⟩)
    have hg3':=W7 (aA HB).2.2.2.2.2
    have HV:=aB M1
    have AM:Hid (BR w3 g3 (d.size+1) c3 (gO 0 f3 fo)/\BR w3 go (d.size+1) (d.size+1) fo/\K0 w w3/\w3.heap[w.heap.size]? = some (.cells #[.int .u8 43,.string ⟨#[]⟩,.slice (some ⟨gs,0,none⟩) 1 cp] 90 (0,0))):=
     ⟨eF.congr (fun j _=>by simp [gO]),(aA HF).1.k0 hK3,(aA HF).2.1.trans hK3,(hK3.heap hxl).trans (aA HF).2.2.1⟩
    clear eF M1 hK3 hg3 W7 x2 hcs
    go_loopg [10,11] (d.size+2) (fun gk mv iv wv=>∃ m:Nat,iv = .int .i64 m/\m<=d.size+1/\d.size+1-m<gk/\mv = .bool (left m f3 fo)/\BR wv g3 (d.size+1) c3 (gO m f3 fo)/\BR wv go (d.size+1) (d.size+1) fo/\K0 w wv/\wv.heap[w.heap.size]? = some (.cells #[.int .u8 43,.string ⟨#[]⟩,.slice (some ⟨gs,0,none⟩) 1 cp] 90 (0,0)))
    case atStart=>exact ⟨0,rfl,Nat.zero_le _,by omega,rfl,(aA AM).1,(aA AM).2.1,(aA AM).2.2.1,(aA AM).2.2.2⟩
    case round=>
     clear AM
     obtain ⟨m,rfl,hm,fW,rfl,hR,kY,hK,hx⟩:=hrel
     by_cases hlt:m<d.size+1
     ·have ca:=hR.cell m hlt
      have co:=kY.cell m hlt
      have fo':=hR.fz m
      have hmi:(m:Int)<(d.size:Int)+1:=by omega
      rw [show gO m f3 fo m=f3 m from by simp [gO]] at ca
      have eZ:=aB (And.intro hR (And.intro kY (And.intro hK hx)))
      clear hR kY hK hx
      cases hl:left m f3 fo with
      | true=>
       cases hf:f3 m with
       | true=>
        cases ho:fo m with
        | true=>
         rw [hf] at ca
         rw [ho] at co
         have HC:=aB (And.intro hf (And.intro ho hl))
         clear hf ho hl
         go_wp2
         go_roundg (gk-1)
         case measure=>omega
         case rel=>
          refine ⟨m+1,by go_num,by omega,by omega,?_,((aA eZ).1.set m false).congr (fun j _=>?_),(aA eZ).2.1.kept (Below.heap_setCell _ _ _ _ (by show go≠g3;omega)),(aA eZ).2.2.1.set (by omega) _ _,(Below.heap_setCell _ _ _ _ (by show w.heap.size≠g3;omega)).trans (aA eZ).2.2.2⟩
          ·rw [dM,(aA HC).1,(aA HC).2.1,(aA HC).2.2];rfl
          ·rw [← cJ m f3 fo j,(aA HC).1,(aA HC).2.1];rfl
        | false=>
         rw [hf] at ca
         rw [ho] at co
         have HC:=aB (And.intro hf (And.intro ho hl))
         clear hf ho hl
         go_wp2
         go_roundg (gk-1)
         case measure=>omega
         case rel=>
          refine ⟨m+1,by go_num,by omega,by omega,?_,((aA eZ).1.set m true).congr (fun j _=>?_),(aA eZ).2.1.kept (Below.heap_setCell _ _ _ _ (by show go≠g3;omega)),(aA eZ).2.2.1.set (by omega) _ _,(Below.heap_setCell _ _ _ _ (by show w.heap.size≠g3;omega)).trans (aA eZ).2.2.2⟩
          ·rw [dM,(aA HC).1,(aA HC).2.1,(aA HC).2.2];rfl
          ·rw [← cJ m f3 fo j,(aA HC).1,(aA HC).2.1];rfl
       | false=>
        cases ho:fo m with
        | true=>
         rw [hf] at ca
         clear co
         have HC:=aB (And.intro hf (And.intro ho hl))
         clear hf ho hl
         go_wp2
         go_roundg (gk-1)
         case measure=>omega
         case rel=>
          refine ⟨m+1,by go_num,by omega,by omega,?_,((aA eZ).1.set m false).congr (fun j _=>?_),(aA eZ).2.1.kept (Below.heap_setCell _ _ _ _ (by show go≠g3;omega)),(aA eZ).2.2.1.set (by omega) _ _,(Below.heap_setCell _ _ _ _ (by show w.heap.size≠g3;omega)).trans (aA eZ).2.2.2⟩
          ·rw [dM,(aA HC).1,(aA HC).2.1,(aA HC).2.2];rfl
          ·rw [← cJ m f3 fo j,(aA HC).1,(aA HC).2.1];rfl
        | false=>
         rw [hf] at ca
         clear co
         have HC:=aB (And.intro hf (And.intro ho hl))
         clear hf ho hl
         go_wp2
         go_roundg (gk-1)
         case measure=>omega
         case rel=>
          refine ⟨m+1,by go_num,by omega,by omega,?_,((aA eZ).1.set m false).congr (fun j _=>?_),(aA eZ).2.1.kept (Below.heap_setCell _ _ _ _ (by show go≠g3;omega)),(aA eZ).2.2.1.set (by omega) _ _,(Below.heap_setCell _ _ _ _ (by show w.heap.size≠g3;omega)).trans (aA eZ).2.2.2⟩
          ·rw [dM,(aA HC).1,(aA HC).2.1,(aA HC).2.2];rfl
          ·rw [← cJ m f3 fo j,(aA HC).1,(aA HC).2.1];rfl
      | false=>
       cases hf:f3 m with
       | true=>
        cases ho:fo m with
        | true=>
         rw [hf] at ca
         rw [ho] at co
         have HC:=aB (And.intro hf (And.intro ho hl))
         clear hf ho hl
         go_wp2
         go_roundg (gk-1)
         case measure=>omega
         case rel=>
          refine ⟨m+1,by go_num,by omega,by omega,?_,((aA eZ).1.set m false).congr (fun j _=>?_),(aA eZ).2.1.kept (Below.heap_setCell _ _ _ _ (by show go≠g3;omega)),(aA eZ).2.2.1.set (by omega) _ _,(Below.heap_setCell _ _ _ _ (by show w.heap.size≠g3;omega)).trans (aA eZ).2.2.2⟩
          ·rw [dM,(aA HC).1,(aA HC).2.1,(aA HC).2.2];rfl
          ·rw [← cJ m f3 fo j,(aA HC).1,(aA HC).2.1];rfl
        | false=>
         rw [hf] at ca
         rw [ho] at co
         have HC:=aB (And.intro hf (And.intro ho hl))
         clear hf ho hl
         go_wp2
         go_roundg (gk-1)
         case measure=>omega
         case rel=>
          refine ⟨m+1,by go_num,by omega,by omega,?_,((aA eZ).1.set m true).congr (fun j _=>?_),(aA eZ).2.1.kept (Below.heap_setCell _ _ _ _ (by show go≠g3;omega)),(aA eZ).2.2.1.set (by omega) _ _,(Below.heap_setCell _ _ _ _ (by show w.heap.size≠g3;omega)).trans (aA eZ).2.2.2⟩
          ·rw [dM,(aA HC).1,(aA HC).2.1,(aA HC).2.2];rfl
          ·rw [← cJ m f3 fo j,(aA HC).1,(aA HC).2.1];rfl
       | false=>
        cases ho:fo m with
        | true=>
         rw [hf] at ca
         clear co
         have HC:=aB (And.intro hf (And.intro ho hl))
         clear hf ho hl
         go_wp2
         go_roundg (gk-1)
         case measure=>omega
         case rel=>
          refine ⟨m+1,by go_num,by omega,by omega,?_,((aA eZ).1.set m false).congr (fun j _=>?_),(aA eZ).2.1.kept (Below.heap_setCell _ _ _ _ (by show go≠g3;omega)),(aA eZ).2.2.1.set (by omega) _ _,(Below.heap_setCell _ _ _ _ (by show w.heap.size≠g3;omega)).trans (aA eZ).2.2.2⟩
          ·rw [dM,(aA HC).1,(aA HC).2.1,(aA HC).2.2];rfl
          ·rw [← cJ m f3 fo j,(aA HC).1,(aA HC).2.1];rfl
        | false=>
         rw [hf] at ca
         clear co
         have HC:=aB (And.intro hf (And.intro ho hl))
         clear hf ho hl
         go_wp2
         go_roundg (gk-1)
         case measure=>omega
         case rel=>
          refine ⟨m+1,by go_num,by omega,by omega,?_,((aA eZ).1.set m false).congr (fun j _=>?_),(aA eZ).2.1.kept (Below.heap_setCell _ _ _ _ (by show go≠g3;omega)),(aA eZ).2.2.1.set (by omega) _ _,(Below.heap_setCell _ _ _ _ (by show w.heap.size≠g3;omega)).trans (aA eZ).2.2.2⟩
          ·rw [dM,(aA HC).1,(aA HC).2.1,(aA HC).2.2];rfl
          ·rw [← cJ m f3 fo j,(aA HC).1,(aA HC).2.1];rfl
     ·obtain rfl:m=d.size+1:=by omega
      have HBo:=aB (tA kY hR (by omega))
      have eZ:=aB (And.intro hR (And.intro kY (And.intro hK hx)))
      clear hR kY hK hx
      go_wp2_with (go_at_call 62;refine (aA HBo).mono ?_;rintro e w6 ⟨g6,rfl,d8,rK,uK⟩)
      go_roundg (yO (d.size+1) fo)
      case measure=>exact aA Hm
      case rel=>
       have hs:=(aA eZ).2.2.1.size
       refine ⟨g3,c3,g6,fun j=>f3 j && !fo j,fun j=>fo j||(f3 j && !fo j),rfl,rfl,((aA eZ).1.k0 uK).congr (fun j hj=>by simp [gO,hj]),rK.congr (fun j hj=>by simp [gO,hj]),by omega,(aA eZ).2.2.1.trans uK,(uK.heap (aD (aA eZ).2.2.2)).trans (aA eZ).2.2.2,fT.step (aA HF).2.2.2 (aA HV),?_⟩
       cases hl:left (d.size+1) f3 fo with
       | true=>
        obtain ⟨k,hk,aY,hk2⟩:=CE hl
        exact Or.inl ⟨rfl,KP (fun j _ h=>by simp [h]) k hk hk2 (by simp [aY,hk2])⟩
       | false=>exact Or.inr ⟨rfl,fun j hj=>KW hl j (by rw [aA Hdl] at hj;omega)⟩
   ·have HF:=aB (hI.done hno)
    clear hI hno
    go_wp2
    go_ret
    exact ⟨go,fo,rfl,kY,aA HF,hK,hgo⟩
theorem S7 (st:Bool) (t:PT) (fZ:cR t=true) (ih:gU t):gU (.rep (if st then 42 else 43) t):=by
 intro w gp cap P xs k d g c f oA dI dO hB hd
 rw [dJ] at dO
 obtain ⟨_,j,dO,hL⟩:=dO
 obtain ⟨hk,ao,cp,p0,p1,p2,xG⟩:=oA.cells dO
 obtain ⟨gs,rfl,uF⟩:=tP (ks:=[j]) xG (m:=0) (k:=j) rfl
 obtain ⟨i0,jO,hz0,hz1,hz2⟩:=info_parts Tryz.infoBool
 have aY:(k:Int)<(P.length:Int):=by omega
 have HR:=aB (QY st t fZ ih)
 have HB:=aB (And.intro hB (And.intro oA (And.intro hL uF)))
 have eC:=hB.lt
 clear oA dO hB xG hL ih uF fZ
 simp only at p0 p1 p2
 cases st with
 | true=>
  simp only [if_true] at p0 HR ⊢
  go_enter Tryz.func44,Tryz.ntmps44
  go_wp2_with (at_make;refine wpList_make_full _ rfl _ _ 77 rfl 0 4 i0 (.bool false) 1 Tryz.underlying77 jO hz0 hz1 _ _ _ _ (d.size+1) rfl rfl (by simp) (by simp) (by rw [hz2];omega) (by unfold maxLen;omega) (by omega) ?_)
  intro w1 hown hgrow
  obtain ⟨hx,cO⟩:=jQ hgrow
  have x0:=aC hx 0
  have x1:=aC hx 1
  have x2:=aC hx 2
  have HX:=aB cO
  have hcs:w1.cell? ⟨gs,0,none⟩=some (.int .i64 j):=by
   rw [World.cell?_of_block (w:=w) (cO.heap (World.block_lt_of_cell? w _ (aA HB).2.2.2))];exact (aA HB).2.2.2
  have HE:=aB (aA HR w1 gp cap P xs j gs cp d g c f ((aA HB).2.1.k0 cO) dI (aA HB).2.2.1 hcs ((aA HB).1.k0 cO) hd)
  clear hown hgrow hx cO p0 p1 p2 hcs
  simp at x0 x1 x2
  go_wp2_with (go_at_call 63;refine (aA HE).mono ?_;rintro e w3 ⟨g3,f3,rfl,eF,M1,hK3,hg3⟩)
  go_ret
  have hs1:=(aA HX).size
  exact ⟨g3,_,f3,rfl,eF,M1,(aA HX).trans hK3,Or.inr (by omega),fun _=>by omega⟩
 | false=>
  simp only [Bool.false_eq_true,if_false] at p0 HR ⊢
  go_enter Tryz.func44,Tryz.ntmps44
  go_wp2_with (at_make;refine wpList_make_full _ rfl _ _ 77 rfl 0 4 i0 (.bool false) 1 Tryz.underlying77 jO hz0 hz1 _ _ _ _ (d.size+1) rfl rfl (by simp) (by simp) (by rw [hz2];omega) (by unfold maxLen;omega) (by omega) ?_)
  intro w1 hown hgrow
  obtain ⟨hx,cO⟩:=jQ hgrow
  have x0:=aC hx 0
  have x1:=aC hx 1
  have x2:=aC hx 2
  have HX:=aB cO
  have hcs:w1.cell? ⟨gs,0,none⟩=some (.int .i64 j):=by
   rw [World.cell?_of_block (w:=w) (cO.heap (World.block_lt_of_cell? w _ (aA HB).2.2.2))];exact (aA HB).2.2.2
  have HE:=aB (aA HR w1 gp cap P xs j gs cp d g c f ((aA HB).2.1.k0 cO) dI (aA HB).2.2.1 hcs ((aA HB).1.k0 cO) hd)
  clear hown hgrow hx cO p0 p1 p2 hcs
  simp at x0 x1 x2
  go_wp2_with (go_at_call 63;refine (aA HE).mono ?_;rintro e w3 ⟨g3,f3,rfl,eF,M1,hK3,hg3⟩)
  go_ret
  have hs1:=(aA HX).size
  exact ⟨g3,_,f3,rfl,eF,M1,(aA HX).trans hK3,Or.inr (by omega),fun _=>by omega⟩
theorem T5:∀ {l:List PT},N5 l=true->∀ t,t∈l->wf t=true
 | [],_,t,h=>by cases h
 | u::l,h,t,ht=>by
  rw [N5,Bool.and_eq_true] at h
  rcases List.mem_cons.1 ht with rfl | ht
  ·exact h.1
  ·exact T5 h.2 t ht
theorem sX:∀ t,wf t=true->gU t
 | .chr l,h=>VJ l (by rw [wf] at h;exact of_decide_eq_true h)
 | .seq l,h=>VH l (fun t ht=>sX t (T5 (by rw [wf] at h;exact h) t ht))
 | .alt l,h=>VK l (fun t ht=>sX t (T5 (by rw [wf] at h;exact h) t ht))
 | .rep c t,h=>by
  rw [wf,Bool.and_eq_true] at h
  have ih:=sX t h.2
  by_cases h1:c=42
  ·subst h1;exact S7 true t h.1 ih
  ·by_cases h2:c=43
   ·subst h2;exact S7 false t h.1 ih
   ·by_cases h3:c=63
    ·subst h3;exact VI t ih
    ·intro w gp cap P xs k d g c' f _ _ dO
     rw [dJ] at dO
     omega
termination_by t=>SizeOf.sizeOf t
decreasing_by
 all_goals simp_wf
 all_goals first | (have:=List.sizeOf_lt_of_mem ht;omega) | omega
def WP (w:World) (t:PT) (d:ByteArray) (e:Ending) (w':World):Prop:=∃ x:Bool,e = .returned (.bool x)/\(x=true↔M t d.data.toList)/\K0 w w'
theorem V5 {w:World} {gp cap:Nat} {P:List iD} {xs:List Value} {k:Nat} {t:PT} {d:ByteArray} (oA:PM w gp cap P xs) (dI:P.length<=100000) (dO:dJ P t k) (PI:wf t=true) (hd:d.size<=200000000):
  Calls Tryz.prog 45 #[.slice (some ⟨gp,0,none⟩) P.length cap,.int .i64 k,.string d] w fun e w'=>WP w t d e w':=by
 obtain ⟨i0,jO,hz0,hz1,hz2⟩:=info_parts Tryz.infoBool
 have HB:=aB (And.intro oA (And.intro dO (sX t PI)))
 have hds:(d.size:Int)<(d.size:Int)+1:=by omega
 clear oA dO PI
 go_enter Tryz.func45,Tryz.ntmps45
 go_wp2_with (at_make;refine wpList_make_full _ rfl _ _ 77 rfl 0 4 i0 (.bool false) 1 Tryz.underlying77 jO hz0 hz1 _ _ _ _ (d.size+1) rfl rfl (by simp) (by simp) (by rw [hz2];omega) (by unfold maxLen;omega) (by omega) ?_)
 intro w1 hown hgrow
 have gJ:=BR.made hown
 have cO:K0 w w1:=Kp.of_grown hgrow (fun _ e=>by cases e)
 have hc0:=gJ.cell 0 (by omega)
 have XM:=gJ.fz 0
 have gI:=gJ.set 0 true
 have hK2:=cO.set (Nat.le_refl _) 0 (.bool true)
 have HE:=aB ((aA HB).2.2 _ gp cap P xs k d _ _ _ ((aA HB).1.k0 hK2) dI (aA HB).2.1 gI hd)
 have HK:=aB hK2
 clear gJ cO gI hK2 hown hgrow
 go_wp2_with fail
 refine (aA HE).mono ?_
 rintro e w3 ⟨g3,c3,f3,rfl,eF,M1,hK3,_,_⟩
 have hc3:=eF.cell d.size (by omega)
 have HV:=aB (And.intro M1 ((aA HK).trans hK3))
 clear M1 hK3
 go_wp2
 go_ret
 refine ⟨f3 d.size,rfl,?_,(aA HV).2⟩
 have hdl:d.data.toList.length=d.size:=by simp
 rw [(aA HV).1 d.size (by omega)]
 constructor
 ·rintro ⟨i,hi,hu,hm⟩
  have:i=0:=by
   unfold K8 at hu
   by_cases h:i=0
   ·exact h
   ·rw [if_neg h] at hu;cases hu
  subst this
  rw [← hdl,o7] at hm
  exact hm
 ·intro hm
  exact ⟨0,Nat.zero_le _,rfl,by rw [← hdl,o7];exact hm⟩
end Go.Proofs.YtlljggefbngkeaaGreatDoor
