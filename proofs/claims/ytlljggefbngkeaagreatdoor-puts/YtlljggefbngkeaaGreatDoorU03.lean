import Derived.Test.YtlljggefbngkeaaGreatDoorU02
import Derived.BigRegion
import Derived.Maps.AppendAt
import Derived.Maps.Range
set_option maxHeartbeats 800000
namespace Go.Proofs.YtlljggefbngkeaaGreatDoor
open Go.RowKit
theorem aC {w:World} {b:Nat} {c:Array Value} {T:TypeId} {f:Nat×Nat} (h:w.heap[b]? = some (.cells c T f)) (o:Nat):w.cell? ⟨b,o,none⟩=c[o]? := by
 simp [World.cell?,h]
theorem aM {w:World} {b:Nat} {c:Array Value} {T:TypeId} (h:w.heap[b]? = some (.cells c T (0,0))) (o:Nat):w.frozen? ⟨b,o,none⟩=false:=by
 simp [World.frozen?,h]
theorem aK {w:World} {b:Nat} {c:Array Value} {T:TypeId} {f:Nat×Nat} (h:w.heap[b]? = some (.cells c T f)) (o:Nat) (v:Value):
  (w.setCell ⟨b,o,none⟩ v).heap[b]? = some (.cells (c.setIfInBounds o v) T f):=by
 simp [World.setCell,Array.getElem?_modify,h]
theorem aD {w:World} {b:Nat} {x:Obj} (h:w.heap[b]? = some x):b<w.heap.size:=by
 exact (Array.getElem?_eq_some_iff.1 h).1
theorem heap_alloc_old {w:World} {b:Nat} {x:Obj} (o:Obj) (h:w.heap[b]? = some x):(w.alloc o).heap[b]? = some x:=by
 rw [Below.heap_alloc _ _ _ (aD h)];exact h
theorem aT (w:World) (b o:Nat) (v:Value):w.grownBy (w.setCell ⟨b,o,none⟩ v) (some b):=
 ⟨rfl,rfl,rfl,by simp [World.setCell],fun k _ hne=>Below.heap_setCell _ _ _ _ (fun e=>hne (by simp at e;rw [e]))⟩
theorem aN (w:World) (n:Nat) (r:Option Nat):w.grownBy (w.drewN n) r:=⟨rfl,rfl,rfl,Nat.le_refl _,fun _ _ _=>rfl⟩
theorem aU (w:World) (r:Option Nat):w.grownBy w.drew r:=⟨rfl,rfl,rfl,Nat.le_refl _,fun _ _ _=>rfl⟩
theorem iB (w:World):w.drew.heap=w.heap:=rfl
def eM (s:ByteArray) (i:Nat) (bad:Bool) (wr:Int) (out:ByteArray) (pv lv:Value):Obj:=
 .cells #[.string s,.int .i64 i,.bool bad,.int .i64 wr,.string out,pv,lv] 75 (0,0)
def cE (s:ByteArray) (i:Nat) (bad:Bool):Int:=if bad then 0 else if h:i<s.size then (s[i].toNat:Int) else 0
theorem gC (s:ByteArray) (i:Nat):cE s i true=0:=rfl
theorem MZ (s:ByteArray) (i:Nat) (b:Bool) (h:¬ i<s.size):cE s i b=0:=by simp [cE,h]
theorem RT (s:ByteArray) (i:Nat) (h:i<s.size):cE s i false=(s[i].toNat:Int):=by simp [cE,h]
theorem gP {w:World} {b:Nat} {s:ByteArray} {i:Nat} {bad:Bool} {wr:Int} {out:ByteArray} {pv lv:Value} (h:w.heap[b]? = some (eM s i bad wr out pv lv)) (_hs:s.size<=120) (hi:i<=s.size):
  Calls Tryz.prog 58 #[.pointer (some ⟨b,0,none⟩)] w fun e w'=>e = .returned (.int .u8 (cE s i bad))/\∃ n,w'=w.drewN n:=by
 have c0:=aC h 0
 have c1:=aC h 1
 have c2:=aC h 2
 clear h
 simp at c0 c1 c2
 cases bad with
 | true=>
  go_enter Tryz.func58,Tryz.ntmps58
  go_wp2_with fail
  go_quiet (fail)
  go_wp2
  go_ret
  exact ⟨by simp [cE],nq,rfl⟩
 | false=>
  by_cases hlt:i<s.size
  ·have hd:decide ((s.size:Int)<=(i:Int))=false:=by simp;omega
   go_enter Tryz.func58,Tryz.ntmps58
   go_wp2_with fail
   go_quiet (fail)
   go_wp2_with fail
   go_quiet (fail)
   go_wp2
   go_ret
   exact ⟨by simp [cE,hlt],_,World.drewN_drewN _ _ _⟩
  ·have hd:decide ((s.size:Int)<=(i:Int))=true:=by simp;omega
   go_enter Tryz.func58,Tryz.ntmps58
   go_wp2_with fail
   go_quiet (fail)
   go_wp2
   go_ret
   exact ⟨by simp [cE,hlt],nq,rfl⟩
theorem YJ {w:World} {b:Nat} {s:ByteArray} {i:Nat} {bad:Bool} {wr:Int} {out:ByteArray} {pv lv:Value} (h:w.heap[b]? = some (eM s i bad wr out pv lv)) (hs:s.size<=120) (hi:i<=s.size) (hno:bad=true\/¬ i<s.size):
  Calls Tryz.prog 59 #[.pointer (some ⟨b,0,none⟩)] w fun e w'=>e = .returned (.int .u8 0)/\w'.heap[b]? = some (eM s i true wr out pv lv)/\w.grownBy w' (some b):=by
 have c0:=aC h 0
 have c1:=aC h 1
 have c2:=aC h 2
 have fz:=aM h 2
 have hp:=gP h hs hi
 have HP:Hid (Calls Tryz.prog 58 #[.pointer (some ⟨b,0,none⟩)] w fun e w'=>e = .returned (.int .u8 (cE s i bad))/\∃ n,w'=w.drewN n):=hp
 have HB:Hid (w.heap[b]? = some (eM s i bad wr out pv lv)):=h
 clear h hp
 simp at c0 c1 c2
 have fin:∀ n,((w.drewN n).setCell ⟨b,2,none⟩ (.bool true)).heap[b]? = some (eM s i true wr out pv lv)/\w.grownBy ((w.drewN n).setCell ⟨b,2,none⟩ (.bool true)) (some b):=by
  intro n
  refine ⟨?_,(aN w n _).trans (aT _ _ _ _)⟩
  have:=aK (w:=w.drewN n) (b:=b) HB.out 2 (.bool true)
  simpa [eM] using this
 cases bad with
 | true=>
  go_enter Tryz.func59,Tryz.ntmps59
  go_wp2_with (go_at_call 58;refine HP.out.mono ?_;rintro e w' ⟨rfl,n,rfl⟩)
  go_quiet (fail)
  go_wp2
  go_ret
  refine ⟨rfl,?_⟩
  have:=fin (n+nq)
  simpa using this
 | false=>
  have hlt:¬ i<s.size:=by simpa using hno
  have hd:decide ((s.size:Int)<=(i:Int))=true:=by simp;omega
  go_enter Tryz.func59,Tryz.ntmps59
  go_wp2_with (go_at_call 58;refine HP.out.mono ?_;rintro e w' ⟨rfl,n,rfl⟩)
  go_quiet (fail)
  go_wp2
  go_ret
  refine ⟨rfl,?_⟩
  have:=fin (n+nq)
  simpa using this
theorem aBN (W:World) (k:Nat) (x:UInt8) (h:W.cell? ⟨k,0,none⟩=some (.int .u8 (x.toNat:Int))):
  (convert 96 9 (.slice (some ⟨k,0,none⟩) 1 1)).run Tryz.prog W = .ok (.string ⟨#[x]⟩) W:=by
 have hc:∀ i,i<1->W.cell? ⟨k,0+i,none⟩=some (.int .u8 ([(x.toNat:Int)].getD i 0)):=by
  intro i hi
  obtain rfl:i=0:=by omega
  simpa using h
 have:=run_convert_bytes_arg (P:=Tryz.prog) W 96 5 Tryz.underlying96 Tryz.underlying5 k 0 1 1 [(x.toNat:Int)] rfl hc 9 Tryz.underlying9
 rw [this]
 simp [strOfNums]
theorem T8 {w:World} {b:Nat} {s:ByteArray} {i:Nat} {wr:Int} {out:ByteArray} {pv lv:Value} (h:w.heap[b]? = some (eM s i false wr out pv lv)) (hs:s.size<=120) (hi:i<s.size) (ho:out.size<=100000):
  Calls Tryz.prog 59 #[.pointer (some ⟨b,0,none⟩)] w fun e w'=>e = .returned (.int .u8 (cE s i false))/\w'.heap[b]? = some (eM s (i+1) false wr (out++⟨#[s[i]]⟩) pv lv)/\w.grownBy w' (some b):=by
 have c0:=aC h 0
 have c1:=aC h 1
 have c2:=aC h 2
 have c4:=aC h 4
 have fz:=aM h
 have hbl:=aD h
 have hp:=gP h hs (Nat.le_of_lt hi)
 rw [RT s i hi] at hp ⊢
 have HP:Hid (Calls Tryz.prog 58 #[.pointer (some ⟨b,0,none⟩)] w fun e w'=>e = .returned (.int .u8 (s[i].toNat:Int))/\∃ n,w'=w.drewN n):=hp
 have HB:Hid (w.heap[b]? = some (eM s i false wr out pv lv)):=h
 clear h hp
 simp at c0 c1 c2 c4
 have hd:decide ((s.size:Int)<=(i:Int))=false:=by simp;omega
 have hno:¬ 9223372036854775807<out.size+1:=by omega
 have hcv:=fun W k=>aBN W k s[i]
 go_enter Tryz.func59,Tryz.ntmps59
 go_wp2_with (go_at_call 58;refine HP.out.mono ?_;rintro e w' ⟨rfl,n,rfl⟩)
 go_quiet (fail)
 go_wp2
 go_region
 go_wp2
 go_ret
 refine ⟨rfl,?_,?_⟩
 ·have h1:=heap_alloc_old (.cells #[.int .u8 (s[i].toNat:Int)] 5) (aK (aK (w:=w.drewN (n+nq)) HB.out 1 (.int .i64 ((i:Int)+1))) 4 (.string (out++⟨#[s[i]]⟩)))
  simpa [eM,iB] using h1
 ·exact ((((aN w (n+nq) _).trans (aT _ _ _ _)).trans (aT _ _ _ _)).trans (World.grownBy_alloc _ _ _)).trans (aU _ _)
theorem aD4 {w:World} {b:Nat} {s:ByteArray} {i:Nat} {wr:Int} {out:ByteArray} {pv lv:Value} (c:Int) (h:w.heap[b]? = some (eM s i false wr out pv lv)) (hs:s.size<=120) (hi:i<s.size) (ho:out.size<=100000) (hc:cE s i false=c):
  Calls Tryz.prog 155 #[.pointer (some ⟨b,0,none⟩),.int .u8 c] w fun e w'=>e = .returned (.tuple #[])/\w'.heap[b]? = some (eM s (i+1) false wr (out++⟨#[s[i]]⟩) pv lv)/\w.grownBy w' (some b):=by
 subst hc
 have HP:=aB (gP h hs (Nat.le_of_lt hi))
 have HT:=aB (fun n=>T8 (w:=w.drewN n) h hs hi ho)
 clear h
 have hq:(cE s i false==cE s i false)=true:=by simp
 generalize cE s i false=p at *
 go_enter Tryz.func155,Tryz.ntmps155
 go_wp2_with (first | (go_at_call 58;refine (aA HP).mono ?_;rintro e w' ⟨rfl,n,rfl⟩) | (go_at_call 59;refine (aA HT _).mono ?_;rintro e w' ⟨rfl,dC,hw2⟩))
 go_end0
 exact ⟨rfl,dC,(aN w n _).trans hw2⟩
theorem aD5 {w:World} {b:Nat} {s:ByteArray} {i:Nat} {bad:Bool} {wr:Int} {out:ByteArray} {pv lv:Value} (c:Int) (h:w.heap[b]? = some (eM s i bad wr out pv lv)) (hs:s.size<=120) (hi:i<=s.size) (hc:cE s i bad≠c):
  Calls Tryz.prog 155 #[.pointer (some ⟨b,0,none⟩),.int .u8 c] w fun e w'=>e = .returned (.tuple #[])/\w'.heap[b]? = some (eM s i true wr out pv lv)/\w.grownBy w' (some b):=by
 have HP:=aB (gP h hs hi)
 have c2:=aC h 2
 have fz:=aM h 2
 have HB:=aB h
 clear h
 simp at c2
 have hq:(cE s i bad==c)=false:=by simpa using hc
 clear hc
 generalize cE s i bad=p at *
 go_enter Tryz.func155,Tryz.ntmps155
 go_wp2_with (go_at_call 58;refine (aA HP).mono ?_;rintro e w' ⟨rfl,n,rfl⟩)
 go_end0
 refine ⟨rfl,?_,(aN w n _).trans (aT _ _ _ _)⟩
 have h1:=aK (w:=w.drewN n) (aA HB) 2 (.bool true)
 simpa [eM] using h1
end Go.Proofs.YtlljggefbngkeaaGreatDoor
