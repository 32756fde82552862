import Derived.Test.YtlljggefbngkeaaGreatDoorU03
import Derived.Test.YtlljggefbngkeaaGreatDoorU01
import Derived.Deep.LoopGhost
set_option maxHeartbeats 800000
namespace Go.Proofs.YtlljggefbngkeaaGreatDoor
open Go.RowKit
theorem vK (s:ByteArray) (i:Nat) (b:Bool) (h:cE s i b≠0):i<s.size/\b=false:=by
 unfold cE at h
 by_cases hb:b=true
 ·simp [hb] at h
 ·by_cases hi:i<s.size
  ·exact ⟨hi,by simpa using hb⟩
  ·simp [hi] at h
theorem RS (s:ByteArray) (i:Nat) (b:Bool):0<=cE s i b/\cE s i b<=255:=by
 unfold cE
 split
 ·omega
 ·split
  ·rename_i h
   have:=(s[i]).toNat_lt
   omega
  ·omega
theorem JB {w:World} {b:Nat} {s:ByteArray} {i:Nat} {wn:Int} {out:ByteArray} {pv lv:Value} (h:w.heap[b]? = some (eM s i false wn out pv lv)) (hs:s.size<=120) (hi:i<=s.size):
  Calls Tryz.prog 56 #[.pointer (some ⟨b,0,none⟩)] w fun e w'=>e = .returned (.tuple #[])/\w'.heap[b]? = some (eM s (aF s i) false wn out pv lv)/\w.grownBy w' (some b):=by
 go_enter Tryz.func56,Tryz.ntmps56
 go_wp2_with fail
 go_loopg [2] (s.size-i) (fun k _ wv=>∃ j,j<=s.size/\s.size-j<=k/\aF s j=aF s i/\wv.heap[b]? = some (eM s j false wn out pv lv)/\w.grownBy wv (some b))
 case atStart=>exact ⟨i,hi,Nat.le_refl _,rfl,h,World.grownBy.refl _ _⟩
 case round=>
  obtain ⟨j,hj,hk,hsk,hb,hg⟩:=hrel
  have HR:=aB (And.intro hk (And.intro hsk (And.intro hb hg)))
  have c1:=aC hb 1
  have fz:=aM hb 1
  have HP:=aB (gP hb hs hj)
  have xU:=aB (fun n=>gP (w:=wr.drewN n) hb hs hj)
  clear hk hsk hb hg h
  simp at c1
  by_cases h1:cE s j false=32
  ·have hlt:=(vK s j false (by rw [h1];omega)).1
   rw [h1] at HP xU
   have H1:=aB h1
   clear h1
   go_wp2_with (go_at_call 58;refine (aA HP).mono ?_;rintro e w' ⟨rfl,n,rfl⟩)
   go_roundg (gk-1)
   case measure=>have:=(aA HR).1;omega
   case rel=>
    obtain ⟨hk,hsk,hb,hg⟩:=aA HR
    refine ⟨j+1,by omega,by omega,?_,?_,?_⟩
    ·rw [← hsk,vB s j hlt (by rw [show pk s j=_ from aA H1];rfl)]
    ·have h1:=aK (w:=wr.drewN n) hb 1 (.int .i64 ((j:Int)+1))
     simpa [eM] using h1
    ·exact (hg.trans (aN _ n _)).trans (aT _ _ _ _)
  ·by_cases h2:cE s j false=10
   ·have hlt:=(vK s j false (by rw [h2];omega)).1
    rw [h2] at HP xU
    have H1:=aB h2
    clear h1 h2
    go_wp2_with (go_at_call 58;first | (refine (aA HP).mono ?_;rintro e w' ⟨rfl,n,rfl⟩) | (refine (aA xU _).mono ?_;rintro e w' ⟨rfl,n2,rfl⟩))
    go_roundg (gk-1)
    case measure=>have:=(aA HR).1;omega
    case rel=>
     obtain ⟨hk,hsk,hb,hg⟩:=aA HR
     refine ⟨j+1,by omega,by omega,?_,?_,?_⟩
     ·rw [← hsk,vB s j hlt (by rw [show pk s j=_ from aA H1];rfl)]
     ·have h1:=aK (w:=wr.drewN (n+n2)) hb 1 (.int .i64 ((j:Int)+1))
      simpa [eM] using h1
     ·simpa using (hg.trans (aN _ (n+n2) _)).trans (aT _ _ _ _)
   ·have H1:Hid (jR (cE s j false)=false):=by simp [Hid,jR,h1,h2]
    have q1:(cE s j false==32)=false:=by simpa using h1
    have q2:(cE s j false==10)=false:=by simpa using h2
    clear h1 h2
    have HF:=aB (pV s j (aA H1))
    clear H1
    generalize cE s j false=p at *
    go_wp2_with (go_at_call 58;first | (refine (aA HP).mono ?_;rintro e w' ⟨rfl,n,rfl⟩) | (refine (aA xU _).mono ?_;rintro e w' ⟨rfl,n2,rfl⟩))
    go_end0
    obtain ⟨hk,hsk,hb,hg⟩:=aA HR
    rw [← hsk,aA HF]
    refine ⟨rfl,?_,?_⟩
    ·exact hb
    ·simpa using hg.trans (aN _ (n+n2) _)
theorem JA {w:World} {b:Nat} {s:ByteArray} {i:Nat} {wn:Int} {out:ByteArray} {pv lv:Value} (h:w.heap[b]? = some (eM s i true wn out pv lv)) (hs:s.size<=120) (hi:i<=s.size):
  Calls Tryz.prog 56 #[.pointer (some ⟨b,0,none⟩)] w fun e w'=>e = .returned (.tuple #[])/\w'.heap[b]? = some (eM s i true wn out pv lv)/\w.grownBy w' (some b):=by
 go_enter Tryz.func56,Tryz.ntmps56
 go_wp2_with fail
 go_loopg [2] 0 (fun _ _ wv=>wv=w)
 case atStart=>rfl
 case round=>
  subst hrel
  have HP:=aB (gP h hs hi)
  have xU:=aB (fun n=>gP (w:=wr.drewN n) h hs hi)
  have HB:=aB h
  clear h
  rw [gC] at HP xU
  go_wp2_with (go_at_call 58;first | (refine (aA HP).mono ?_;rintro e w' ⟨rfl,n,rfl⟩) | (refine (aA xU _).mono ?_;rintro e w' ⟨rfl,n2,rfl⟩))
  go_end0
  exact ⟨rfl,aA HB,by simpa using aN wr (n+n2) _⟩
theorem QW {w:World} {b:Nat} {s:ByteArray} {i:Nat} {wn:Int} {out:ByteArray} {pv lv:Value} (h:w.heap[b]? = some (eM s i false wn out pv lv)) (hs:s.size<=120) (hi:i<s.size) (ho:out.size<=100000) (hc:bG (cE s i false)=true):
  Calls Tryz.prog 192 #[.pointer (some ⟨b,0,none⟩)] w fun e w'=>e = .returned (.int .u8 (cE s i false))/\w'.heap[b]? = some (eM s (i+1) false wn (out++⟨#[s[i]]⟩) pv lv)/\w.grownBy w' (some b):=by
 have HP:=aB (gP h hs (Nat.le_of_lt hi))
 have HT:=aB (fun n=>T8 (w:=w.drewN n) h hs hi ho)
 clear h
 have HS:=aB (fun w=>lD (cE s i false) w)
 rw [hc] at HS
 clear hc
 generalize cE s i false=p at *
 go_enter Tryz.func192,Tryz.ntmps192
 go_wp2_with (first | (go_at_call 58;refine (aA HP).mono ?_;rintro e w' ⟨rfl,n,rfl⟩) | (go_at_call 182;refine (aA HS _).mono ?_;rintro e w' ⟨rfl,rfl⟩) | (go_at_call 59;refine (aA HT _).mono ?_;rintro e w' ⟨rfl,dC,hw2⟩))
 go_ret
 exact ⟨rfl,dC,(aN w n _).trans hw2⟩
theorem QX {w:World} {b:Nat} {s:ByteArray} {i:Nat} {bad:Bool} {wn:Int} {out:ByteArray} {pv lv:Value} (h:w.heap[b]? = some (eM s i bad wn out pv lv)) (hs:s.size<=120) (hi:i<=s.size) (hc:bG (cE s i bad)=false):
  Calls Tryz.prog 192 #[.pointer (some ⟨b,0,none⟩)] w fun e w'=>e = .returned (.int .u8 0)/\w'.heap[b]? = some (eM s i true wn out pv lv)/\w.grownBy w' (some b):=by
 have HP:=aB (gP h hs hi)
 have c2:=aC h 2
 have fz:=aM h 2
 have HB:=aB h
 clear h
 simp at c2
 have HS:=aB (fun w=>lD (cE s i bad) w)
 rw [hc] at HS
 clear hc
 generalize cE s i bad=p at *
 go_enter Tryz.func192,Tryz.ntmps192
 go_wp2_with (first | (go_at_call 58;refine (aA HP).mono ?_;rintro e w' ⟨rfl,n,rfl⟩) | (go_at_call 182;refine (aA HS _).mono ?_;rintro e w' ⟨rfl,rfl⟩))
 go_ret
 refine ⟨rfl,?_,(aN w n _).trans (aT _ _ _ _)⟩
 have h1:=aK (w:=w.drewN n) (aA HB) 2 (.bool true)
 simpa [eM] using h1
end Go.Proofs.YtlljggefbngkeaaGreatDoor
