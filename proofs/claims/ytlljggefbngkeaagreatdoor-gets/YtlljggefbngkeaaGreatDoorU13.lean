import Derived.Test.YtlljggefbngkeaaGreatDoorU12
set_option maxHeartbeats 800000
namespace Go.Proofs.YtlljggefbngkeaaGreatDoor
open Go.RowKit
theorem iO (c:Int) (h0:0<=c) (h1:c<=255) {w:World} {b:Nat} {s:ByteArray} {i:Nat} (h:w.heap[b]? = some (eL s i)) (hs:s.size<=120) (hi:i<=s.size) (hc:pe s (aF s i)≠c):
  Calls Tryz.prog 124 #[.pointer (some ⟨b,0,none⟩),.int .u8 c] w fun e w'=>e = .returned (.bool false)/\w'.heap[b]? = some (eL s (aF s i))/\w.grownBy w' (some b):=by
 have HP:=aB (AZ h hs hi)
 have hq:(pe s (aF s i) != c)=true:=by rw [bne_iff_ne];exact hc
 have hw:wrap64 c=c:=by unfold wrap64;omega
 clear h hc
 generalize pe s (aF s i)=p at *
 go_enter Tryz.func124,Tryz.ntmps124
 go_wp2_with fail
 refine (aA HP).mono ?_
 rintro e w1 ⟨rfl,hb,hg⟩
 go_wp2
 go_ret
 exact ⟨rfl,hb,hg⟩
theorem iN (c:Int) (h0:0<=c) (h1:c<=255) {w:World} {b:Nat} {s:ByteArray} {i:Nat} (h:w.heap[b]? = some (eL s i)) (hs:s.size<=120) (hi:i<=s.size) (hc:pe s (aF s i)=c):
  Calls Tryz.prog 124 #[.pointer (some ⟨b,0,none⟩),.int .u8 c] w fun e w'=>e = .returned (.bool true)/\w'.heap[b]? = some (eL s (aF s i+1))/\w.grownBy w' (some b):=by
 have HP:=aB (AZ h hs hi)
 have hb2:=(dK s i hi).2
 rw [hc] at HP
 have hw:wrap64 c=c:=by unfold wrap64;omega
 clear h hc
 generalize aF s i=j at *
 go_enter Tryz.func124,Tryz.ntmps124
 go_wp2_with fail
 refine (aA HP).mono ?_
 rintro e w1 ⟨rfl,hb,hg⟩
 have c1:=aC hb 1
 have fz:=aM hb 1
 simp at c1
 have HB:=aB (And.intro hb hg)
 clear hb hg
 go_wp2
 go_ret
 refine ⟨rfl,?_,(aA HB).2.trans (aT _ _ _ _)⟩
 have h1:=aK (aA HB).1 1 (.int .i64 ((j:Int)+1))
 simpa [eL] using h1
theorem yK (c:Int) {w:World} {b:Nat} {s:ByteArray} {i:Nat} (h:w.heap[b]? = some (eL s i)) (_hs:s.size<=120) (hi:i<=s.size) (hc:pe s i≠c):
  Calls Tryz.prog 188 #[.pointer (some ⟨b,0,none⟩),.int .u8 c] w fun e w'=>e = .returned (.bool false)/\∃ n,w'=w.drewN n:=by
 have c0:=aC h 0
 have c1:=aC h 1
 clear h
 simp at c0 c1
 by_cases hlt:i<s.size
 ·have hd:((i:Int)==(s.size:Int))=false:=by rw [beq_eq_false_iff_ne];omega
  have XP:(i:Int)<(s.size:Int):=by omega
  have hq:((s[i].toNat:Int) != c)=true:=by rw [bne_iff_ne];intro e;exact hc (by simp [pe,pk,hlt,e])
  clear hc
  go_enter Tryz.func188,Tryz.ntmps188
  go_wp2_with fail
  go_quiet (fail)
  go_wp2
  go_ret
  exact ⟨rfl,nq,rfl⟩
 ·have hd:((i:Int)==(s.size:Int))=true:=by rw [beq_iff_eq];omega
  clear hc
  go_enter Tryz.func188,Tryz.ntmps188
  go_wp2_with fail
  go_quiet (fail)
  go_wp2
  go_ret
  exact ⟨rfl,nq,rfl⟩
theorem yJ (c:Int) (h0:0<=c) {w:World} {b:Nat} {s:ByteArray} {i:Nat} (h:w.heap[b]? = some (eL s i)) (hs:s.size<=120) (_hi:i<=s.size) (hc:pe s i=c):
  Calls Tryz.prog 188 #[.pointer (some ⟨b,0,none⟩),.int .u8 c] w fun e w'=>e = .returned (.bool true)/\w'.heap[b]? = some (eL s (i+1))/\w.grownBy w' (some b):=by
 have c0:=aC h 0
 have c1:=aC h 1
 have fz:=aM h 1
 simp at c0 c1
 have HB:=aB h
 clear h
 have hlt:i<s.size:=by
  rcases Nat.lt_or_ge i s.size with h | h
  ·exact h
  ·simp [pe,Nat.not_lt.2 h] at hc;omega
 have hd:((i:Int)==(s.size:Int))=false:=by rw [beq_eq_false_iff_ne];omega
 have XP:(i:Int)<(s.size:Int):=by omega
 have hq:((s[i].toNat:Int) != c)=false:=by rw [bne_eq_false_iff_eq,← hc];simp [pe,pk,hlt]
 clear hc
 go_enter Tryz.func188,Tryz.ntmps188
 go_wp2_with fail
 go_quiet (fail)
 go_wp2
 go_ret
 refine ⟨rfl,?_,(aN _ nq _).trans (aT _ _ _ _)⟩
 have h1:=aK (w:=w.drewN nq) (aA HB) 1 (.int .i64 ((i:Int)+1))
 simpa [eL] using h1
theorem QV {w:World} {b:Nat} {s:ByteArray} {i:Nat} (h:w.heap[b]? = some (eL s i)) (hs:s.size<=120) (hi:i<=s.size):
  Calls Tryz.prog 150 #[.pointer (some ⟨b,0,none⟩)] w fun e w'=>e = .returned (.bool (decide (pe s (aF s i)=47)||decide (pe s (aF s i)=126)||decide (pe s (aF s i)=40)))/\w'.heap[b]? = some (eL s (aF s i))/\w.grownBy w' (some b):=by
 have HP:=aB (AZ h hs hi)
 clear h
 generalize pe s (aF s i)=p at *
 by_cases h1:p=47
 ·subst h1
  go_enter Tryz.func150,Tryz.ntmps150
  go_wp2_with fail
  refine (aA HP).mono ?_
  rintro e w1 ⟨rfl,hb,hg⟩
  go_wp2
  go_ret
  exact ⟨rfl,hb,hg⟩
 ·by_cases h2:p=126
  ·subst h2
   go_enter Tryz.func150,Tryz.ntmps150
   go_wp2_with fail
   refine (aA HP).mono ?_
   rintro e w1 ⟨rfl,hb,hg⟩
   go_wp2
   go_ret
   exact ⟨rfl,hb,hg⟩
  ·have q1:(p==47)=false:=by simpa using h1
   have q2:(p==126)=false:=by simpa using h2
   have H:Hid ((decide (p=47)||decide (p=126)||decide (p=40))=(p==40)):=by
    show _=_
    rw [decide_eq_false h1,decide_eq_false h2]
    rw [Bool.eq_iff_iff]
    simp
   clear h1 h2
   go_enter Tryz.func150,Tryz.ntmps150
   go_wp2_with fail
   refine (aA HP).mono ?_
   rintro e w1 ⟨rfl,hb,hg⟩
   go_wp2
   go_ret
   rw [aA H]
   exact ⟨rfl,hb,hg⟩
end Go.Proofs.YtlljggefbngkeaaGreatDoor
