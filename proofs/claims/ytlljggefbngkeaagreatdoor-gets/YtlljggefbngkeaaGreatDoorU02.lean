import Derived.Test.YtlljggefbngkeaaGreatDoorProg
import Derived.Test.YtlljggefbngkeaaGreatDoorU01
import Derived.WalkKit
import Derived.WalkSpells
import Derived.WalkLawsBesides
import Derived.Deep.QuietTactic
import Derived.BigQuiet
set_option maxHeartbeats 400000
namespace Go.Proofs.YtlljggefbngkeaaGreatDoor
open Go.RowKit
theorem aB {p:Prop} (h:p):Hid p:=h
theorem aA {p:Prop} (h:Hid p):p:=h
theorem uX (c lo hi:Int) (w:World):
  Calls Tryz.prog 193 #[.int .u8 c,.int .u8 lo,.int .u8 hi] w fun e w'=>e = .returned (.bool (iV c lo hi))/\w'=w:=by
 by_cases h1:lo<=c
 ·by_cases h2:c<=hi
  ·have:iV c lo hi=true:=by simp [iV,h1,h2]
   rw [this];clear this
   go_enter Tryz.func193,Tryz.ntmps193
   go_wp2
   go_ret
   exact ⟨by simp,rfl⟩
  ·have:iV c lo hi=false:=by simp [iV,h2]
   rw [this];clear this
   go_enter Tryz.func193,Tryz.ntmps193
   go_wp2
   go_ret
   exact ⟨by simp,rfl⟩
 ·have:iV c lo hi=false:=by simp [iV,h1]
  rw [this];clear this
  have h3:decide (lo<=c)=false:=by simp [h1]
  go_enter Tryz.func193,Tryz.ntmps193
  go_wp2
  go_ret
  exact ⟨by simp,rfl⟩
theorem N9 (s:ByteArray) (k:Nat) (h:k<s.size):s.data.toList.take (k+1)=s.data.toList.take k++[s[k]]:=by
 rw [List.take_succ_eq_append_getElem (by simpa using h)];rfl
theorem Q8 (l:List UInt8) (x:UInt8) (c:Int):oD (l++[x]) c=(oD l c||((x.toNat:Int)==c)):=by
 simp [oD]
theorem X3 (l:List UInt8) (k:Nat) (c:Int) (h:oD (l.take k) c=true):oD l c=true:=by
 simp only [oD,List.any_eq_true] at *
 obtain ⟨x,hx,he⟩:=h
 exact ⟨x,List.mem_of_mem_take hx,he⟩
theorem X2 (s:ByteArray) (c:Int) (w:World) (hs:s.size<=maxLen):
  Calls Tryz.prog 61 #[.string s,.int .u8 c] w fun e w'=>e = .returned (.bool (oD s.data.toList c))/\w'=w:=by
 unfold maxLen at hs
 go_enter Tryz.func61,Tryz.ntmps61
 go_wp2
 go_loop [5] (fun i=>∃ k:Nat,k<=s.size/\i = .int .i64 k/\oD (s.data.toList.take k) c=false) (fun i=>s.size-(intOf i).toNat)
 case atStart=>exact ⟨0,Nat.zero_le _,rfl,rfl⟩
 case round=>
  obtain ⟨k,hk,rfl,hno⟩:=hrel
  have HN:Hid (oD (s.data.toList.take k) c=false):=hno
  clear hno
  by_cases hlt:k<s.size
  ·by_cases hc:((s[k].toNat:Int)==c)=true
   ·go_wp2
    go_ret
    have e:oD s.data.toList c=true:=X3 _ (k+1) _ (by rw [N9 s k hlt,Q8,hc];simp)
    exact ⟨by rw [e];rfl,rfl⟩
   ·have hc':((s[k].toNat:Int)==c)=false:=by simpa using hc
    clear hc
    go_wp2
    go_round
    case rel=>exact ⟨k+1,by omega,by go_num,by rw [N9 s k hlt,Q8,hc',HN.out];rfl⟩
    case measure=>simp [intOf];omega
  ·go_wp2
   go_ret
   have e:oD s.data.toList c=false:=by
    have:=HN.out
    rwa [List.take_of_length_le (by simp;omega)] at this
   exact ⟨by rw [e];rfl,rfl⟩
theorem lD (c:Int) (w:World):
  Calls Tryz.prog 182 #[.int .u8 c] w fun e w'=>e = .returned (.bool (bG c))/\w'=w:=by
 have s5:(⟨#[61,44,59,58,95]⟩:ByteArray).data.toList=[61,44,59,58,95]:=rfl
 have hz:(⟨#[61,44,59,58,95]⟩:ByteArray).size<=maxLen:=by decide
 have h3:=X2 ⟨#[61,44,59,58,95]⟩ c w hz
 rw [s5] at h3
 have H3:Hid (Calls Tryz.prog 61 #[.string ⟨#[61,44,59,58,95]⟩,.int .u8 c] w fun e w'=>e = .returned (.bool (oD [61,44,59,58,95] c))/\w'=w):=h3
 clear h3 s5 hz
 cases a:iV c 97 122 with
 | true=>
  have:bG c=true:=by simp [bG,a]
  rw [this];clear this
  go_enter Tryz.func182,Tryz.ntmps182
  go_wp2_with (go_at_call 193;refine (uX _ _ _ _).mono ?_;rintro e w' ⟨rfl,rfl⟩)
  go_ret
  exact ⟨by simp,rfl⟩
 | false=>
  cases b:iV c 48 57 with
  | true=>
   have:bG c=true:=by simp [bG,b]
   rw [this];clear this
   go_enter Tryz.func182,Tryz.ntmps182
   go_wp2_with (go_at_call 193;refine (uX _ _ _ _).mono ?_;rintro e w' ⟨rfl,rfl⟩)
   go_ret
   exact ⟨by simp,rfl⟩
  | false=>
   have:bG c=oD [61,44,59,58,95] c:=by simp [bG,a,b]
   rw [this];clear this
   go_enter Tryz.func182,Tryz.ntmps182
   go_wp2_with (first | (go_at_call 193;refine (uX _ _ _ _).mono ?_;rintro e w' ⟨rfl,rfl⟩) | (go_at_call 61;refine H3.out.mono ?_;rintro e w' ⟨rfl,rfl⟩))
   go_ret
   exact ⟨by simp,rfl⟩
end Go.Proofs.YtlljggefbngkeaaGreatDoor
