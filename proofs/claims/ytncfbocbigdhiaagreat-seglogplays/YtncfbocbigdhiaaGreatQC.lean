/- Texts of this seat, one behind the other. -/
import Derived.WalkKit
import Derived.Test.YtncfbocbigdhiaaGreatRows
import Derived.WalkSpells
import Derived.WalkLawsBesides
import Derived.Handy
/- Plain facts, no Go in sight: the sum of bytes (32 bits, bit by bit) written on natural numbers; that it is linear, and that it tells up to 32 bits one behind the other; no conditions but that numbers are below 2^32 and bytes below 2^8. -/
namespace Go.Proofs.YtncfbocbigdhiaaGreat.S
set_option maxRecDepth 100000
set_option maxRecDepth 100000
set_option maxRecDepth 100000
def xr (a b:Nat):Nat:=a ^^^ b
theorem xr_lt (a b:Nat) (ha:a < 4294967296) (hb:b < 4294967296):xr a b < 4294967296:=
  Nat.xor_lt_two_pow (n:=32) ha hb
def sh (x:Nat):Nat:=if x % 2 = 1 then xr (x / 2) 2197175160 else x / 2
theorem sh_lt (x:Nat) (hx:x < 4294967296):sh x < 4294967296:=by
  unfold sh; split
  · exact xr_lt _ _ (by omega) (by decide)
  · omega
def it:Nat → Nat → Nat
  | 0,x=>x
  | k + 1,x=>sh (it k x)
theorem it_lt (k x:Nat) (hx:x < 4294967296):it k x < 4294967296:=by
  induction k with
  | zero=>exact hx
  | succ k ih=>exact sh_lt _ ih
def st (f:Nat → Nat) (x:Nat):Nat → Nat
  | 0=>x
  | k + 1=>it 8 (xr (st f x k) (f k))
theorem st_lt (f:Nat → Nat) (hf:∀ j,f j < 256) (x:Nat) (hx:x < 4294967296):∀ k,st f x k < 4294967296
  | 0=>hx
  | k + 1=>it_lt _ _ (xr_lt _ _ (st_lt f hf x hx k) (Nat.lt_trans (hf k) (by decide)))
/-! ### the document's own way, bit by bit -/
/-! ### turned -/
/-! ### what four bytes do -/
end Go.Proofs.YtncfbocbigdhiaaGreat.S

/- What the program's sums and the document's own answer for them are, as calls: for every text they return one plain function of the text's bytes, and leave memory as it was. -/
namespace Go.Proofs.YtncfbocbigdhiaaGreat.S
set_option maxRecDepth 100000
set_option maxRecDepth 100000
set_option maxRecDepth 100000
open Go.RowKit
theorem xr_bits (a b:Nat) (ha:a < 4294967296) (hb:b < 4294967296):bits .xor .u32 (a:Int) (b:Int) = ((xr a b:Nat):Int):=u32_xor_nat a b ha hb
theorem and_one (v:Nat) (hv:v < 4294967296):bits .and .u32 (v:Int) 1 = ((v % 2:Nat):Int):=by
  have h:bits .and .u32 (v:Int) ((1:Nat):Int) = ((v &&& 1:Nat):Int):=u32_and_nat v 1 hv (by decide)
  rw [Nat.and_one_is_mod] at h
  exact h
set_option maxHeartbeats 400000 in
theorem eight_any (x:Nat) (hx:x < 4294967296) (w:World) :
    Calls Tryz.prog 149 #[.int .u32 x] w fun e w'=>e = .returned (.int .u32 (it 8 x)) ∧ w' = w:=by
  go_enter Tryz.func149,Tryz.ntmps149
  go_wp2
  go_loop [0,4] (fun v i=>∃ k:Nat,k ≤ 8 ∧ i = .int .i64 k ∧ v = .int .u32 (it k x))
    (fun _ i=>8 - (intOf i).toNat)
  case atStart=>exact ⟨0,Nat.zero_le _,rfl,rfl⟩
  case round=>
    obtain ⟨k,hk,rfl,rfl⟩:=hrel
    have l1:=it_lt k x hx
    go_wp2
    · have hlt:(k:Int) < 8:=by assumption
      have hb1:(bits .and .u32 (it k x:Int) 1 == 1) = true:=by assumption
      have hb2:it k x % 2 = 1:=by rw [and_one _ l1] at hb1; have:=beq_iff_eq.1 hb1; omega
      have hv:bits .xor .u32 ((it k x:Int) / 2) 2197175160 = ((it (k + 1) x:Nat):Int):=by
        have h1:=xr_bits (it k x / 2) 2197175160 (by omega) (by decide)
        rw [it,sh,if_pos hb2]
        exact h1
      go_round
      case rel=>exact ⟨k + 1,by omega,by go_num,by rw [hv]⟩
      case measure=>simp only [intOf]; omega
    · have hlt:(k:Int) < 8:=by assumption
      have hb1:(bits .and .u32 (it k x:Int) 1 == 1) = false:=by assumption
      have hb2:¬ it k x % 2 = 1:=by rw [and_one _ l1] at hb1; have:=beq_eq_false_iff_ne.1 hb1; omega
      go_round
      case rel=>exact ⟨k + 1,by omega,by go_num,by rw [it,sh,if_neg hb2]; simp⟩
      case measure=>simp only [intOf]; omega
    · have hge:(8:Int) ≤ k:=by assumption
      obtain rfl:k = 8:=by omega
      go_ret
      exact ⟨rfl,rfl⟩
def bn (s:ByteArray) (k:Nat):Nat:=if h:k < s.size then (s[k]'h).toNat else 0
theorem get_bn (s:ByteArray):∀ (n:Nat) (h:n < s.size),((s[n]'h).toNat:Int) = (bn s n:Int):=fun n h=>by unfold bn; rw [dif_pos h]
theorem bn_lt (s:ByteArray) (k:Nat):bn s k < 256:=by
  unfold bn; split
  · exact (s[k]).toNat_lt
  · omega
def tn (x:Nat):Nat:=xr 4294967295 x
theorem tn_lt (x:Nat) (hx:x < 4294967296):tn x < 4294967296:=xr_lt _ _ (by decide) hx
def onN (x:Nat) (s:ByteArray):Nat:=tn (st (bn s) (tn x) s.size)
theorem onN_lt (x:Nat) (s:ByteArray) (hx:x < 4294967296):onN x s < 4294967296:=tn_lt _ (st_lt _ (bn_lt s) _ (tn_lt _ hx) _)
theorem tn_bits (x:Nat) (hx:x < 4294967296):bits .xor .u32 4294967295 (x:Int) = ((tn x:Nat):Int):=xr_bits 4294967295 x (by decide) hx
set_option maxHeartbeats 400000 in
theorem on_any (x:Nat) (s:ByteArray) (hx:x < 4294967296) (hs:s.size ≤ 9223372036854775807) (w:World) :
    Calls Tryz.prog 130 #[.int .u32 x,.string s] w fun e w'=>e = .returned (.int .u32 (onN x s)) ∧ w' = w:=by
  have e1:=tn_bits x hx
  have l1:=tn_lt x hx
  have hm:onN x s = tn (st (bn s) (tn x) s.size):=rfl
  rw [hm]; clear hm
  generalize tn x = x0 at *
  have hb:=get_bn s
  have hsg:IntKind.u32.signed = false:=rfl
  have hmx:IntKind.u32.max = 4294967295:=rfl
  go_enter Tryz.func130,Tryz.ntmps130
  go_wp2
  go_loop [0,10] (fun v i=>∃ k:Nat,k ≤ s.size ∧ i = .int .i64 k ∧ v = .int .u32 (st (bn s) x0 k))
    (fun _ i=>s.size - (intOf i).toNat)
  case atStart=>exact ⟨0,Nat.zero_le _,rfl,rfl⟩
  case round=>
    obtain ⟨k,hk,rfl,rfl⟩:=hrel
    have q1:=st_lt (bn s) (bn_lt s) x0 l1 k
    have q2:=bn_lt s k
    have q3:=xr_bits (st (bn s) x0 k) (bn s k) q1 (by omega)
    have q4:=xr_lt (st (bn s) x0 k) (bn s k) q1 (by omega)
    have q5:=tn_bits (st (bn s) x0 k) q1
    have q6:IntKind.u32.wrap (bn s k:Int) = (bn s k:Int):=by rw [IntKind.wrap_u32]; omega
    go_wp2_with fail
    · have hlt:k < s.size:=by assumption
      go_call (eight_any (xr (st (bn s) x0 k) (bn s k)) q4 w) as e w2 ⟨rfl,rfl⟩
      go_wp2
      go_round
      case rel=>exact ⟨k + 1,by omega,by go_num,rfl⟩
      case measure=>simp only [intOf]; omega
    · have hge:¬ k < s.size:=by assumption
      have hk2:k = s.size:=by omega
      go_ret
      exact ⟨by rw [← hk2]; rfl,rfl⟩
def hf (b m:Nat):Nat:=b / 2 ^ m
def og (f:Nat → ByteArray):Nat → Nat
  | 0=>0
  | k + 1=>onN (og f k) (f k)
theorem og_lt (f:Nat → ByteArray):∀ k,og f k < 4294967296
  | 0=>show (0:Nat) < 4294967296 by decide
  | k + 1=>onN_lt _ _ (og_lt f k)
set_option maxHeartbeats 400000 in
theorem of_any (f:Nat → ByteArray) (n b:Nat) (hn:n ≤ 9223372036854775807) (hs:∀ j,(f j).size ≤ 9223372036854775807) (w:World)
    (hc:∀ j,j < n → w.cell? ⟨b,j,none⟩ = some (.string (f j))) :
    Calls Tryz.prog 98 #[.slice (some ⟨b,0,none⟩) n n] w fun e w'=>e = .returned (.int .u32 (og f n)) ∧ w' = w:=by
  have HS:Hid (∀ j,(f j).size ≤ 9223372036854775807):=hs
  have HC:Hid (∀ j,j < n → w.cell? ⟨b,j,none⟩ = some (.string (f j))):=hc
  clear hs hc
  go_enter Tryz.func98,Tryz.ntmps98
  go_wp2
  go_loop [3,8] (fun v i=>∃ k:Nat,k ≤ n ∧ i = .int .i64 k ∧ v = .int .u32 (og f k))
    (fun _ i=>n - (intOf i).toNat)
  case atStart=>exact ⟨0,Nat.zero_le _,rfl,rfl⟩
  case round=>
    obtain ⟨k,hk,rfl,rfl⟩:=hrel
    have q1:=og_lt f k
    have q2:=HS.out k
    have hcell:k < n → w.cell? ⟨b,k,none⟩ = some (.string (f k)):=fun h=>HC.out k h
    go_wp2_with fail
    · have hlt:k < n:=by assumption
      go_call (on_any (og f k) (f k) q1 q2 w) as e w2 ⟨rfl,rfl⟩
      go_wp2
      go_round
      case rel=>exact ⟨k + 1,by omega,by go_num,rfl⟩
      case measure=>simp only [intOf]; omega
    · have hge:¬ k < n:=by assumption
      obtain rfl:k = n:=by omega
      go_ret
      exact ⟨rfl,rfl⟩
end Go.Proofs.YtncfbocbigdhiaaGreat.S
