/-
  Parts of the proof, merged.
-/
import Derived.Laws.Closers25b
import Derived.Laws.Shifts
import Derived.Test.YtlggpefmojacoaaGreatDoorLa23
import Derived.WalkArith
namespace Go.Proofs.YtlggpefmojacoaaGreatDoor
section
open Go.RowKit Tx
namespace Ar
theorem mask63 (n : Int) : bits .and .i64 n 63 = n % 64 := by
 have h63 : (BitVec.ofInt 64 63).toNat = 2 ^ 6 - 1 := by decide
 have key : (BitVec.ofInt 64 n &&& BitVec.ofInt 64 63).toNat = (n % ((2 ^ 64 : Nat) : Int)).toNat % 2 ^ 6 := by
   rw [BitVec.toNat_and, BitVec.toNat_ofInt, h63, Nat.and_two_pow_sub_one_eq_mod]
 show IntKind.i64.wrap ((BitVec.ofInt 64 n &&& BitVec.ofInt 64 63).toNat : Nat) = n % 64
 rw [key, IntKind.wrap_i64]
 omega
def bit (t : Bool) : Int := if t = true then 1 else 0
def two (op : Tok) (a b : Int) : Except Int Int :=
 if op = [43] then .ok (wrap64 (a + b)) else
 if op = [45] then .ok (wrap64 (a - b)) else
 if op = [42] then .ok (wrap64 (a * b)) else
 if op = [47] then (if b = 0 then .error 131 else .ok (wrap64 (a.tdiv b))) else
 if op = [37] then (if b = 0 then .error 131 else .ok (a.tmod b)) else
 if op = [60, 60] then .ok (wrap64 (a * 2 ^ (bits .and .i64 b 63).toNat)) else
 if op = [62, 62] then .ok (a / 2 ^ (bits .and .i64 b 63).toNat) else
 if op = [38] then .ok (bits .and .i64 a b) else
 if op = [124] then .ok (bits .or .i64 a b) else
 if op = [94] then .ok (bits .xor .i64 a b) else
 if op = [60] then .ok (bit (decide (a < b))) else
 if op = [60, 61] then .ok (bit (decide (a ≤ b))) else
 if op = [62] then .ok (bit (decide (b < a))) else
 if op = [62, 61] then .ok (bit (decide (b ≤ a))) else
 if op = [61, 61] then .ok (bit (a == b)) else
 .ok (bit (a != b))
def OpE (o : Except Int Int) (w : World) (e : Ending) (w' : World) : Prop := match o with
 | .ok m => e = .returned (.int .i64 m) ∧ w = w'
 | .error c => e = .panicked (pan c) ∧ w = w'
set_option maxRecDepth 100000 in
theorem truth_any (t : Bool) (w : World) : Calls Tryz.prog 57 #[.bool t] w fun e w' => e = .returned (.int .i64 (bit t)) ∧ w = w' := by
 cases t
 all_goals go_enter Tryz.func57, Tryz.ntmps57
 all_goals go_wp2_with fail
 all_goals go_ret
 all_goals exact ⟨rfl, rfl⟩
set_option maxHeartbeats 1000000 in
set_option maxRecDepth 100000 in
theorem c_lss (a b : Int) (w : World) : Calls Tryz.prog 78 #[.string ⟨#[60]⟩, .int .i64 a, .int .i64 b] w fun e w' => e = .returned (.bool (decide (a < b))) ∧ w = w' := by
 go_enter Tryz.func78, Tryz.ntmps78
 go_wp2_with fail
 go_ret
 exact ⟨rfl, rfl⟩
set_option maxHeartbeats 1000000 in
set_option maxRecDepth 100000 in
theorem j_lss (a b : Int) (w : World) : Calls Tryz.prog 54 #[.string ⟨#[60]⟩, .int .i64 a, .int .i64 b] w fun e w' => e = .returned (.int .i64 (bit (decide (a < b)))) ∧ w = w' := by
 go_enter Tryz.func54, Tryz.ntmps54
 go_wp2_with (first
   | (go_at_call 78; refine (c_lss a b _).mono ?_; rintro e w2 ⟨rfl, rfl⟩)
   | (go_at_call 57; refine (truth_any _ _).mono ?_; rintro e w2 ⟨rfl, rfl⟩))
 go_ret
 exact ⟨rfl, rfl⟩
set_option maxHeartbeats 1000000 in
set_option maxRecDepth 100000 in
theorem c_leq (a b : Int) (w : World) : Calls Tryz.prog 78 #[.string ⟨#[60, 61]⟩, .int .i64 a, .int .i64 b] w fun e w' => e = .returned (.bool (decide (a ≤ b))) ∧ w = w' := by
 go_enter Tryz.func78, Tryz.ntmps78
 go_wp2_with fail
 go_ret
 exact ⟨rfl, rfl⟩
set_option maxHeartbeats 1000000 in
set_option maxRecDepth 100000 in
theorem j_leq (a b : Int) (w : World) : Calls Tryz.prog 54 #[.string ⟨#[60, 61]⟩, .int .i64 a, .int .i64 b] w fun e w' => e = .returned (.int .i64 (bit (decide (a ≤ b)))) ∧ w = w' := by
 go_enter Tryz.func54, Tryz.ntmps54
 go_wp2_with (first
   | (go_at_call 78; refine (c_leq a b _).mono ?_; rintro e w2 ⟨rfl, rfl⟩)
   | (go_at_call 57; refine (truth_any _ _).mono ?_; rintro e w2 ⟨rfl, rfl⟩))
 go_ret
 exact ⟨rfl, rfl⟩
set_option maxHeartbeats 1000000 in
set_option maxRecDepth 100000 in
theorem c_gtr (a b : Int) (w : World) : Calls Tryz.prog 78 #[.string ⟨#[62]⟩, .int .i64 a, .int .i64 b] w fun e w' => e = .returned (.bool (decide (b < a))) ∧ w = w' := by
 go_enter Tryz.func78, Tryz.ntmps78
 go_wp2_with fail
 go_ret
 exact ⟨rfl, rfl⟩
set_option maxHeartbeats 1000000 in
set_option maxRecDepth 100000 in
theorem j_gtr (a b : Int) (w : World) : Calls Tryz.prog 54 #[.string ⟨#[62]⟩, .int .i64 a, .int .i64 b] w fun e w' => e = .returned (.int .i64 (bit (decide (b < a)))) ∧ w = w' := by
 go_enter Tryz.func54, Tryz.ntmps54
 go_wp2_with (first
   | (go_at_call 78; refine (c_gtr a b _).mono ?_; rintro e w2 ⟨rfl, rfl⟩)
   | (go_at_call 57; refine (truth_any _ _).mono ?_; rintro e w2 ⟨rfl, rfl⟩))
 go_ret
 exact ⟨rfl, rfl⟩
set_option maxHeartbeats 1000000 in
set_option maxRecDepth 100000 in
theorem c_geq (a b : Int) (w : World) : Calls Tryz.prog 78 #[.string ⟨#[62, 61]⟩, .int .i64 a, .int .i64 b] w fun e w' => e = .returned (.bool (decide (b ≤ a))) ∧ w = w' := by
 go_enter Tryz.func78, Tryz.ntmps78
 go_wp2_with fail
 go_ret
 exact ⟨rfl, rfl⟩
set_option maxHeartbeats 1000000 in
set_option maxRecDepth 100000 in
theorem j_geq (a b : Int) (w : World) : Calls Tryz.prog 54 #[.string ⟨#[62, 61]⟩, .int .i64 a, .int .i64 b] w fun e w' => e = .returned (.int .i64 (bit (decide (b ≤ a)))) ∧ w = w' := by
 go_enter Tryz.func54, Tryz.ntmps54
 go_wp2_with (first
   | (go_at_call 78; refine (c_geq a b _).mono ?_; rintro e w2 ⟨rfl, rfl⟩)
   | (go_at_call 57; refine (truth_any _ _).mono ?_; rintro e w2 ⟨rfl, rfl⟩))
 go_ret
 exact ⟨rfl, rfl⟩
set_option maxHeartbeats 1000000 in
set_option maxRecDepth 100000 in
theorem c_eql (a b : Int) (w : World) : Calls Tryz.prog 78 #[.string ⟨#[61, 61]⟩, .int .i64 a, .int .i64 b] w fun e w' => e = .returned (.bool (a == b)) ∧ w = w' := by
 go_enter Tryz.func78, Tryz.ntmps78
 go_wp2_with fail
 go_ret
 exact ⟨rfl, rfl⟩
set_option maxHeartbeats 1000000 in
set_option maxRecDepth 100000 in
theorem j_eql (a b : Int) (w : World) : Calls Tryz.prog 54 #[.string ⟨#[61, 61]⟩, .int .i64 a, .int .i64 b] w fun e w' => e = .returned (.int .i64 (bit (a == b))) ∧ w = w' := by
 go_enter Tryz.func54, Tryz.ntmps54
 go_wp2_with (first
   | (go_at_call 78; refine (c_eql a b _).mono ?_; rintro e w2 ⟨rfl, rfl⟩)
   | (go_at_call 57; refine (truth_any _ _).mono ?_; rintro e w2 ⟨rfl, rfl⟩))
 go_ret
 exact ⟨rfl, rfl⟩
set_option maxHeartbeats 1000000 in
set_option maxRecDepth 100000 in
theorem c_neq (a b : Int) (w : World) : Calls Tryz.prog 78 #[.string ⟨#[33, 61]⟩, .int .i64 a, .int .i64 b] w fun e w' => e = .returned (.bool (a != b)) ∧ w = w' := by
 go_enter Tryz.func78, Tryz.ntmps78
 go_wp2_with fail
 go_ret
 exact ⟨rfl, rfl⟩
set_option maxHeartbeats 1000000 in
set_option maxRecDepth 100000 in
theorem j_neq (a b : Int) (w : World) : Calls Tryz.prog 54 #[.string ⟨#[33, 61]⟩, .int .i64 a, .int .i64 b] w fun e w' => e = .returned (.int .i64 (bit (a != b))) ∧ w = w' := by
 go_enter Tryz.func54, Tryz.ntmps54
 go_wp2_with (first
   | (go_at_call 78; refine (c_neq a b _).mono ?_; rintro e w2 ⟨rfl, rfl⟩)
   | (go_at_call 57; refine (truth_any _ _).mono ?_; rintro e w2 ⟨rfl, rfl⟩))
 go_ret
 exact ⟨rfl, rfl⟩
set_option maxHeartbeats 1000000 in
set_option maxRecDepth 100000 in
theorem j_plus (a b : Int) (w : World) : Calls Tryz.prog 54 #[.string ⟨#[43]⟩, .int .i64 a, .int .i64 b] w fun e w' => e = .returned (.int .i64 (wrap64 (a + b))) ∧ w = w' := by
 go_enter Tryz.func54, Tryz.ntmps54
 go_wp2_with fail
 go_ret
 exact ⟨rfl, rfl⟩
set_option maxHeartbeats 1000000 in
set_option maxRecDepth 100000 in
theorem j_minus (a b : Int) (w : World) : Calls Tryz.prog 54 #[.string ⟨#[45]⟩, .int .i64 a, .int .i64 b] w fun e w' => e = .returned (.int .i64 (wrap64 (a - b))) ∧ w = w' := by
 go_enter Tryz.func54, Tryz.ntmps54
 go_wp2_with fail
 go_ret
 exact ⟨rfl, rfl⟩
set_option maxHeartbeats 1000000 in
set_option maxRecDepth 100000 in
theorem j_times (a b : Int) (w : World) : Calls Tryz.prog 54 #[.string ⟨#[42]⟩, .int .i64 a, .int .i64 b] w fun e w' => e = .returned (.int .i64 (wrap64 (a * b))) ∧ w = w' := by
 go_enter Tryz.func54, Tryz.ntmps54
 go_wp2_with fail
 go_ret
 exact ⟨rfl, rfl⟩
set_option maxHeartbeats 1000000 in
set_option maxRecDepth 100000 in
theorem j_quo (a b : Int) (w : World) (h0 : ¬ b = 0) : Calls Tryz.prog 54 #[.string ⟨#[47]⟩, .int .i64 a, .int .i64 b] w fun e w' => e = .returned (.int .i64 (wrap64 (a.tdiv b))) ∧ w = w' := by
 have HN : Kept ((b != 0) = true) := ⟨bne_iff_ne.2 h0⟩
 go_enter Tryz.func54, Tryz.ntmps54
 go_wp2_with (go_at_call 44; rw [HN.out]; refine (check_any _ true 131).mono ?_; rintro e w2 ⟨rfl, rfl⟩)
 go_ret
 exact ⟨rfl, rfl⟩
set_option maxHeartbeats 1000000 in
set_option maxRecDepth 100000 in
theorem j0_quo (a : Int) (w : World) : Calls Tryz.prog 54 #[.string ⟨#[47]⟩, .int .i64 a, .int .i64 0] w fun e w' => e = .panicked (pan 131) ∧ w = w' := by
 go_enter Tryz.func54, Tryz.ntmps54
 go_wp2_with (go_at_call 44; refine (check_any _ false 131).mono ?_; rintro e w2 ⟨rfl, rfl⟩)
 first | exact ⟨rfl, rfl, rfl⟩ | exact ⟨rfl, rfl⟩
set_option maxHeartbeats 1000000 in
set_option maxRecDepth 100000 in
theorem j_rem (a b : Int) (w : World) (h0 : ¬ b = 0) : Calls Tryz.prog 54 #[.string ⟨#[37]⟩, .int .i64 a, .int .i64 b] w fun e w' => e = .returned (.int .i64 (a.tmod b)) ∧ w = w' := by
 have HN : Kept ((b != 0) = true) := ⟨bne_iff_ne.2 h0⟩
 go_enter Tryz.func54, Tryz.ntmps54
 go_wp2_with (go_at_call 44; rw [HN.out]; refine (check_any _ true 131).mono ?_; rintro e w2 ⟨rfl, rfl⟩)
 go_ret
 exact ⟨rfl, rfl⟩
set_option maxHeartbeats 1000000 in
set_option maxRecDepth 100000 in
theorem j0_rem (a : Int) (w : World) : Calls Tryz.prog 54 #[.string ⟨#[37]⟩, .int .i64 a, .int .i64 0] w fun e w' => e = .panicked (pan 131) ∧ w = w' := by
 go_enter Tryz.func54, Tryz.ntmps54
 go_wp2_with (go_at_call 44; refine (check_any _ false 131).mono ?_; rintro e w2 ⟨rfl, rfl⟩)
 first | exact ⟨rfl, rfl, rfl⟩ | exact ⟨rfl, rfl⟩
set_option maxHeartbeats 1000000 in
set_option maxRecDepth 100000 in
theorem j_shl (a b : Int) (w : World) : Calls Tryz.prog 54 #[.string ⟨#[60, 60]⟩, .int .i64 a, .int .i64 b] w fun e w' => e = .returned (.int .i64 (wrap64 (a * 2 ^ (bits .and .i64 b 63).toNat))) ∧ w = w' := by
 have hb : 0 ≤ bits .and .i64 b 63 := by rw [mask63]; omega
 have hb2 : bits .and .i64 b 63 ≤ 63 := by rw [mask63]; omega
 go_enter Tryz.func54, Tryz.ntmps54
 go_wp2_with fail
 go_ret
 exact ⟨rfl, rfl⟩
set_option maxHeartbeats 1000000 in
set_option maxRecDepth 100000 in
theorem j_shr (a b : Int) (w : World) : Calls Tryz.prog 54 #[.string ⟨#[62, 62]⟩, .int .i64 a, .int .i64 b] w fun e w' => e = .returned (.int .i64 (a / 2 ^ (bits .and .i64 b 63).toNat)) ∧ w = w' := by
 have hb : 0 ≤ bits .and .i64 b 63 := by rw [mask63]; omega
 have hb2 : bits .and .i64 b 63 ≤ 63 := by rw [mask63]; omega
 go_enter Tryz.func54, Tryz.ntmps54
 go_wp2_with fail
 go_ret
 exact ⟨rfl, rfl⟩
set_option maxHeartbeats 1000000 in
set_option maxRecDepth 100000 in
theorem j_and (a b : Int) (w : World) : Calls Tryz.prog 54 #[.string ⟨#[38]⟩, .int .i64 a, .int .i64 b] w fun e w' => e = .returned (.int .i64 (bits .and .i64 a b)) ∧ w = w' := by
 go_enter Tryz.func54, Tryz.ntmps54
 go_wp2_with fail
 go_ret
 exact ⟨rfl, rfl⟩
set_option maxHeartbeats 1000000 in
set_option maxRecDepth 100000 in
theorem j_or (a b : Int) (w : World) : Calls Tryz.prog 54 #[.string ⟨#[124]⟩, .int .i64 a, .int .i64 b] w fun e w' => e = .returned (.int .i64 (bits .or .i64 a b)) ∧ w = w' := by
 go_enter Tryz.func54, Tryz.ntmps54
 go_wp2_with fail
 go_ret
 exact ⟨rfl, rfl⟩
set_option maxHeartbeats 1000000 in
set_option maxRecDepth 100000 in
theorem j_xor (a b : Int) (w : World) : Calls Tryz.prog 54 #[.string ⟨#[94]⟩, .int .i64 a, .int .i64 b] w fun e w' => e = .returned (.int .i64 (bits .xor .i64 a b)) ∧ w = w' := by
 go_enter Tryz.func54, Tryz.ntmps54
 go_wp2_with fail
 go_ret
 exact ⟨rfl, rfl⟩
def op2 : List Tok := [[43], [45], [42], [47], [37], [60, 60], [62, 62], [38], [124], [94], [60], [60, 61], [62], [62, 61], [61, 61], [33, 61]]
theorem joined_any (op : Tok) (h : op ∈ op2) (a b : Int) (w : World) : Calls Tryz.prog 54 #[.string (bs op), .int .i64 a, .int .i64 b] w (OpE (two op a b) w) := by
 simp only [op2, List.mem_cons, List.not_mem_nil, or_false] at h
 rcases h with rfl | rfl | rfl | rfl | rfl | rfl | rfl | rfl | rfl | rfl | rfl | rfl | rfl | rfl | rfl | rfl
 · exact j_plus a b w
 · exact j_minus a b w
 · exact j_times a b w
 · by_cases h0 : b = 0
   · subst h0
     exact j0_quo a w
   · rw [show two [47] a b = .ok (wrap64 (a.tdiv b)) by simp [two, h0]]
     exact j_quo a b w h0
 · by_cases h0 : b = 0
   · subst h0
     exact j0_rem a w
   · rw [show two [37] a b = .ok (a.tmod b) by simp [two, h0]]
     exact j_rem a b w h0
 · exact j_shl a b w
 · exact j_shr a b w
 · exact j_and a b w
 · exact j_or a b w
 · exact j_xor a b w
 · exact j_lss a b w
 · exact j_leq a b w
 · exact j_gtr a b w
 · exact j_geq a b w
 · exact j_eql a b w
 · exact j_neq a b w
set_option maxHeartbeats 1000000 in
set_option maxRecDepth 100000 in
theorem u_neg (a : Int) (w : World) : Calls Tryz.prog 40 #[.string ⟨#[45]⟩, .int .i64 a] w fun e w' => e = .returned (.int .i64 (wrap64 (-a))) ∧ w = w' := by
 go_enter Tryz.func40, Tryz.ntmps40
 go_wp2_with fail
 go_ret
 exact ⟨rfl, rfl⟩
set_option maxHeartbeats 1000000 in
set_option maxRecDepth 100000 in
theorem u_not (a : Int) (w : World) : Calls Tryz.prog 40 #[.string ⟨#[126]⟩, .int .i64 a] w fun e w' => e = .returned (.int .i64 (bits .xor .i64 (-1) a)) ∧ w = w' := by
 go_enter Tryz.func40, Tryz.ntmps40
 go_wp2_with fail
 go_ret
 exact ⟨rfl, rfl⟩
set_option maxHeartbeats 1000000 in
set_option maxRecDepth 100000 in
theorem u_zero (a : Int) (w : World) : Calls Tryz.prog 40 #[.string ⟨#[33]⟩, .int .i64 a] w fun e w' => e = .returned (.int .i64 (bit (a == 0))) ∧ w = w' := by
 go_enter Tryz.func40, Tryz.ntmps40
 go_wp2_with (go_at_call 57; refine (truth_any _ _).mono ?_; rintro e w2 ⟨rfl, rfl⟩)
 go_ret
 exact ⟨rfl, rfl⟩
set_option maxHeartbeats 1000000 in
set_option maxRecDepth 100000 in
theorem u_same (a : Int) (w : World) : Calls Tryz.prog 40 #[.string ⟨#[43]⟩, .int .i64 a] w fun e w' => e = .returned (.int .i64 (a)) ∧ w = w' := by
 go_enter Tryz.func40, Tryz.ntmps40
 go_wp2_with fail
 go_ret
 exact ⟨rfl, rfl⟩
end Ar
end
end Go.Proofs.YtlggpefmojacoaaGreatDoor
