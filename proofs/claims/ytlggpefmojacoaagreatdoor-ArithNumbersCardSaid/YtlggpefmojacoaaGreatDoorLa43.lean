/-
  Parts of the proof, merged.
-/
import Derived.Test.YtlggpefmojacoaaGreatDoorLa27
import Derived.Test.YtlggpefmojacoaaGreatDoorLa42
namespace Go.Proofs.YtlggpefmojacoaaGreatDoor
section
open Go.RowKit Tx
namespace Va
open Wx (Kit)
theorem LV_name {P : Nat → Prop} {w : World} {A : Option Addr} {k : Nat} {p : Wx.Pt} (h : Wx.LV P w (.slice A 1 k) [p]) : ∃ g off, A = some ⟨g, off, none⟩ ∧ w.cell? ⟨g, off + 3, none⟩ = some (.string (bs p.name)) := by
 cases h with
 | «at» g off n cap xs l hn hm hP hg hc h =>
   cases h with
   | cons k q t n o wd v xs l hv h hr => exact ⟨g, off, rfl, hc 3 _ rfl⟩
theorem toL_app (a b : ByteArray) : toL (a ++ b) = toL a ++ toL b := by
 unfold toL
 rw [ByteArray.data_append, Array.toList_append]
theorem asked_is (s : ByteArray) : toL ((⟨#[36, 123]⟩ : ByteArray) ++ s ++ ⟨#[61, 125]⟩) = asked (toL s) := by
 rw [toL_app, toL_app]; rfl
set_option maxHeartbeats 2000000 in
set_option maxRecDepth 100000 in
theorem pIsName_any (s : ByteArray) (w : World) (hK : Kit w) (hs : s.size ≤ 1400000) (t : Bool) (ht : isName s = t) : Calls Tryz.prog 79 #[.string s] w fun e w' => e = .returned (.bool t) ∧ Below w.heap.size w w' := by
 have b1 : ¬ 9223372036854775807 < 2 + s.size := by omega
 have b2 : ¬ 9223372036854775807 < 2 + s.size + 2 := by omega
 have hsz : ((⟨#[36, 123]⟩ : ByteArray) ++ s ++ ⟨#[61, 125]⟩).size ≤ 1500000 := by
   rw [ByteArray.size_append, ByteArray.size_append]
   show 2 + s.size + 2 ≤ 1500000
   omega
 have HP := Kept.mk (Wx.progParse_any ((⟨#[36, 123]⟩ : ByteArray) ++ s ++ ⟨#[61, 125]⟩) w hK hsz)
 rw [asked_is] at HP
 unfold Wx.QEnd at HP
 have HY := Kept.mk (parts_yes (t := toL s))
 have HNo : Kept (∀ l, Wx.parts 30 (asked (toL s)) = .ok l → ∀ p m, l = p :: m → p.name = toL s → isN (toL s) = true) := ⟨fun _ h p m => parts_no h p m⟩
 have ht2 : isN (toL s) = t := ht
 cases hp : Wx.parts 30 (asked (toL s)) with
 | error c =>
   rw [hp] at HP HY
   simp only [] at HP
   obtain rfl : t = false := by
     rw [← ht2]
     by_cases e : isN (toL s) = true
     · exact absurd (HY.out e) (by simp)
     · simpa using e
   clear ht2 ht hp HY HNo hK hsz
   go_enter Tryz.func79, Tryz.ntmps79
   go_wp2_with (go_at_call 103; refine HP.out.mono ?_; rintro e w1 ⟨A, k, rfl, _, hc, hb⟩; have HB := Kept.mk hb; clear hb; rcases A with _ | ⟨ga, oa, sa⟩)
   all_goals
     go_ret
     exact ⟨rfl, HB.out⟩
 | ok l =>
   rw [hp] at HP HY
   simp only [] at HP
   have HNo2 := Kept.mk (HNo.out l hp)
   by_cases h1 : l.length = 1
   · obtain ⟨p, rfl⟩ := List.length_eq_one_iff.1 h1
     have ht3 : t = decide (bs p.name = s) := by
       rw [← ht2, Bool.eq_iff_iff, decide_eq_true_iff]
       refine ⟨fun e => ?_, fun e => HNo2.out p [] rfl (by rw [← e, toL_bs])⟩
       have := HY.out e
       injection this with this
       injection this with this _
       rw [this]
       exact bs_toL s
     clear ht2 ht hp HY HNo HNo2 hK hsz h1
     by_cases hE : bs p.name = s
     · obtain rfl : t = true := by rw [ht3, decide_eq_true hE]
       have hE1 := beq_true hE
       clear ht3 hE
       go_enter Tryz.func79, Tryz.ntmps79
       go_wp2_with (go_at_call 103; refine HP.out.mono ?_; rintro e w1 ⟨A, k, rfl, hl, hb⟩; have HB := Kept.mk hb; clear hb; obtain ⟨g, off, rfl, c3⟩ := LV_name hl.out)
       go_ret
       exact ⟨rfl, HB.out⟩
     · obtain rfl : t = false := by rw [ht3, decide_eq_false hE]
       have hE1 := beq_false hE
       clear ht3 hE
       go_enter Tryz.func79, Tryz.ntmps79
       go_wp2_with (go_at_call 103; refine HP.out.mono ?_; rintro e w1 ⟨A, k, rfl, hl, hb⟩; have HB := Kept.mk hb; clear hb; obtain ⟨g, off, rfl, c3⟩ := LV_name hl.out)
       go_ret
       exact ⟨rfl, HB.out⟩
   · obtain rfl : t = false := by
       rw [← ht2]
       by_cases e : isN (toL s) = true
       · have := HY.out e
         injection this with this
         rw [this] at h1; exact absurd rfl h1
       · simpa using e
     obtain ⟨n, hn⟩ : ∃ n, n = l.length := ⟨_, rfl⟩
     have hn1 : ((n : Int) == 1) = false := beq_eq_false_iff_ne.2 (by omega)
     rw [← hn] at HP
     clear ht2 ht hp HY HNo HNo2 hK hsz h1 hn
     go_enter Tryz.func79, Tryz.ntmps79
     go_wp2_with (go_at_call 103; refine HP.out.mono ?_; rintro e w1 ⟨A, k, rfl, hl, hb⟩; have HB := Kept.mk hb; clear hb; rcases A with _ | ⟨ga, oa, sa⟩)
     all_goals
       go_ret
       exact ⟨rfl, HB.out⟩
end Va
end
end Go.Proofs.YtlggpefmojacoaaGreatDoor
