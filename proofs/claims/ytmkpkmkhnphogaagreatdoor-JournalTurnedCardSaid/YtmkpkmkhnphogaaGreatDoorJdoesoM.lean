/-
  does, opened again: an act at both journals.
-/
import Derived.Test.YtmkpkmkhnphogaaGreatDoorJdoesM
import Derived.Deep.RegionHeld3
namespace Go.Proofs.YtmkpkmkhnphogaaGreatDoor
open Go.RowKit Tx Dv
namespace Jr

set_option maxHeartbeats 1000000 in
set_option maxRecDepth 100000 in
theorem does_open {K : World → Prop} {Dev : World → (Nat → Prop) → Value → Disk → Prop} {Pp : World → (Nat → Prop) → Value → Value → Disk → Jn.Jour → Prop} (w0 w : World) (L : Lore (K := K) (Dev := Dev) (Pp := Pp) w0) (x : Nat) (U V : Nat → Prop) (d p r q : Value) (D : Disk) (J : Jn.Jour)
    (h : Duo Pp w0.heap.size w0 w0 (fun _ => False) w x U V d p r q p q D J D J) (what k : Nat) (s : ByteArray) (m : Nat) (hs : s.size ≤ 1000000) (hc : (what : Int) % 8 = 6) :
    Calls Tryz.prog 11 #[.pointer (some ⟨x, 0, none⟩), .agg #[.int .u8 what, .int .u8 k, .string s, .int .u64 m]] w fun e w' => e = .returned (.bool true) ∧ ∃ U' V' p' q' D' J', Duo Pp w0.heap.size w0 w0 (fun _ => False) w' x U' V' d p' r q' p' q' D' J' D' J' := by
  have H0 := Kept.mk (Doing.start h L.M4 29 what k s m)
  have HL := Kept.mk L
  clear h L hs
  have hpj := eqJ
  have b0 := H0.out.duo.at'.c0
  go_enter Tryz.func11, Tryz.ntmps11
  go_wp2_with (first
    | (go_at_call 25
       refine (H0.out.duo.restartP HL.out.M HL.out.M4).mono ?_
       rintro e w2 ⟨U1, rfl, h1⟩
       have H1 := Kept.mk h1
       have b2 := H1.out.at'.c2
       clear h1 b0)
    | (go_at_call 31
       refine (H1.out.restartR HL.out.M4).mono ?_
       rintro e w3 ⟨V1, rfl, h1⟩
       have H2 := Kept.mk h1.blind
       clear h1 b2 H0 H1 hc))
  have b0 := H2.out.at'.c0
  have b2 := H2.out.at'.c2
  go_region_held3 (fun w' => w'.cell? ⟨x, 0, none⟩ = some d ∧ w'.cell? ⟨x, 2, none⟩ = some r)
    (first
      | go_keep
      | exact ⟨d0, d2⟩
      | exact ⟨e0, e2⟩
      | exact ⟨(World.cell?_setCell_other _ _ _ _ (by simp)).trans e0, (World.cell?_setCell_other _ _ _ _ (by simp)).trans e2⟩
      | exact ⟨(World.cell?_setCell_other _ _ _ _ (by simp)).trans ((World.cell?_setCell_other _ _ _ _ (by simp)).trans e0), (World.cell?_setCell_other _ _ _ _ (by simp)).trans ((World.cell?_setCell_other _ _ _ _ (by simp)).trans e2)⟩)
    (first
      | (go_at_call 18
         refine ((H2.out.byBelow HL.out.M4 (Below.refl _ _).drew).openP HL.out.M4 HL.out.hK).mono ?_
         rintro e w4 ⟨U2, a, L2, k2, rfl, ho, h1⟩
         have H3 := Kept.mk h1
         have HO := Kept.mk ho
         have d0 := H3.out.at'.c0
         have d2 := H3.out.at'.c2
         clear h1 ho)
      | (go_at_call 19
         refine (H3.out.openR HL.out.M4).mono ?_
         rintro e w5 ⟨V2, a3, L3, k3, rfl, ho, h1⟩
         have H4 := Kept.mk h1
         have HP := Kept.mk ho
         have e0 := H4.out.at'.c0
         have e2 := H4.out.at'.c2
         have g1 := H4.out.at'.c1
         have g3 := H4.out.at'.c3
         have f1 := H4.out.at'.free 1 (by decide)
         have f3 := H4.out.at'.free 3 (by decide)
         clear h1 ho))
  have hf := (HL.out.M4.few H4.out.four.pr).1.few
  obtain ⟨rfl, rfl⟩ := HO.out.unique hf HP.out
  have H5 := Kept.mk (H4.out.put HL.out.M4)
  have b1 := H5.out.at'.c1
  generalize (w5.setCell ⟨x, 1, none⟩ (.pointer (some a))).setCell ⟨x, 3, none⟩ (.pointer (some a3)) = w6 at H5 b1 ⊢
  clear H2 H3 H4 HO HP b0 b2 d0 d2 e0 e2 g1 g3 f1 f3 hf HL
  go_wp2
  go_ret
  exact ⟨rfl, _, _, _, _, _, _, H5.out⟩
end Jr
end Go.Proofs.YtmkpkmkhnphogaaGreatDoor
