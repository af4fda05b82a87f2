/- The desk: what must be in any case; the statement DeskPlays. -/
import Derived.Test.YtccokpnmdfalpaaGreatDoorDeskT
import Derived.Test.YtccokpnmdfalpaaGreatDoorDeskB
import Derived.Test.YtccokpnmdfalpaaGreatDoorProgL
namespace Go.Proofs.YtccokpnmdfalpaaGreatDoor
open Go.RowKit

def deskS : List UInt8 := [114, 101, 115, 116, 10, 116, 105, 99, 107, 10, 114, 101, 115, 116, 10, 116, 105, 99, 107, 32, 120, 10, 114, 101, 115, 116, 10, 116, 105, 99, 107, 32, 121, 32, 122, 10, 116, 105, 99, 107, 32, 120, 32, 121, 32, 122, 10, 114, 101, 115, 116, 10, 97, 103, 97, 105, 110, 10, 116, 105, 99, 107, 32, 122, 32, 121, 10, 116, 105, 99, 107, 32, 120, 10]
def deskW : List UInt8 := [45, 10, 45, 10, 51, 32, 54, 10, 65, 32, 66, 10, 57, 10, 67, 32, 111, 118, 101, 114, 10, 45, 10, 45, 10, 111, 107, 10, 101, 114, 114, 111, 114, 32, 49, 10, 45, 10]
theorem desk_run : runD playD playS deskS [] (beginR playD) = deskW := by decide +kernel
theorem desk_at : deskE playS deskS = 0 ∧ deskT playS deskS = deskW := by
  have hSR := show_read play_checked (by rw [play_shown]; decide)
  rw [play_shown] at hSR
  have h1 : deskE playS deskS = 0 := by
    unfold deskE
    rw [hSR.1, if_pos rfl]
    decide +kernel
  refine ⟨h1, ?_⟩
  unfold deskT
  rw [h1, if_pos rfl, hSR.2]
  exact desk_run

set_option maxRecDepth 100000 in
set_option maxHeartbeats 4000000 in
theorem deskBegun_any (w : World) :
    Calls Tryz.prog 7 #[] w fun e w' => e = .returned (.bool true) ∧ Below w.heap.size w w' := by
  have hda := desk_at
  go_enter Tryz.func7, Tryz.ntmps7
  go_wp2_with fail
  refine (play_any _).mono ?_
  rintro e w1 ⟨g1, rfl, hc1, _, hb⟩
  have B1 := hb
  clear hb
  go_wp2_with fail
  refine (Show_any playD _ _ _ _ (hc1.nodes rfl (by decide)) (by decide)).mono ?_
  rintro e w2 ⟨rfl, hb⟩
  rw [play_checked, play_shown]
  have B2 := bstep B1 hb
  clear hb B1 hc1
  go_wp2_with fail
  refine (Play_any playS deskS (by decide) _).mono ?_
  rintro e w3 ⟨rfl, hb⟩
  rw [hda.1, hda.2]
  have B3 := bstep B2 hb
  clear hb B2 hda
  go_wp2_with fail
  go_ret
  exact ⟨rfl, B3⟩

set_option maxRecDepth 100000 in
set_option maxHeartbeats 4000000 in
theorem DeskPlays_any (s t : List UInt8) (hs : s.length ≤ maxLen) (ht : t.length ≤ maxLen) (w : World) :
    Calls Tryz.prog 3 #[.string ⟨s.toArray⟩, .string ⟨t.toArray⟩] w fun e w' => e = .returned (.bool true) ∧ Below w.heap.size w w' := by
  have P := hide (fun W => Play_any s t ht W)
  have O := hide (fun W => PlayOf_any s t hs ht W)
  obtain ⟨u, hu⟩ : ∃ u, deskT s t = u := ⟨_, rfl⟩
  obtain ⟨er, her⟩ : ∃ er, deskE s t = er := ⟨_, rfl⟩
  rw [hu, her] at P O
  clear hu her hs ht
  go_enter Tryz.func3, Tryz.ntmps3
  go_wp2_with fail
  refine (unhide P _).mono ?_
  rintro e w1 ⟨rfl, hb⟩
  have B1 := hb
  clear hb
  go_wp2_with fail
  refine (unhide O _).mono ?_
  rintro e w2 ⟨rfl, hb⟩
  have B2 := bstep B1 hb
  clear hb B1
  go_wp2_with fail
  refine (deskBegun_any _).mono ?_
  rintro e w3 ⟨rfl, hb⟩
  have B3 := bstep B2 hb
  clear hb B2
  go_wp2_with fail
  go_ret
  exact ⟨rfl, B3⟩
end Go.Proofs.YtccokpnmdfalpaaGreatDoor
