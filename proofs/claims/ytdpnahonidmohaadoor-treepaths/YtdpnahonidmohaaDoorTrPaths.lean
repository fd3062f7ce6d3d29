/-
  TreePaths: its walk.
-/
import Derived.Test.YtdpnahonidmohaaDoorTrAlive
namespace Go.Proofs.YtdpnahonidmohaaDoor.Tr
open Go.RowKit

set_option maxHeartbeats 4000000 in
theorem paths_main (w : World) (s : ByteArray) : Calls Tryd.prog 4 #[.string s] w fun e w' => e = .returned (.bool true) ∧ Kp No w w' := by
  by_cases h250 : 250 < s.size
  · have h' : (250 : Int) < (s.size : Int) := by omega
    go_enter Tryd.func4, Tryd.ntmps4
    go_wp2_with (go_at_call 7; refine (alive_any _).mono ?_; rintro e w1 ⟨rfl, hk⟩; have HK := hid hk; clear hk)
    go_ret
    exact ⟨rfl, HK.out⟩
  · have h' : ¬ (250 : Int) < (s.size : Int) := by omega
    have H1 := hid (fun W => split_any s (by omega) W)
    have H2 := hid (fun W => rsplit_any s (by omega) W)
    have H3 := hid (fun W => part_any s (by omega) W)
    have H4 := hid (fun W => rpart_any s (by omega) W)
    have H5 := hid (fun W => path_any s (by omega) W)
    have H6 := hid (fun W => rpath_any s (by omega) W)
    generalize pathB s.data.toList = b1 at *
    generalize partB s.data.toList = b2 at *
    generalize (splitS s).1 = d at *
    generalize (splitS s).2 = f at *
    go_enter Tryd.func4, Tryd.ntmps4
    go_wp2_with (first
      | (go_at_call 19; refine (H1.out _).mono ?_; rintro e w1 ⟨rfl, hk⟩; have HK1 := hid hk; clear hk)
      | (go_at_call 20; refine (H2.out _).mono ?_; rintro e w2 ⟨rfl, hk⟩; have HK2 := hid (HK1.out.andNone hk); clear hk)
      | (go_at_call 21; refine (H3.out _).mono ?_; rintro e w3 ⟨rfl, hk⟩; subst hk)
      | (go_at_call 22; refine (H4.out _).mono ?_; rintro e w4 ⟨rfl, hk⟩; subst hk)
      | (go_at_call 23; refine (H5.out _).mono ?_; rintro e w5 ⟨rfl, hk⟩; have HK5 := hid (HK2.out.andNone hk); clear hk)
      | (go_at_call 24; refine (H6.out _).mono ?_; rintro e w6 ⟨rfl, hk⟩; have HK6 := hid (HK5.out.andNone hk); clear hk)
      | (go_at_call 7; refine (alive_any _).mono ?_; rintro e w7 ⟨rfl, hk⟩; have HK7 := hid (HK6.out.andNone hk); clear hk))
    go_ret
    exact ⟨rfl, HK7.out⟩

end Go.Proofs.YtdpnahonidmohaaDoor.Tr
