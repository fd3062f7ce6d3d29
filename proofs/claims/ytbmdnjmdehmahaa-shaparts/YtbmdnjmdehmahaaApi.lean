/-
  What a stream and an engine answer: Write, Len, a stream's Sum, Stream, an engine's Sum.
-/
import Derived.Test.YtbmdnjmdehmahaaTake
import Derived.Test.YtbmdnjmdehmahaaTail
namespace Go.Proofs.Ytbmdnjmdehmahaa
open Go.RowKit

set_option maxRecDepth 100000 in
theorem take_none (g c : Nat) (a : Option Addr) (w : World) :
    Calls Try.prog 31 #[.pointer (some ⟨g, 0, none⟩), .slice a 0 c] w fun e w' => e = .returned (.tuple #[]) ∧ w' = w := by
  go_enter Try.func31, Try.ntmps31
  go_wp2_with fail
  refine wp_loop_rounds 1 ?_
  rw [rounds_succ]
  go_wp2_with fail
  go_end0
  exact ⟨rfl, rfl⟩

/-- Bytes go into a stream. -/
theorem take_any (g b f : Nat) (n : Int) (v : Value) (p bs : List Nat) (w : World) (hf : f = 0 ∨ f = 1) (he : Eng w b f n) (hst : StrOf w g b p) (hgb : g ≠ b) (hv : BySl [b, g] w v bs)
    (hlen : p.length + bs.length ≤ 1125899906842624) (hn0 : 0 ≤ n) (hn1 : n + bs.length < 2305843009213693952) :
    Calls Try.prog 31 #[.pointer (some ⟨g, 0, none⟩), v] w fun e w' => e = .returned (.tuple #[]) ∧ Kp [b, g] w w' ∧ StrOf w' g b (p ++ bs) ∧ ∃ f', (f' = 0 ∨ f' = 1) ∧ Eng w' b f' (n + (((p ++ bs).length / 64 - p.length / 64 : Nat) : Int)) := by
  obtain ⟨a, cap, rfl, h2, h3, h4, h5, h6, h7⟩ := hv
  by_cases hne : bs = []
  · subst hne
    refine (take_none g cap a w).mono ?_
    rintro e w' ⟨rfl, rfl⟩
    exact ⟨rfl, Kp.refl _ _, by rw [List.append_nil]; exact hst, f, hf, by rw [List.append_nil, Nat.sub_self]; simpa using he⟩
  · obtain ⟨gs, os, rfl, hl, hgs, hby⟩ := h7 hne
    simp only [List.mem_cons, List.not_mem_nil, or_false, not_or] at hl
    exact take_some g b f gs os bs.length cap n p bs w hf he hst hgb rfl h2 (by unfold maxLen at h3; omega) h6 hl.2 hl.1 hgs hby hlen hn0 hn1

theorem Try.nilFuncEq (w : World) (fn : Fn) (x y : Array Value) : (binOp .eql 77 (.func fn x y) .nilFunc).run Try.prog w = .ok (.bool false) w := by kernel_rfl

set_option maxRecDepth 100000 in
theorem dead_any (g b : Nat) (p : List Nat) (w : World) (h : StrOf w g b p) :
    Calls Try.prog 30 #[.pointer (some ⟨g, 0, none⟩)] w fun e w' => e = .returned (.bool false) ∧ w' = w := by
  obtain ⟨rest, hs, _⟩ := h
  have c0 := hs.2.1
  have hq := Try.nilFuncEq
  clear hs
  go_enter Try.func30, Try.ntmps30
  go_wp2
  go_ret
  exact ⟨rfl, rfl⟩
set_option maxRecDepth 100000 in
theorem dead_nil (w : World) :
    Calls Try.prog 30 #[.pointer none] w fun e w' => e = .returned (.bool true) ∧ w' = w := by
  go_enter Try.func30, Try.ntmps30
  go_wp2
  go_ret
  exact ⟨rfl, rfl⟩

set_option maxHeartbeats 1000000 in
set_option maxRecDepth 100000 in
theorem write_any (g b f : Nat) (n : Int) (v : Value) (p bs : List Nat) (w : World) (hf : f = 0 ∨ f = 1) (he : Eng w b f n) (hst : StrOf w g b p) (hgb : g ≠ b) (hv : BySl [b, g] w v bs)
    (hlen : p.length + bs.length ≤ 1125899906842624) (hn0 : 0 ≤ n) (hn1 : n + bs.length < 2305843009213693952) :
    Calls Try.prog 13 #[.pointer (some ⟨g, 0, none⟩), v] w fun e w' => e = .returned (.int .i64 (bs.length : Nat)) ∧ Kp [b, g] w w' ∧ StrOf w' g b (p ++ bs) ∧ ∃ f', (f' = 0 ∨ f' = 1) ∧ Eng w' b f' (n + (((p ++ bs).length / 64 - p.length / 64 : Nat) : Int)) := by
  have HD := hid (dead_any g b p w hst)
  have HT := hid (take_any g b f n v p bs w hf he hst hgb hv hlen hn0 hn1)
  obtain ⟨a, cap, rfl, _⟩ := id hv
  clear hst he hv
  obtain ⟨L, hL⟩ : ∃ L, bs.length = L := ⟨_, rfl⟩
  rw [hL] at HT
  have HL := hid hL
  rw [hL]
  clear hL hlen hn1
  go_enter Try.func13, Try.ntmps13
  go_wp2_with fail
  refine HD.out.mono ?_
  rintro e w1 ⟨rfl, hw⟩
  subst hw
  go_wp2_with fail
  refine HT.out.mono ?_
  rintro e w1 ⟨rfl, hk, hs, hf'⟩
  have HK := hid hk
  have HS := hid hs
  have HF := hid hf'
  clear hk hs hf'
  go_wp2_with fail
  go_ret
  exact ⟨rfl, HK.out, HS.out, HF.out⟩

set_option maxRecDepth 100000 in
theorem write_nil (a : Option Addr) (l c : Nat) (w : World) :
    Calls Try.prog 13 #[.pointer none, .slice a l c] w fun e w' => e = .returned (.int .i64 0) ∧ w' = w := by
  have HD := hid (dead_nil w)
  go_enter Try.func13, Try.ntmps13
  go_wp2_with fail
  refine HD.out.mono ?_
  rintro e w1 ⟨rfl, hw⟩
  subst hw
  go_wp2_with fail
  go_ret
  exact ⟨rfl, rfl⟩

set_option maxRecDepth 100000 in
theorem len_any (g b : Nat) (p : List Nat) (w : World) (h : StrOf w g b p) :
    Calls Try.prog 14 #[.pointer (some ⟨g, 0, none⟩)] w fun e w' => e = .returned (.int .i64 (p.length : Nat)) ∧ w' = w := by
  have HD := hid (dead_any g b p w h)
  obtain ⟨rest, hs, _⟩ := h
  have c73 := hs.2.2.2.2.1
  clear hs
  go_enter Try.func14, Try.ntmps14
  go_wp2_with fail
  refine HD.out.mono ?_
  rintro e w1 ⟨rfl, hw⟩
  subst hw
  go_wp2_with fail
  go_ret
  exact ⟨rfl, rfl⟩
set_option maxRecDepth 100000 in
theorem len_nil (w : World) :
    Calls Try.prog 14 #[.pointer none] w fun e w' => e = .returned (.int .i64 0) ∧ w' = w := by
  have HD := hid (dead_nil w)
  go_enter Try.func14, Try.ntmps14
  go_wp2_with fail
  refine HD.out.mono ?_
  rintro e w1 ⟨rfl, hw⟩
  subst hw
  go_wp2_with fail
  go_ret
  exact ⟨rfl, rfl⟩
end Go.Proofs.Ytbmdnjmdehmahaa
