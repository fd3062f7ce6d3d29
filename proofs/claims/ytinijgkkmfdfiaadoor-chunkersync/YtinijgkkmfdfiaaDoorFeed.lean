/-
  feed: bytes that come, whatever is told.
-/
import Derived.Test.YtinijgkkmfdfiaaDoorKnife
import Derived.Deep.RegionWith
namespace Go.Proofs.YtinijgkkmfdfiaaDoor
open Go.RowKit

/-- A function that is told chunks: T: what of the world it has, in which blocks, and which chunks it was told. -/
structure Teller (f : FuncId) (caps : Array Value) (T : World → List Nat → List (List Nat) → Prop) : Prop where
  ent : ∀ args w, (callFunc f args).run Tryd.prog w = .ok (.enter f args) w
  lt : ∀ w l cs, T w l cs → ∀ x ∈ l, x < w.heap.size
  keep : ∀ w w' l m cs, T w l cs → Kp m w w' → (∀ x ∈ m, x ∉ l) → T w' l cs
  tell : ∀ w l cs v c, T w l cs → OwnB w v c → (∀ x, v.ownBlock = some x → x ∉ l) → c ≠ [] → c.length ≤ 100000 → (∀ x ∈ c, x < 256) → cs.length ≤ 100000 →
    Calls Tryd.prog f (#[v] ++ caps) w fun e w' => e = .returned (.tuple #[]) ∧ ∃ l', T w' l' (cs ++ [c]) ∧ Kp l w w' ∧ ∀ x ∈ l', x ∈ l ∨ v.ownBlock = some x ∨ w.heap.size ≤ x

/-- Where a feeding stands: wr, behind the world w in which it began, when the stream had the blocks F and the teller the blocks l. -/
def FI (T : World → List Nat → List (List Nat) → Prop) (w : World) (F l : List Nat) (sb gb s mn av mx m : Nat) (c : Bool) (wr : World) (h : Nat) (cs : List (List Nat)) (wt : List Nat) : Prop :=
  ∃ v lk, StX wr sb gb s mn av mx m h wt v c ∧ T wr lk cs ∧ Kp (F ++ l) w wr ∧ (∀ x ∈ fp sb gb v, x ∈ F ∨ w.heap.size ≤ x) ∧ (∀ x ∈ lk, x ∈ l ∨ w.heap.size ≤ x) ∧ ∀ x ∈ lk, x ∉ fp sb gb v

/-- What is told, and what waits, at the end of a feeding: of a stream that is closed all is told. -/
def fin (c : Bool) (p : List (List Nat) × List Nat) : List (List Nat) × List Nat := if c = true then (shutL p, []) else p
/-- Where a stream stands, when it was fed. -/
def Fed (T : World → List Nat → List (List Nat) → Prop) (w : World) (F l : List Nat) (sb gb s mn av mx m : Nat) (c : Bool) (w' : World) (p : List (List Nat) × List Nat) : Prop :=
  FI T w F l sb gb s mn av mx m c w' (hashOf s p.2) p.1 p.2

theorem FI.rolled {f : FuncId} {caps : Array Value} {T : World → List Nat → List (List Nat) → Prop} (ht : Teller f caps T) {w wr w' : World} {F l : List Nat} {sb gb s mn av mx m h : Nat} {c : Bool} {cs : List (List Nat)} {wt : List Nat}
    (H : FI T w F l sb gb s mn av mx m c wr h cs wt) (k : Kept gb wr w') (G : Gr w' gb s 1) (h' : Nat) (hh' : h' < M64) : FI T w F l sb gb s mn av mx m c (w'.setCell ⟨sb, 6, none⟩ (.int .u64 h')) h' cs wt := by
  obtain ⟨v, lk, S, hT, hk, hF, hl, hd⟩ := H
  have k1 : Kp [gb] wr w' := Kp.ofKept k
  have k2 : Kp [sb] w' (w'.setCell ⟨sb, 6, none⟩ (.int .u64 h')) := (Kp.refl _ _).setCell (p := ⟨sb, 6, none⟩) (.inl (by simp)) _
  have hsF := hF sb (mem_fp.2 (.inl rfl))
  have hgF := hF gb (mem_fp.2 (.inr (.inl rfl)))
  have hsl : sb ∉ lk := fun hx => hd sb hx (mem_fp.2 (.inl rfl))
  have hgl : gb ∉ lk := fun hx => hd gb hx (mem_fp.2 (.inr (.inl rfl)))
  refine ⟨v, lk, (S.rolled k G).hash h' hh', ht.keep _ _ _ _ _ (ht.keep _ _ _ _ _ hT k1 (by simpa using hgl)) k2 (by simpa using hsl), ?_, hF, hl, hd⟩
  refine (hk.trans k1 ?_).trans k2 ?_
  · intro x hx
    obtain rfl : x = gb := by simpa using hx
    rcases hgF with h | h
    · exact .inl (List.mem_append_left _ h)
    · exact .inr h
  · intro x hx
    obtain rfl : x = sb := by simpa using hx
    rcases hsF with h | h
    · exact .inl (List.mem_append_left _ h)
    · exact .inr h

theorem FI.drew {f : FuncId} {caps : Array Value} {T : World → List Nat → List (List Nat) → Prop} (ht : Teller f caps T) {w wr : World} {F l : List Nat} {sb gb s mn av mx m h : Nat} {c : Bool} {cs : List (List Nat)} {wt : List Nat}
    (H : FI T w F l sb gb s mn av mx m c wr h cs wt) : FI T w F l sb gb s mn av mx m c wr.drew h cs wt := by
  obtain ⟨v, lk, S, hT, hk, hF, hl, hd⟩ := H
  exact ⟨v, lk, S.drew, ht.keep _ _ _ [] _ hT (Kp.refl _ _).drew (by simp), hk.drew, hF, hl, hd⟩

theorem FI.drewN {f : FuncId} {caps : Array Value} {T : World → List Nat → List (List Nat) → Prop} (ht : Teller f caps T) {w wr : World} {F l : List Nat} {sb gb s mn av mx m h : Nat} {c : Bool} {cs : List (List Nat)} {wt : List Nat}
    (H : FI T w F l sb gb s mn av mx m c wr h cs wt) (n : Nat) : FI T w F l sb gb s mn av mx m c (wr.drewN n) h cs wt := by
  obtain ⟨v, lk, S, hT, hk, hF, hl, hd⟩ := H
  exact ⟨v, lk, S.kp (l := []) ((Kp.refl _ _).drewN n) (by simp), ht.keep _ _ _ [] _ hT ((Kp.refl _ _).drewN n) (by simp), hk.drewN n, hF, hl, hd⟩

/-- One byte more waits. -/
theorem FI.pushed {f : FuncId} {caps : Array Value} {T : World → List Nat → List (List Nat) → Prop} (ht : Teller f caps T) {w wr w1 : World} {F l lk : List Nat} {sb gb s mn av mx m h : Nat} {c : Bool} {cs : List (List Nat)} {wt : List Nat} {v v' : Value} (o : Obj)
    (S : StX wr sb gb s mn av mx m h wt v c) (hT : T wr lk cs) (hk : Kp (F ++ l) w wr) (hF : ∀ x ∈ fp sb gb v, x ∈ F ∨ w.heap.size ≤ x) (hl : ∀ x ∈ lk, x ∈ l ∨ w.heap.size ≤ x) (hd : ∀ x ∈ lk, x ∉ fp sb gb v)
    (b : Nat) (hb : b < 256) (hlen : wt.length < 100000) (hrow : Row w1 5 v' (cl wt ++ [.int .u8 b])) (hg : (wr.alloc o).grownBy w1 v.ownBlock) (hv : v'.ownBlock = v.ownBlock ∨ v'.ownBlock = some (wr.alloc o).heap.size) :
    FI T w F l sb gb s mn av mx m c (w1.setCell ⟨sb, 7, none⟩ v') h cs (wt ++ [b]) := by
  have ka : Kp [] wr (wr.alloc o) := (Kp.refl _ _).alloc o
  have S1 := S.kp ka (by simp)
  have T1 := ht.keep _ _ _ _ _ hT ka (by simp)
  have kg : Kp v.ownBlock.toList (wr.alloc o) w1 := (Kp.refl _ _).grown hg (fun x hx => .inl (by simp [hx]))
  have T2 := ht.keep _ _ _ _ _ T1 kg (fun x hx hlk => hd x hlk (mem_fp.2 (.inr (.inr (by simpa using hx)))))
  have k2 : Kp [sb] w1 (w1.setCell ⟨sb, 7, none⟩ v') := (Kp.refl _ _).setCell (p := ⟨sb, 7, none⟩) (.inl (by simp)) _
  have T3 := ht.keep _ _ _ _ _ T2 k2 (fun x hx hlk => hd x hlk (mem_fp.2 (.inl (by simpa using hx))))
  have hrow' : OwnB w1 v' (wt ++ [b]) := by
    unfold OwnB
    rw [cl_append]
    exact hrow
  have S2 := S1.grown hg (wt ++ [b]) v' hrow' (fun x hx => by
    rcases List.mem_append.1 hx with h | h
    · exact S.bts x h
    · obtain rfl : x = b := by simpa using h
      exact hb) (by simp; omega) hv
  have hsz : w.heap.size ≤ wr.heap.size := hk.size
  have hs1 : wr.heap.size < (wr.alloc o).heap.size := by simp
  have hnew : ∀ x, v'.ownBlock = some x → (v.ownBlock = some x ∨ wr.heap.size ≤ x) := fun x hx => by
    rcases hv with e | e
    · exact .inl (e ▸ hx)
    · rw [e] at hx
      have := Option.some.inj hx
      exact .inr (by omega)
  refine ⟨v', lk, S2, T3, ?_, ?_, hl, ?_⟩
  · refine ((hk.trans ka (by simp)).trans kg ?_).trans k2 ?_
    · intro x hx
      rcases hF x (mem_fp.2 (.inr (.inr (by simpa using hx)))) with h | h
      · exact .inl (List.mem_append_left _ h)
      · exact .inr h
    · intro x hx
      obtain rfl : x = sb := by simpa using hx
      rcases hF x (mem_fp.2 (.inl rfl)) with h | h
      · exact .inl (List.mem_append_left _ h)
      · exact .inr h
  · intro x hx
    rcases mem_fp.1 hx with rfl | rfl | h
    · exact hF x (mem_fp.2 (.inl rfl))
    · exact hF x (mem_fp.2 (.inr (.inl rfl)))
    · rcases hnew x h with e | e
      · exact hF x (mem_fp.2 (.inr (.inr e)))
      · exact .inr (by omega)
  · intro x hx hm
    rcases mem_fp.1 hm with rfl | rfl | h
    · exact hd x hx (mem_fp.2 (.inl rfl))
    · exact hd x hx (mem_fp.2 (.inr (.inl rfl)))
    · rcases hnew x h with e | e
      · exact hd x hx (mem_fp.2 (.inr (.inr e)))
      · have := ht.lt _ _ _ hT x hx
        omega

/-- What waits is told. -/
theorem FI.told {f : FuncId} {caps : Array Value} {T : World → List Nat → List (List Nat) → Prop} (ht : Teller f caps T) {w wr w1 : World} {F l lk : List Nat} {sb gb s mn av mx m h : Nat} {c : Bool} {cs : List (List Nat)} {wt : List Nat} {v v' u : Value}
    (_S : StX wr sb gb s mn av mx m h wt v c) (hT : T wr lk cs) (hk : Kp (F ++ l) w wr) (hF : ∀ x ∈ fp sb gb v, x ∈ F ∨ w.heap.size ≤ x) (hl : ∀ x ∈ lk, x ∈ l ∨ w.heap.size ≤ x) (hd : ∀ x ∈ lk, x ∉ fp sb gb v)
    (S1 : StX w1 sb gb s mn av mx m 0 [] v' c) (hu : OwnB w1 u wt) (hnew : ∀ x, u.ownBlock = some x → wr.heap.size ≤ x) (hv : v'.ownBlock = v.ownBlock) (k1 : Kp [sb] wr w1)
    (hne : wt ≠ []) (hlen : wt.length ≤ 100000) (hb : ∀ x ∈ wt, x < 256) (hcs : cs.length ≤ 100000) :
    Calls Tryd.prog f (#[u] ++ caps) w1 fun e w' => e = .returned (.tuple #[]) ∧ FI T w F l sb gb s mn av mx m c w' 0 (cs ++ [wt]) [] := by
  have efp : fp sb gb v' = fp sb gb v := by rw [fp, fp, hv]
  have T1 := ht.keep _ _ _ _ _ hT k1 (fun x hx hlk => hd x hlk (mem_fp.2 (.inl (by simpa using hx))))
  have hltk := ht.lt _ _ _ hT
  refine (ht.tell w1 lk cs u wt T1 hu (fun x hx hlk => by have := hnew x hx; have := hltk x hlk; omega) hne hlen hb hcs).mono ?_
  rintro e w' ⟨rfl, l', hT', hk', hl'⟩
  refine ⟨rfl, v', l', S1.kp hk' (fun x hx => by rw [efp]; exact hd x hx), hT', ?_, by rw [efp]; exact hF, ?_, ?_⟩
  · refine (hk.trans k1 ?_).trans hk' ?_
    · intro x hx
      obtain rfl : x = sb := by simpa using hx
      rcases hF x (mem_fp.2 (.inl rfl)) with h | h
      · exact .inl (List.mem_append_left _ h)
      · exact .inr h
    · intro x hx
      rcases hl x hx with h | h
      · exact .inl (List.mem_append_right _ h)
      · exact .inr h
  · intro x hx
    have := hk.size
    have := k1.size
    rcases hl' x hx with h | h | h
    · exact hl x h
    · have := hnew x h; exact .inr (by omega)
    · exact .inr (by omega)
  · intro x hx hm
    rw [efp] at hm
    rcases hl' x hx with h | h | h
    · exact hd x h hm
    · have := hnew x h
      have := _S.fplt x hm
      omega
    · have := k1.size
      have := _S.fplt x hm
      omega

end Go.Proofs.YtinijgkkmfdfiaaDoor
