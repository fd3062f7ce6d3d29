/-
  A new stream; a stream's Sum; an engine's Sum.
-/
import Derived.Test.YtbmdnjmdehmahaaApi
namespace Go.Proofs.Ytbmdnjmdehmahaa
open Go.RowKit

/-- A stream's cells. -/
def strCells (b : Nat) (st rest : List Nat) (size : Nat) : List Value := .func (.func 28) #[.pointer (some ⟨b, 0, none⟩)] #[] :: (u32s st ++ (u8s rest ++ [.int .i64 (size : Nat)]))
theorem strCells_length {b : Nat} {st rest : List Nat} {size : Nat} (h1 : st.length = 8) (h2 : rest.length = 64) : (strCells b st rest size).length = 74 := by simp [strCells, u32s_length, u8s_length, h1, h2]
theorem strCells_one (b : Nat) (st rest : List Nat) (size : Nat) : ∀ v ∈ strCells b st rest size, v.oneCell' = true := by
  intro v hv
  simp only [strCells, List.mem_cons, List.mem_append, List.not_mem_nil, or_false] at hv
  rcases hv with rfl | hv | hv | rfl
  · rfl
  · exact u32s_one st v hv
  · exact u8s_one rest v hv
  · rfl
theorem strCells_word {b : Nat} {st rest : List Nat} {size : Nat} (h1 : st.length = 8) (j : Nat) (h : j < 8) : (strCells b st rest size)[1 + j]? = some (.int .u32 ((st.getD j 0 : Nat) : Int)) := by
  rw [strCells, Nat.add_comm, List.getElem?_cons_succ, List.getElem?_append_left (by rw [u32s_length]; omega)]
  exact u32s_at st j (by omega)
theorem strCells_byte {b : Nat} {st rest : List Nat} {size : Nat} (h1 : st.length = 8) (h2 : rest.length = 64) (j : Nat) (h : j < 64) : (strCells b st rest size)[9 + j]? = some (.int .u8 ((rest.getD j 0 : Nat) : Int)) := by
  rw [strCells, show 9 + j = (8 + j) + 1 by omega, List.getElem?_cons_succ, List.getElem?_append_right (by rw [u32s_length]; omega), List.getElem?_append_left (by rw [u32s_length, u8s_length]; omega), u32s_length, h1, Nat.add_sub_cancel_left]
  exact u8s_at rest j (by omega)
theorem strCells_size {b : Nat} {st rest : List Nat} {size : Nat} (h1 : st.length = 8) (h2 : rest.length = 64) : (strCells b st rest size)[73]? = some (.int .i64 (size : Nat)) := by
  rw [strCells, List.getElem?_cons_succ, List.getElem?_append_right (by rw [u32s_length]; omega), List.getElem?_append_right (by rw [u32s_length, u8s_length]; omega), u32s_length, u8s_length, h1, h2]
  rfl

theorem Str.range {w : World} {g b : Nat} {st rest : List Nat} {size : Nat} (h : Str w g b st rest size) : w.rangeAt g 0 (strCells b st rest size) := by
  obtain ⟨h1, h2, h3, h4, h5, h6, h7, h8, h9, h10⟩ := h
  intro j v hv
  have hj : j < 74 := by have := (List.getElem?_eq_some_iff.1 hv).1; rwa [strCells_length h7 h9] at this
  rw [Nat.zero_add]
  by_cases e0 : j = 0
  · subst e0
    rw [h2]
    exact hv
  · by_cases e1 : j < 9
    · have hw := strCells_word (b := b) (rest := rest) (size := size) h7 (j - 1) (by omega)
      rw [show 1 + (j - 1) = j by omega] at hw
      have hc := h3 (j - 1) (by omega)
      rw [show 1 + (j - 1) = j by omega] at hc
      rw [hc, ← hw, hv]
    · by_cases e2 : j < 73
      · have hw := strCells_byte (b := b) (size := size) h7 h9 (j - 9) (by omega)
        rw [show 9 + (j - 9) = j by omega] at hw
        have hc := h4 (j - 9) (by omega)
        rw [show 9 + (j - 9) = j by omega] at hc
        rw [hc, ← hw, hv]
      · have e3 : j = 73 := by omega
        subst e3
        rw [h5, ← strCells_size (b := b) h7 h9, hv]

theorem Str.of_block {w : World} {g b : Nat} {st rest : List Nat} {size : Nat} (h : w.heap[g]? = some (.cells (strCells b st rest size).toArray 83)) (h7 : st.length = 8) (h8 : Words st) (h9 : rest.length = 64) (h10 : ∀ x ∈ rest, x < 256) : Str w g b st rest size := by
  have c : ∀ j, w.cell? ⟨g, j, none⟩ = (strCells b st rest size)[j]? := fun j => by rw [cell_of_row w g j _ 83 (0, 0) h]; simp
  refine ⟨(Array.getElem?_eq_some_iff.1 h).1, (c 0).trans rfl, fun j hj => (c _).trans (strCells_word h7 j (by omega)), fun j hj => (c _).trans (strCells_byte h7 h9 j (by omega)), (c _).trans (strCells_size h7 h9), fun j => frozen_of_row w g j _ 83 h, h7, h8, h9, h10⟩

theorem Try.info83 : (Try.prog.info? 83).map (·.size) = some 74 := by kernel_rfl
theorem zero83 : Try.zeroCells83.size = 74 := by kernel_rfl

theorem built83 (b : Nat) : Try.prog.built 83 [(0, .func (.func 28) #[.pointer (some ⟨b, 0, none⟩)] #[]), (1, .agg (u32s first8).toArray)] = some (strCells b first8 (List.replicate 64 0) 0).toArray := by kernel_rfl

theorem wpList_build83 {ops : Array Oper} {rest : List Oper} {o : Oper} {a : Act} {w : World} {Q : Exit → Act → World → Prop} (hg : o.guard = none) (x y : Operand) (ho : o.op = .build 83 #[(0, x), (1, y)])
    (b : Nat) (hx : a.eval x = .func (.func 28) #[.pointer (some ⟨b, 0, none⟩)] #[]) (hy : a.eval y = .agg (u32s first8).toArray)
    (h : wpList Try.prog ops Q rest (a.put o.dst (.agg (strCells b first8 (List.replicate 64 0) 0).toArray)) w) : wpList Try.prog ops Q (o :: rest) a w := by
  have e : Try.prog.built 83 ((#[(0, x), (1, y)] : Array (Nat × Operand)).map fun (i, x) => (i, a.eval x)).toList = some (strCells b first8 (List.replicate 64 0) 0).toArray := by
    rw [← built83 b]
    simp only [List.map_toArray, List.map_cons, List.map_nil, hx, hy]
  refine wpList_build hg 83 _ ho (by rw [e]; rfl) ?_
  rw [e]
  exact h

theorem strOf_new {w : World} {g b : Nat} (h : w.heap[g]? = some (.cells (strCells b first8 (List.replicate 64 0) 0).toArray 83)) : StrOf w g b [] :=
  ⟨List.replicate 64 0, Str.of_block h rfl first8_words (by simp) (by simp), rfl⟩

set_option maxHeartbeats 1000000 in
set_option maxRecDepth 100000 in
theorem stream_any (b f : Nat) (n : Int) (w : World) (hf : f = 0 ∨ f = 1) (h : Eng w b f n) :
    Calls Try.prog 12 #[.pointer (some ⟨b, 0, none⟩)] w fun e w' => ∃ g, e = .returned (.pointer (some ⟨g, 0, none⟩)) ∧ w.heap.size ≤ g ∧ g < w'.heap.size ∧ Kp [b] w w' ∧ Eng w' b 1 n ∧ StrOf w' g b [] := by
  have HP := hid (prim_any b f n w hf h)
  have hbw : b < w.heap.size := h.1
  clear h
  have hmf : ∀ (fn : Fn) (first cap : Array Value) (w : World), (Instr.makeFunc fn first cap).run Try.prog w = .ok (.func fn first cap) w := fun _ _ _ _ => rfl
  go_enter Try.func12, Try.ntmps12
  go_wp2_with fail
  refine HP.out.mono ?_
  rintro e w1 ⟨rfl, hk, he⟩
  have HK := hid hk
  have HE := hid he
  have HR : Hid (w1.rangeAt b 3 (u32s first8)) := (he.2.2.2.2.2.1 rfl).1.range
  have HI : Hid ((Try.prog.info? 63).map (·.size) = some (u32s first8).length) := Try.info63
  clear hk he
  go_wp2_with (first | (refine wpList_load_mid (by rfl) 63 _ (by rfl) b 3 (by rfl) (u32s first8) _ ?hc Try.underlying63 rfl HI.out ?_; (case hc => exact HR.out)) | (refine wpList_build83 (by rfl) _ _ (by rfl) b (by rfl) (by rfl) ?_))
  go_ret
  exact ⟨_, rfl, HK.out.size, by simp, HK.out.alloc _, HE.out.below ((Below.refl _ _).alloc (Nat.le_refl _) _), strOf_new (heap_alloc_new _ _)⟩

set_option maxRecDepth 100000 in
theorem stream_nil (w : World) :
    Calls Try.prog 12 #[.pointer none] w fun e w' => e = .returned (.pointer none) ∧ w' = w := by
  go_enter Try.func12, Try.ntmps12
  go_wp2_with fail
  go_ret
  exact ⟨rfl, rfl⟩

theorem padded_blocks (p : List Nat) : (p ++ tailOf p.length).length / 64 = nblk p.length := by
  have h := padded_length p
  unfold padded at h
  rw [h, Nat.mul_div_cancel_left _ (by decide)]
theorem tailOf_lt (n : Nat) : ∀ x ∈ tailOf n, x < 256 := by
  intro x hx
  unfold tailOf at hx
  simp only [List.mem_cons, List.mem_append, List.mem_replicate, List.mem_map] at hx
  rcases hx with rfl | ⟨_, rfl⟩ | ⟨i, _, rfl⟩
  · decide
  · decide
  · exact Nat.mod_lt _ (by decide)
theorem tailOf_le (n : Nat) : (tailOf n).length ≤ 72 := by
  rw [tailOf_length]
  unfold nblk
  omega

set_option maxHeartbeats 600000 in
set_option maxRecDepth 100000 in
theorem ssum_any (g b f : Nat) (n : Int) (p : List Nat) (w : World) (hf : f = 0 ∨ f = 1) (he : Eng w b f n) (hst : StrOf w g b p) (hlen : p.length ≤ 562949953421312) (hn0 : 0 ≤ n) (hn1 : n < 1152921504606846976) :
    Calls Try.prog 15 #[.pointer (some ⟨g, 0, none⟩)] w fun e w' => e = .returned (.agg (u8s (sha p)).toArray) ∧ Kp [b] w w' ∧ ∃ f', (f' = 0 ∨ f' = 1) ∧ Eng w' b f' (n + ((nblk p.length - p.length / 64 : Nat) : Int)) := by
  have HE := hid he
  have HS := hid hst
  have hbw : b < w.heap.size := he.1
  have hgw : g < w.heap.size := by obtain ⟨r, h, _⟩ := hst; exact h.1
  clear he hst
  go_enter Try.func15, Try.ntmps15
  go_wp2_with fail
  rw [z32]
  obtain ⟨W1, hW1⟩ : ∃ W1, w.alloc (.cells (u8s (List.replicate 32 0)).toArray 30) = W1 := ⟨_, rfl⟩
  have HB1 : Hid (Below w.heap.size w W1 ∧ W1.heap.size = w.heap.size + 1 ∧ W1.there w.heap.size 0 32) := by
    rw [Hid, ← hW1]
    exact ⟨(Below.refl _ _).alloc (Nat.le_refl _) _, by simp, there_of_block (heap_alloc_new _ _) 0 32 (by decide)⟩
  rw [hW1]
  clear hW1
  have HS1 := hid (HS.out.kept (l := []) (Kp.below HB1.out.1) (by simp))
  refine (dead_any g b p W1 HS1.out).mono ?_
  rintro e w' ⟨rfl, hw⟩
  subst w'
  obtain ⟨rest, hstr, hrest⟩ := HS1.out
  have HSTR := hid hstr
  have HRE := hid hrest
  have c73 := hstr.2.2.2.2.1
  obtain ⟨cs, hcs⟩ : ∃ cs, strCells b (blks (p.length / 64) first8 p) rest p.length = cs := ⟨_, rfl⟩
  have HCS := hid hcs
  have HL : Hid (cs.length = 74) := by rw [Hid, ← hcs]; exact strCells_length hstr.2.2.2.2.2.2.1 hstr.2.2.2.2.2.2.2.2.1
  have HR : Hid (W1.rangeAt g 0 cs) := by rw [Hid, ← hcs]; exact hstr.range
  have H1 : Hid (cs.toArray.all (·.oneCell') = true) := by rw [Hid, ← hcs]; exact all_oneCell_toArray (strCells_one _ _ _ _)
  have HI : Hid ((Try.prog.info? 83).map (·.size) = some cs.length) := by rw [Hid, HL.out]; exact Try.info83
  have HI2 : Hid ((Try.prog.info? 83).map (·.size) = some cs.toArray.size) := by rw [Hid, List.size_toArray]; exact HI.out
  have HZ : Hid (Try.zeroCells83.size = cs.toArray.size) := by
    have e : cs.toArray.size = 74 := by rw [List.size_toArray, HL.out]
    rw [Hid, e]
    exact zero83
  clear hcs hstr hrest
  have hcc : ∀ ob, (W1.alloc ob).cell? ⟨g, 73, none⟩ = some (.int .i64 (p.length : Nat)) := fun ob => by
    rw [World.cell?_alloc_past _ _ _ (by have := HB1.out.2.1; show g < W1.heap.size; omega)]
    exact c73
  go_wp2_with (first | (refine wpList_load_mid (by rfl) 83 _ (by rfl) g 0 (by rfl) cs _ ?hc Try.underlying83 rfl HI.out ?_; (case hc => exact HR.out)) | (refine wpList_store_row (by rfl) 83 _ _ (by rfl) W1.heap.size cs.toArray (by rfl) (by rfl) 83 ?old ?hg HI2.out ?hs H1.out ?_; (case hg => exact heap_alloc_new _ _); (case hs => exact HZ.out); rw [World.setRow_alloc_new]))
  obtain ⟨G, hG⟩ : ∃ G, W1.heap.size = G := ⟨_, rfl⟩
  obtain ⟨W2, hW2⟩ : ∃ W2, W1.alloc (.cells cs.toArray 83) = W2 := ⟨_, rfl⟩
  have HB2 : Hid (Below W1.heap.size W1 W2 ∧ W2.heap.size = G + 1) := by rw [Hid, ← hW2]; exact ⟨(Below.refl _ _).alloc (Nat.le_refl _) _, by simp [hG]⟩
  have HG2 : Hid (StrOf W2 G b p) := by
    have h : W2.heap[G]? = some (.cells cs.toArray 83) := by rw [← hW2, ← hG]; exact heap_alloc_new _ _
    rw [← HCS.out] at h
    have hs := HSTR.out
    exact ⟨rest, Str.of_block h hs.2.2.2.2.2.2.1 hs.2.2.2.2.2.2.2.1 hs.2.2.2.2.2.2.2.2.1 hs.2.2.2.2.2.2.2.2.2, HRE.out⟩
  have HGZ : Hid (G = w.heap.size + 1) := by rw [Hid, ← hG]; exact HB1.out.2.1
  rw [hW2, hG]
  clear hW2 hG hcc c73 HL HR H1 HI HI2 HZ HSTR HRE HCS
  refine (tail_any p.length W2 (by omega)).mono ?_
  rintro e w3 ⟨v, rfl, hown, hb3⟩
  have hz3 : G < w3.heap.size := by have := HB2.out.2; have := hb3.size; omega
  have hGZ : w.heap.size < G := by have := HGZ.out; omega
  have HV : Hid (BySl [b, G] w3 v (tailOf p.length)) := hown.bySl (by have := HB2.out.2; simp; omega) (by have := tailOf_le p.length; omega) (tailOf_lt _)
  have HB3 : Hid (Below W1.heap.size W1 w3) := HB2.out.1.trans (hb3.mono HB2.out.1.size)
  have HE3 : Hid (Eng w3 b f n) := ((HE.out.below HB1.out.1).below HB2.out.1).below hb3
  have HS3 : Hid (StrOf w3 G b p) := HG2.out.kept (l := []) (Kp.below hb3) (by simp)
  obtain ⟨a3, c3, hv3, _⟩ := id HV.out
  subst hv3
  clear hown hb3
  obtain ⟨T, hT⟩ : ∃ T, (tailOf p.length).length = T := ⟨_, rfl⟩
  have HT := hid hT
  have HV' := HV
  rw [hT] at HV' ⊢
  have hTle : T ≤ 72 := by rw [← hT]; exact tailOf_le _
  clear hT
  go_wp2_with fail
  refine (take_any G b f n (.slice a3 T c3) p (tailOf p.length) w3 hf HE3.out HS3.out (by omega) HV'.out (by rw [HT.out]; omega) hn0 (by rw [HT.out]; omega)).mono ?_
  rintro e w4 ⟨rfl, hk4, hs4, f4, hf4, he4⟩
  rw [padded_blocks] at he4
  obtain ⟨rest4, hstr4, _⟩ := hs4
  rw [padded_blocks] at hstr4
  obtain ⟨st, hst4⟩ : ∃ st, blks (nblk p.length) first8 (p ++ tailOf p.length) = st := ⟨_, rfl⟩
  rw [hst4] at hstr4
  have HSHA : Hid (sha p = hashOf st) := by rw [Hid, sha_hash, padded, hst4]
  have HF4 := hid hf4
  have HE4 := hid he4
  have HK4 := hid hk4
  have HR : Hid (w4.rangeAt G 1 (u32s st)) := hstr4.2.2.1.range
  have HST : Hid (st.length = 8 ∧ Words st) := ⟨hstr4.2.2.2.2.2.2.1, hstr4.2.2.2.2.2.2.2.1⟩
  have HI : Hid ((Try.prog.info? 63).map (·.size) = some (u32s st).length) := by rw [Hid, u32s_length, HST.out.1]; exact Try.info63
  clear hst4 hstr4 hf4 he4 hk4
  have HHA : Hid (∀ w, Calls Try.prog 33 #[.agg (u32s st).toArray] w fun e w' => e = .returned (.agg (u8s (hashOf st)).toArray) ∧ Below w.heap.size w w') := fun w => hash_any st w HST.out.1 HST.out.2
  obtain ⟨us, hus⟩ : ∃ us, u32s st = us := ⟨_, rfl⟩
  rw [hus] at HR HI HHA
  clear hus
  obtain ⟨ds, hds⟩ : ∃ ds, u8s (hashOf st) = ds := ⟨_, rfl⟩
  have HDS : Hid (u8s (sha p) = ds) := by rw [Hid, HSHA.out, hds]
  have HDL : Hid (ds.length = 32) := by rw [Hid, ← hds, u8s_length, hashOf_length]
  have H1 : Hid (ds.toArray.all (·.oneCell') = true) := by rw [Hid, ← hds]; exact all_oneCell_toArray (u8s_one _)
  rw [hds] at HHA
  clear hds
  have HI3 : Hid ((Try.prog.info? 30).map (·.size) = some ds.length) := by rw [Hid, HDL.out]; exact Try.info30
  have HI4 : Hid ((Try.prog.info? 30).map (·.size) = some ds.toArray.size) := by rw [Hid, List.size_toArray]; exact HI3.out
  go_wp2_with (refine wpList_load_mid (by rfl) 63 _ (by rfl) G 1 (by rfl) us _ ?hc Try.underlying63 rfl HI.out ?_; (case hc => exact HR.out))
  refine (HHA.out w4).mono ?_
  rintro e w5 ⟨rfl, hb5⟩
  have HK5 : Hid (Kp [b, G] W1 w5) := ((Kp.below HB3.out).trans HK4.out).trans (Kp.below hb5)
  have HE5 := hid (HE4.out.below hb5)
  have HT5 : Hid (w5.there w.heap.size 0 ds.toArray.size) := by
    have e : ds.toArray.size = 32 := by rw [List.size_toArray, HDL.out]
    rw [Hid, e]
    intro j hj
    have h := HB1.out.2.2 j hj
    have hz := HB1.out.2.1
    rw [HK5.out.cell (p := ⟨w.heap.size, 0 + j, none⟩) (by show w.heap.size < W1.heap.size; omega) (by simp; omega), HK5.out.frozen (p := ⟨w.heap.size, 0 + j, none⟩) (by show w.heap.size < W1.heap.size; omega) (by simp; omega)]
    exact h
  clear hb5
  go_wp2_with (refine wpList_store_mid (by rfl) 30 _ _ (by rfl) w.heap.size 0 ds.toArray (by rfl) (by rfl) ?ht HI4.out H1.out ?_; (case ht => exact HT5.out))
  have hr : World.rangeAt (w5.setCells w.heap.size 0 ds) w.heap.size 0 ds := World.rangeAt_setCells_same _ _ _ _ (by have h := HT5.out; rwa [List.size_toArray] at h)
  refine bodyPost_ret (v := .agg ds.toArray) ?_ rfl ⟨by rw [HDS.out], ?_, f4, HF4.out, ?_⟩
  · exact results_cell_mid Try.results15 _ _ w.heap.size 0 _ _ rfl hr Try.underlying30 rfl HI3.out
  · have h1 : Kp [b, G] w w5 := (Kp.below HB1.out.1).trans HK5.out
    exact (h1.mono (m := [b]) (fun x hx => by
      simp only [List.mem_cons, List.not_mem_nil, or_false] at hx ⊢
      rcases hx with hx | hx
      · exact .inl hx
      · exact .inr (by omega))).setCells (.inr (Nat.le_refl _)) _ _
  · exact HE5.out.kept (l := [w.heap.size]) ((Kp.refl _ _).setCells (.inl (by simp)) _ _) (by simp; omega)

set_option maxRecDepth 100000 in
theorem ssum_nil (w : World) :
    Calls Try.prog 15 #[.pointer none] w fun e w' => e = .returned (.agg (u8s (List.replicate 32 0)).toArray) ∧ Below w.heap.size w w' := by
  go_enter Try.func15, Try.ntmps15
  go_wp2_with fail
  refine (dead_nil _).mono ?_
  rintro e w1 ⟨rfl, hw⟩
  subst w1
  rw [z32]
  go_wp2_with (refine wpList_store_row (by rfl) 30 _ _ (by rfl) w.heap.size (u8s (List.replicate 32 0)).toArray (by rfl) (by rfl) 30 ?old ?hg ?hi ?hs ?h1 ?_; (case hg => exact heap_alloc_new _ _); (case hi => exact Try.info30); (case hs => rfl); (case h1 => exact all_oneCell_toArray (u8s_one _)); rw [World.setRow_alloc_new])
  refine bodyPost_ret (v := .agg (u8s (List.replicate 32 0)).toArray) ?_ rfl ⟨rfl, (Below.refl _ _).alloc (Nat.le_refl _) _⟩
  exact results_cell_row Try.results15 _ _ w.heap.size 30 _ (0, 0) _ rfl (heap_alloc_new _ _) Try.underlying30 rfl Try.info30

set_option maxHeartbeats 1000000 in
set_option maxRecDepth 100000 in
theorem sum_any (b f : Nat) (n : Int) (v : Value) (bs : List Nat) (w : World) (hf : f = 0 ∨ f = 1) (he : Eng w b f n) (hv : BySl [b] w v bs) (hn0 : 0 ≤ n) (hn1 : n < 576460752303423488) :
    Calls Try.prog 11 #[.pointer (some ⟨b, 0, none⟩), v] w fun e w' => e = .returned (.agg (u8s (sha bs)).toArray) ∧ Kp [b] w w' ∧ ∃ f', (f' = 0 ∨ f' = 1) ∧ Eng w' b f' (n + ((nblk bs.length : Nat) : Int)) := by
  have HE := hid he
  have HV := hid hv
  have hbw : b < w.heap.size := he.1
  obtain ⟨a, cap, rfl, hr⟩ := hv
  have hl47 := hr.2.2.2.1
  clear hr he
  obtain ⟨L, hL⟩ : ∃ L, bs.length = L := ⟨_, rfl⟩
  rw [hL] at HV hl47 ⊢
  have HL := hid hL
  clear hL
  go_enter Try.func11, Try.ntmps11
  go_wp2_with fail
  rw [z32]
  obtain ⟨W1, hW1⟩ : ∃ W1, w.alloc (.cells (u8s (List.replicate 32 0)).toArray 30) = W1 := ⟨_, rfl⟩
  have HB1 : Hid (Below w.heap.size w W1 ∧ W1.heap.size = w.heap.size + 1 ∧ W1.there w.heap.size 0 32) := by
    rw [Hid, ← hW1]
    exact ⟨(Below.refl _ _).alloc (Nat.le_refl _) _, by simp, there_of_block (heap_alloc_new _ _) 0 32 (by decide)⟩
  rw [hW1]
  clear hW1
  refine (stream_any b f n W1 hf (HE.out.below HB1.out.1)).mono ?_
  rintro e w2 ⟨g, rfl, hg1, hg2, hk2, he2, hs2⟩
  have hwg : w.heap.size < g := by have := HB1.out.2.1; omega
  have HK2 := hid hk2
  have HE2 := hid he2
  have HS2 := hid hs2
  have HV2 : Hid (BySl [b, g] w2 (.slice a L cap) bs) := ((HV.out.kept (m := []) (Kp.below HB1.out.1) (by simp)).mono (m := [b, g]) (fun x hx => by
    simp only [List.mem_cons, List.not_mem_nil, or_false] at hx ⊢
    rcases hx with hx | hx
    · exact .inl hx
    · exact .inr (by omega))).kept hk2 (by simp)
  clear hk2 he2 hs2 hg1
  go_wp2_with fail
  refine (write_any g b 1 n _ [] bs w2 (.inr rfl) HE2.out HS2.out (by omega) HV2.out (by rw [HL.out]; simp; omega) hn0 (by rw [HL.out]; omega)).mono ?_
  rintro e w3 ⟨rfl, hk3, hs3, f3, hf3, he3⟩
  rw [List.nil_append] at hs3 he3
  have HK3 := hid hk3
  have HE3 := hid he3
  have HS3 := hid hs3
  have HF3 := hid hf3
  rw [HL.out]
  clear hk3 hs3 hf3 he3
  go_wp2_with fail
  refine (ssum_any g b f3 _ bs w3 HF3.out HE3.out HS3.out (by rw [HL.out]; omega) (by omega) (by rw [HL.out]; simp; omega)).mono ?_
  rintro e w4 ⟨rfl, hk4, f4, hf4, he4⟩
  have HF4 := hid hf4
  have HE4 : Hid (Eng w4 b f4 (n + ((nblk bs.length : Nat) : Int))) := by
    have e : n + ((bs.length / 64 - ([] : List Nat).length / 64 : Nat) : Int) + ((nblk bs.length - bs.length / 64 : Nat) : Int) = n + ((nblk bs.length : Nat) : Int) := by
      have : bs.length / 64 ≤ nblk bs.length := by unfold nblk; omega
      simp only [List.length_nil, Nat.zero_div, Nat.sub_zero]
      omega
    rw [e] at he4
    exact he4
  have HK4 : Hid (Kp [b, g] W1 w4) := ((HK2.out.mono (fun x hx => .inl (by simp at hx; simp [hx]))).trans HK3.out).trans (hk4.mono (fun x hx => .inl (by simp at hx; simp [hx])))
  clear hk4 hf4 he4
  obtain ⟨ds, hds⟩ : ∃ ds, u8s (sha bs) = ds := ⟨_, rfl⟩
  have HDS := hid hds
  have HDL : Hid (ds.length = 32) := by rw [Hid, ← hds, u8s_length, sha_hash, hashOf_length]
  have H1 : Hid (ds.toArray.all (·.oneCell') = true) := by rw [Hid, ← hds]; exact all_oneCell_toArray (u8s_one _)
  rw [hds]
  clear hds
  have HI3 : Hid ((Try.prog.info? 30).map (·.size) = some ds.length) := by rw [Hid, HDL.out]; exact Try.info30
  have HI4 : Hid ((Try.prog.info? 30).map (·.size) = some ds.toArray.size) := by rw [Hid, List.size_toArray]; exact HI3.out
  have HT4 : Hid (w4.there w.heap.size 0 ds.toArray.size) := by
    have e : ds.toArray.size = 32 := by rw [List.size_toArray, HDL.out]
    rw [Hid, e]
    intro j hj
    have h := HB1.out.2.2 j hj
    have hz := HB1.out.2.1
    rw [HK4.out.cell (p := ⟨w.heap.size, 0 + j, none⟩) (by show w.heap.size < W1.heap.size; omega) (by simp; omega), HK4.out.frozen (p := ⟨w.heap.size, 0 + j, none⟩) (by show w.heap.size < W1.heap.size; omega) (by simp; omega)]
    exact h
  go_wp2_with (refine wpList_store_mid (by rfl) 30 _ _ (by rfl) w.heap.size 0 ds.toArray (by rfl) (by rfl) ?ht HI4.out H1.out ?_; (case ht => exact HT4.out))
  have hr : World.rangeAt (w4.setCells w.heap.size 0 ds) w.heap.size 0 ds := World.rangeAt_setCells_same _ _ _ _ (by have h := HT4.out; rwa [List.size_toArray] at h)
  refine bodyPost_ret (v := .agg ds.toArray) ?_ rfl ⟨by rw [HDS.out], ?_, f4, HF4.out, ?_⟩
  · exact results_cell_mid Try.results11 _ _ w.heap.size 0 _ _ rfl hr Try.underlying30 rfl HI3.out
  · have h1 : Kp [b, g] w w4 := (Kp.below HB1.out.1).trans HK4.out
    exact (h1.mono (m := [b]) (fun x hx => by
      simp only [List.mem_cons, List.not_mem_nil, or_false] at hx ⊢
      rcases hx with hx | hx
      · exact .inl hx
      · exact .inr (by omega))).setCells (.inr (Nat.le_refl _)) _ _
  · have h := HE4.out.kept (l := [w.heap.size]) ((Kp.refl _ _).setCells (g := w.heap.size) (.inl (by simp)) ds 0) (by simp; omega)
    rw [HL.out] at h
    exact h

set_option maxRecDepth 100000 in
theorem sum_nil (a : Option Addr) (l c : Nat) (w : World) :
    Calls Try.prog 11 #[.pointer none, .slice a l c] w fun e w' => e = .returned (.agg (u8s (List.replicate 32 0)).toArray) ∧ Below w.heap.size w w' := by
  go_enter Try.func11, Try.ntmps11
  go_wp2_with fail
  refine (stream_nil _).mono ?_
  rintro e w1 ⟨rfl, hw⟩
  subst w1
  go_wp2_with fail
  refine (write_nil _ _ _ _).mono ?_
  rintro e w1 ⟨rfl, hw⟩
  subst w1
  go_wp2_with fail
  refine (ssum_nil _).mono ?_
  rintro e w1 ⟨rfl, hb⟩
  have HG : Hid (w1.heap[w.heap.size]? = some (.cells (u8s (List.replicate 32 0)).toArray 30)) := by
    rw [Hid, hb.block _ (by simp), z32]
    exact heap_alloc_new _ _
  have HB : Hid (Below w.heap.size w w1) := ((Below.refl _ _).alloc (Nat.le_refl _) _).trans (hb.mono (by simp))
  clear hb
  go_wp2_with (refine wpList_store_row (by rfl) 30 _ _ (by rfl) w.heap.size (u8s (List.replicate 32 0)).toArray (by rfl) (by rfl) 30 ?old ?hg ?hi ?hs ?h1 ?_; (case hg => exact HG.out); (case hi => exact Try.info30); (case hs => rfl); (case h1 => exact all_oneCell_toArray (u8s_one _)))
  refine bodyPost_ret (v := .agg (u8s (List.replicate 32 0)).toArray) ?_ rfl ⟨rfl, ?_⟩
  · exact results_cell_row Try.results11 _ _ w.heap.size 30 _ (0, 0) _ rfl (setRow_heap _ _ _ _ _ _ HG.out) Try.underlying30 rfl Try.info30
  · exact ((Kp.below (l := []) HB.out).setRow (.inr (Nat.le_refl _)) _).toBelow (by simp)
end Go.Proofs.Ytbmdnjmdehmahaa
