/-
  What forms and bytes have in common, as the statements of layers above need it.
-/
import Derived.Test.YthbhdbjjobfchaaTlvRefRead
import Derived.Test.YthbhdbjjobfchaaTlvTrip
import Derived.Test.YthbhdbjjobfchaaTlvGet
namespace Go.Proofs.Ythbhdbjjobfchaa.Tlv
open Go.RowKit

theorem bytes_news {B : Nat} {w w' : World} {ad : Addr} {l c : Nat} {bs : List Int} (h : BySl 0 B w (.slice (some ad) l c) bs) (hb : Below B w w') : ∀ j u, (bs.map (Value.int .u8))[j]? = some u → w'.cell? (ad.add j) = some u := by
  intro j u hj
  have hjn : j < bs.length := by
    have := (List.getElem?_eq_some_iff.1 hj).1
    simpa using this
  obtain ⟨a', c', e, _, _, _, _, _, h7⟩ := h
  simp only [Value.slice.injEq] at e
  obtain ⟨rfl, _, _⟩ := e
  obtain ⟨b, o, e, _, hbB, hc⟩ := h7 (by intro e; subst e; simp at hjn)
  simp only [Option.some.injEq] at e
  subst e
  rw [addr_plus, hb.cell (p := ⟨b, o + j, none⟩) hbB, hc j hjn]
  simp only [List.getElem?_map, List.getElem?_eq_getElem hjn, Option.map_some, Option.some.injEq] at hj
  simp [List.getElem?_eq_getElem hjn, hj]

theorem bytes_one (bs : List Int) : ∀ u ∈ bs.map (Value.int .u8), u.oneCell' = true := by
  intro u hu
  obtain ⟨x, _, rfl⟩ := List.mem_map.1 hu
  rfl

theorem szT_right {n : Nat} {t : Tr n} (h : szT n t ≠ 0) : (bsz n t 65535 8).2 = true := by
  unfold szT at h
  split at h
  · assumption
  · exact absurd rfl h

theorem szT_form {n : Nat} {t : Tr n} (h : szT n t ≠ 0) : szT n t = ((formOf n t).length : Int) := by
  have h1 := szT_right h
  rw [szT, if_pos h1, bsz_len _ _ _ _ h1]
  simp [formOf]
  omega

theorem get_form {bs : List Int} {t : Tr 9} (hb : ∀ x ∈ bs, 0 ≤ x ∧ x ≤ 255) (h : getT bs = some t) : szT 9 t ≠ 0 ∧ formOf 9 t = bs := by
  unfold getT at h
  split at h
  · rename_i t' m hr
    split at h
    · rename_i hm
      simp only [Option.some.injEq] at h
      subst h
      obtain ⟨h1, h2⟩ := rd_form 8 bs t' m hb hr
      refine ⟨?_, by rw [h1, hm, List.take_length]⟩
      have h3 : (bsz 9 t' 65535 8).2 = true := h2
      rw [szT, if_pos h3, bsz_len _ _ _ _ h3]
      omega
    · cases h
  · cases h

theorem BySl.bytes {L B : Nat} {w : World} {v : Value} {bs : List Int} (h : BySl L B w v bs) : ∀ x ∈ bs, 0 ≤ x ∧ x ≤ 255 := by
  obtain ⟨_, _, _, _, _, _, _, h6, _⟩ := h
  exact h6

end Go.Proofs.Ythbhdbjjobfchaa.Tlv
