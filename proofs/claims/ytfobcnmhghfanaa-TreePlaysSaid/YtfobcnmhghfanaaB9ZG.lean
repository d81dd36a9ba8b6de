/- A live question. -/
import Derived.Test.YtfobcnmhghfanaaB9ZF
namespace Go.Proofs.Ytfobcnmhghfanaa
open Go.RowKit Go.Shelf
set_option linter.unusedVariables false
set_option linter.unusedSimpArgs false

/-- A tree that was made since a world. -/
structure TB (w0 w : World) (ro : Ro) (p : Value) (L : List E) : Prop where
  tr : TreeAt w0.heap.size w ro p L
  bl : Below w0.heap.size w0 w
theorem TB.step {w0 w w' : World} {ro : Ro} {p : Value} {L : List E} (h : TB w0 w ro p L) {o : Int × List E} {e : Ending} (ho : TOut w0.heap.size w ro p o e w') : ∃ ro', e = .returned (.int .i64 o.1) ∧ TB w0 w' ro' p o.2 ∧ TTo w ro w' ro' := by
  obtain ⟨ro', he, ht, hto⟩ := ho
  exact ⟨ro', he, ⟨ht, h.bl.trans (hto.fr.below h.bl.size (fun k hk => (h.tr.lo k hk).1))⟩, hto⟩
theorem TB.below {w0 w w' : World} {ro : Ro} {p : Value} {L : List E} (h : TB w0 w ro p L) (hb : Below w.heap.size w w') : TB w0 w' ro p L := ⟨h.tr.below hb, h.bl.trans (hb.mono h.bl.size)⟩
theorem TB.ins {w0 w : World} {ro : Ro} {p : Value} {L : List E} (h : TB w0 w ro p L) (hlen : L.length ≤ 900000) (key : ByteArray) (n : Int) : Calls Try.prog 14 #[p, .string key, .int .i64 n] w fun e w' => ∃ ro', e = .returned (.int .i64 (insO L key n).1) ∧ TB w0 w' ro' p (insO L key n).2 ∧ TTo w ro w' ro' :=
  (tinsert_any h.tr hlen h.bl.size key n).mono (fun e w' ho => h.step ho)
theorem TB.gho {w0 w : World} {ro : Ro} {p : Value} {L : List E} (h : TB w0 w ro p L) (hlen : L.length ≤ 900000) (key : ByteArray) : Calls Try.prog 15 #[p, .string key] w fun e w' => ∃ ro', e = .returned (.int .i64 (ghostO L key).1) ∧ TB w0 w' ro' p (ghostO L key).2 ∧ TTo w ro w' ro' :=
  (tghost_any h.tr hlen key).mono (fun e w' ho => h.step ho)
theorem TB.pur {w0 w : World} {ro : Ro} {p : Value} {L : List E} (h : TB w0 w ro p L) (hlen : L.length ≤ 900000) (key : ByteArray) : Calls Try.prog 16 #[p, .string key] w fun e w' => ∃ ro', e = .returned (.int .i64 (purgeO L key).1) ∧ TB w0 w' ro' p (purgeO L key).2 ∧ TTo w ro w' ro' :=
  (tpurge_any h.tr hlen h.bl.size key).mono (fun e w' ho => h.step ho)
theorem tb_new (w0 w : World) (hb : Below w0.heap.size w0 w) : Calls Try.prog 8 #[] w fun e w' => ∃ ro b, e = .returned (pt b) ∧ TB w0 w' ro (pt b) [] ∧ Below w.heap.size w w' ∧ ∀ k, ro k ≠ none → w.heap.size ≤ k :=
  (tnew_any w0.heap.size w hb.size).mono (fun e w' ho => by
    obtain ⟨ro, b, he, ht, hb', hn⟩ := ho
    exact ⟨ro, b, he, ⟨ht, hb.trans (hb'.mono hb.size)⟩, hb', hn⟩)
def kb : ByteArray := ⟨#[98]⟩
def ka : ByteArray := ⟨#[97]⟩
theorem kl_ab : kl ka kb = true := by unfold kl; rw [ByteArray.toList_eq, ByteArray.toList_eq]; rfl
theorem ne_ab : ka ≠ kb := fun e => by have := kl_ab; rw [e, kl_irrefl] at this; cases this
theorem al1 : insO [] kb 1 = (0, [⟨kb, 1, false⟩]) := rfl
theorem al2 : insO [⟨kb, 1, false⟩] ka 2 = (0, [⟨ka, 2, false⟩, ⟨kb, 1, false⟩]) := by
  have h1 : ¬ (2000 < ka.size) := by decide
  simp [insO, h1, getL, addL, ne_ab.symm, kl_ab, kl_asymm kl_ab]
theorem al3 : insO [⟨ka, 2, false⟩, ⟨kb, 1, false⟩] kb 3 = (91, [⟨ka, 2, false⟩, ⟨kb, 1, false⟩]) := by
  have h1 : ¬ (2000 < kb.size) := by decide
  simp [insO, h1, getL, ne_ab]
theorem al4 : ghostO [⟨ka, 2, false⟩, ⟨kb, 1, false⟩] kb = (0, [⟨ka, 2, false⟩, ⟨kb, 1, true⟩]) := by
  simp [ghostO, getL, setL, ne_ab]
theorem al5 : nextL [⟨ka, 2, false⟩, ⟨kb, 1, true⟩] ka false = some ⟨kb, 1, true⟩ := by
  simp [nextL, nextP, kl_irrefl, kl_ab]
theorem al6 : insO [⟨ka, 2, false⟩, ⟨kb, 1, true⟩] kb 3 = (0, [⟨ka, 2, false⟩, ⟨kb, 3, false⟩]) := by
  have h1 : ¬ (2000 < kb.size) := by decide
  simp [insO, h1, getL, setL, ne_ab]
theorem al7 : purgeO [⟨ka, 2, false⟩, ⟨kb, 3, false⟩] kb = (92, [⟨ka, 2, false⟩, ⟨kb, 3, false⟩]) := by
  simp [purgeO, getL, ne_ab]
set_option maxHeartbeats 2000000 in
theorem alive_any (w : World) : Calls Try.prog 9 #[] w fun e w' => e = .returned (.bool true) ∧ Below w.heap.size w w' := by
  have hnw := tb_new w w (Below.refl _ _)
  go_enter Try.func9, Try.ntmps9
  go_wp2_with fail
  refine hnw.mono ?_
  clear hnw
  rintro e w1 ⟨ro1, b, rfl, t1, _, _⟩
  have h1 := t1.ins (by simp) kb 1
  rw [al1] at h1
  clear t1
  go_wp2_with fail
  refine Calls.mono h1 ?_
  clear h1
  rintro e w2 ⟨ro2, rfl, t2, _⟩
  have h2 := t2.ins (by simp) ka 2
  rw [al2] at h2
  clear t2
  simp only
  go_wp2_with fail
  refine Calls.mono h2 ?_
  clear h2
  rintro e w3 ⟨ro3, rfl, t3, _⟩
  have h3 := t3.ins (by simp) kb 3
  rw [al3] at h3
  clear t3
  simp only
  go_wp2_with fail
  refine Calls.mono h3 ?_
  clear h3
  rintro e w4 ⟨ro4, rfl, t4, _⟩
  have h4 := t4.gho (by simp) kb
  rw [al4] at h4
  clear t4
  simp only
  go_wp2_with fail
  refine Calls.mono h4 ?_
  clear h4
  rintro e w5 ⟨ro5, rfl, t5, _⟩
  have h5 := tnext_any t5.tr ka false
  rw [al5] at h5
  have T5 : Hid _ := t5
  clear t5
  simp only
  go_wp2_with fail
  refine Calls.mono h5 ?_
  clear h5
  rintro e w6 ⟨rfl, hb6⟩
  have t6 := T5.out.below hb6
  have h6 := t6.ins (by simp) kb 3
  rw [al6] at h6
  clear t6 T5 hb6
  have hkb : kb.toList = [98] := by rw [ByteArray.toList_eq]; rfl
  simp only [nextV]
  go_wp2_with fail
  refine Calls.mono h6 ?_
  clear h6
  rintro e w7 ⟨ro7, rfl, t7, _⟩
  have h7 := t7.pur (by simp) kb
  rw [al7] at h7
  clear t7
  simp only
  go_wp2_with fail
  refine Calls.mono h7 ?_
  clear h7
  rintro e w8 ⟨ro8, rfl, t8, _⟩
  have h8 := twell_any t8.tr (by simp)
  have HB : Hid _ := t8.bl
  clear t8
  simp only
  go_wp2_with fail
  refine Calls.mono h8 ?_
  clear h8
  rintro e w9 ⟨rfl, hb9⟩
  go_wp2
  go_ret
  exact ⟨rfl, HB.out.trans (hb9.mono HB.out.size)⟩
end Go.Proofs.Ytfobcnmhghfanaa
