/- The document's sorted list: how it lies; at, Get, Next, Count. -/
import Derived.Test.YtfobcnmhghfanaaB9ZJ
import Derived.Deep.CutBlock
import Derived.Deep.DeepCutAuto
namespace Go.Proofs.Ytfobcnmhghfanaa
open Go.RowKit Go.Shelf
set_option linter.unusedVariables false
set_option linter.unusedSimpArgs false

/-- Where a key stands, or would stand. -/
structure Pos (L : List E) (key : ByteArray) (k : Nat) : Prop where
  le : k ≤ L.length
  lo : ∀ j (h : j < L.length), j < k → kl L[j].key key = true
  hi : ∀ h : k < L.length, kl (L[k]'h).key key = false
def isAt (L : List E) (key : ByteArray) (k : Nat) : Bool := match L[k]? with | some e => decide (e.key = key) | none => false
theorem pos_some {L : List E} (hl : Line L) {key : ByteArray} {k : Nat} (h : k < L.length) (he : L[k].key = key) : getL L key = some L[k] := by
  rw [← he]; exact get_of_mem hl (List.getElem_mem h)
theorem pos_none {L : List E} (hl : Line L) {key : ByteArray} {k : Nat} (hp : Pos L key k) (hn : ∀ h : k < L.length, (L[k]'h).key ≠ key) : getL L key = none := by
  cases hg : getL L key with
  | none => rfl
  | some e =>
    exfalso
    obtain ⟨h1, h2⟩ := getL_mem hg
    obtain ⟨j, hj, rfl⟩ := List.getElem_of_mem h1
    rcases Nat.lt_trichotomy j k with h | h | h
    · have := hp.lo j hj h; rw [h2, kl_irrefl] at this; cases this
    · subst h; exact hn hj h2
    · have h3 := List.pairwise_iff_getElem.1 hl k j (by omega) hj h
      have h4 := hp.hi (by omega)
      rw [h2] at h3; rw [h3] at h4; cases h4
theorem next_from {L : List E} {key : ByteArray} {is : Bool} {m : Nat} (h1 : ∀ j (h : j < L.length), j < m → nextP key is L[j] = false) (h2 : ∀ h : m < L.length, nextP key is (L[m]'h) = true) : nextL L key is = L[m]? := by
  unfold nextL
  rw [find_parts (n := m) (by
    rw [List.find?_eq_none]
    intro y hy
    obtain ⟨i, hi, rfl⟩ := List.getElem_of_mem hy
    rw [List.length_take] at hi
    rw [List.getElem_take, h1 i (by omega) (by omega)]; simp)]
  by_cases hlt : m < L.length
  · rw [List.drop_eq_getElem_cons hlt, List.find?_cons, h2 hlt, List.getElem?_eq_getElem hlt]
  · rw [List.drop_eq_nil_of_le (by omega), List.getElem?_eq_none (by omega)]; rfl
theorem pos_gt {L : List E} (hl : Line L) {key : ByteArray} {k : Nat} (hp : Pos L key k) (h : k < L.length) (hn : L[k].key ≠ key) : kl key L[k].key = true := by
  cases h1 : kl key L[k].key with
  | true => rfl
  | false => exact absurd (kl_eq (hp.hi h) h1) hn
theorem pos_next {L : List E} (hl : Line L) {key : ByteArray} {k : Nat} (hp : Pos L key k) (is : Bool) : nextL L key is = L[if isAt L key k && !is then k + 1 else k]? := by
  have hlt : ∀ j (h : j < L.length), j < k → nextP key is L[j] = false := fun j h hj => nextP_lt (hp.lo j h hj)
  by_cases h : k < L.length
  · by_cases he : L[k].key = key
    · have hi : isAt L key k = true := by unfold isAt; rw [List.getElem?_eq_getElem h]; simp [he]
      rw [hi]
      cases is with
      | true =>
        simp only [Bool.not_true, Bool.and_false, Bool.false_eq_true, if_false]
        exact next_from hlt (fun _ => by simp [nextP, he])
      | false =>
        simp only [Bool.not_false, Bool.and_true, if_true]
        refine next_from (fun j hj hk => ?_) (fun h' => ?_)
        · by_cases e : j = k
          · subst e; simp [nextP, he, kl_irrefl]
          · exact hlt j hj (by omega)
        · have := List.pairwise_iff_getElem.1 hl k (k + 1) h h' (by omega)
          rw [he] at this; exact nextP_gt this
    · have hi : isAt L key k = false := by unfold isAt; rw [List.getElem?_eq_getElem h]; simp [he]
      rw [hi]
      simp only [Bool.false_and, Bool.false_eq_true, if_false]
      exact next_from hlt (fun _ => nextP_gt (pos_gt hl hp h he))
  · have hi : isAt L key k = false := by unfold isAt; rw [List.getElem?_eq_none (by omega)]
    rw [hi]
    simp only [Bool.false_and, Bool.false_eq_true, if_false]
    exact next_from hlt (fun h' => absurd h' h)
theorem pos_add {L : List E} (hl : Line L) {x : E} {k : Nat} (hp : Pos L x.key k) (hn : ∀ h : k < L.length, (L[k]'h).key ≠ x.key) : addL L x = L.take k ++ x :: L.drop k := by
  have hb : Bnd L x.key true k := ⟨hp.le, fun t h ht => nextP_lt (hp.lo t h ht), fun t h ht => hl.mono ht h (nextP_gt (pos_gt hl hp (by omega) (hn (by omega))))⟩
  have := add_at (X := []) (Y := []) (e := x) (by simp) (by simp) hb (getL_none (pos_none hl hp hn))
  simpa using this
theorem pos_set {L : List E} (hl : Line L) {x : E} {k : Nat} (h : k < L.length) (he : x.key = L[k].key) : setL L x = L.set k x := by
  have := set_at (X := []) (Y := []) (e := x) h he (by simpa using hl)
  simpa using this
theorem pos_del {L : List E} (hl : Line L) {k : Nat} (h : k < L.length) : delL L L[k].key = L.eraseIdx k := by
  have := del_at (X := []) (Y := []) h (by simpa using hl)
  simpa using this
/-- The document's list as it lies. -/
structure RT (base : Nat) (w : World) (b : Nat) (lv : Value) (L : List E) : Prop where
  hb : w.heap[b]? = some (.cells #[lv] 28 (0, 0))
  row : Row 56 3 cE base w lv L
  ne : lv.ownBlock ≠ some b
  lo : base ≤ b
theorem RT.lt {base : Nat} {w : World} {b : Nat} {lv : Value} {L : List E} (h : RT base w b lv L) : b < w.heap.size := (Array.getElem?_eq_some_iff.1 h.hb).1
theorem RT.keep {base : Nat} {w w' : World} {b : Nat} {lv : Value} {L : List E} (h : RT base w b lv L) {G : Nat → Prop} (hf : Fr w w' G) (h1 : ¬ G b) (h2 : ∀ k, lv.ownBlock = some k → ¬ G k) : RT base w' b lv L :=
  ⟨(hf.block b h.lt h1).trans h.hb, h.row.of_block (fun k hk => hf.block k (h.row.lo k hk).2 (h2 k hk)), h.ne, h.lo⟩
theorem RT.below {base : Nat} {w w' : World} {b : Nat} {lv : Value} {L : List E} (h : RT base w b lv L) (hb : Below w.heap.size w w') : RT base w' b lv L :=
  h.keep (Fr.of_below (F := fun _ => False) hb) (fun h => h) (fun _ _ h => h)
theorem RT.cell {base : Nat} {w : World} {b : Nat} {lv : Value} {L : List E} (h : RT base w b lv L) : w.cell? ⟨b, 0, none⟩ = some lv := by rw [cell_of_row w b 0 _ _ _ h.hb]; rfl
theorem RT.ent {base : Nat} {w : World} {b g n cap : Nat} {L : List E} (h : RT base w b (.slice (some ⟨g, 0, none⟩) n cap) L) (i : Nat) (hi : i < L.length) : w.cell? ⟨g, i * 3, none⟩ = some (.string L[i].key) ∧ w.cell? ⟨g, i * 3 + 1, none⟩ = some (.int .i64 L[i].num) ∧ w.cell? ⟨g, i * 3 + 2, none⟩ = some (.bool L[i].ghost) :=
  ⟨by have := h.row.cell (cE_len _) i hi 0 (by omega); simpa [cE] using this, by have := h.row.cell (cE_len _) i hi 1 (by omega); simpa [cE] using this, by have := h.row.cell (cE_len _) i hi 2 (by omega); simpa [cE] using this⟩
set_option maxRecDepth 20000 in
set_option maxHeartbeats 2000000 in
theorem rat_any {base : Nat} {w : World} {b : Nat} {lv : Value} {L : List E} (h : RT base w b lv L) (hlen : L.length ≤ 900000) (key : ByteArray) :
    Calls Try.prog 32 #[pt b, .string key] w fun e w' => ∃ k, Pos L key k ∧ e = .returned (.tuple #[.int .i64 k, .bool (isAt L key k)]) ∧ Below w.heap.size w w' := by
  obtain ⟨ao, cap, rfl, hc, _⟩ := h.row.form
  have c0 := h.cell
  have HR : Hid (RT base w b (.slice ao L.length cap) L) := h
  clear h
  go_enter Try.func32, Try.ntmps32
  go_upto_block 0 with fail
  go_cut [6] (fun i wx => ∃ k : Nat, i = .int .i64 k ∧ Hid (Pos L key k) ∧ wx = w)
  case first =>
    go_wp2_with fail
    go_loopw [6] (fun i wr => ∃ k : Nat, i = .int .i64 k ∧ k ≤ L.length ∧ Hid (∀ j (h : j < L.length), j < k → kl L[j].key key = true) ∧ wr = w) (fun i _ => L.length - (intOf i).toNat)
    case atStart => exact ⟨0, rfl, by omega, fun j h hj => by omega, rfl⟩
    case round =>
      obtain ⟨k, rfl, hk, HLo, rfl⟩ := hrel
      by_cases h1 : k < L.length
      · obtain ⟨g, cap', hv, _⟩ := HR.out.row.at_ (by omega)
        cases hv
        obtain ⟨e0, _, _⟩ := HR.out.ent k h1
        cases hkl : kl L[k].key key with
        | true =>
          have HN : Hid (∀ j (h : j < L.length), j < k + 1 → kl L[j].key key = true) := fun j h hj => by
            by_cases e : j = k
            · subst e; exact hkl
            · exact HLo.out j h (by omega)
          have hbl : Op.bytesLess L[k].key.toList key.toList = true := hkl
          clear hkl HLo
          generalize L[k].key = kk at *
          go_wp2_with fail
          go_roundw
          case rel => exact ⟨k + 1, by go_num, by omega, HN, by trivial⟩
          case measure => simp [intOf]; omega
        | false =>
          have HP : Hid (Pos L key k) := ⟨hk, HLo.out, fun _ => hkl⟩
          have hbl : Op.bytesLess L[k].key.toList key.toList = false := hkl
          clear hkl HLo
          generalize L[k].key = kk at *
          go_wp2_with fail
          go_meet
          case rel => exact ⟨k, rfl, HP, rfl⟩
      · have HP : Hid (Pos L key k) := ⟨hk, HLo.out, fun h => absurd h h1⟩
        go_wp2_with fail
        go_meet
        case rel => exact ⟨k, rfl, HP, rfl⟩
  case rest =>
  obtain ⟨k, rfl, HP, rfl⟩ := hcut
  have hk := HP.out.le
  obtain ⟨t, ht⟩ : ∃ t, isAt L key k = t := ⟨_, rfl⟩
  by_cases h1 : k < L.length
  · obtain ⟨g, cap', hv, _⟩ := HR.out.row.at_ (by omega)
    cases hv
    obtain ⟨e0, _, _⟩ := HR.out.ent k h1
    have ht2 : (L[k].key.toList == key.toList) = t := by rw [eq_kl, ← ht]; unfold isAt; rw [List.getElem?_eq_getElem h1]
    generalize L[k].key = kk at *
    have HT : Hid (isAt L key k = t) := ht
    clear ht
    go_wp2_with fail
    go_quiet (fail)
    go_wp2_with fail
    refine bodyPost_ret (v := .tuple #[.int .i64 k, .bool t]) (by simp [results, Try.results32, go_sem]) rfl ?_
    exact ⟨k, HP.out, by rw [HT.out], ⟨rfl, rfl, rfl, Nat.le_refl _, fun _ _ => rfl⟩⟩
  · have ht2 : t = false := by rw [← ht]; unfold isAt; rw [List.getElem?_eq_none (by omega)]
    subst ht2
    have HT : Hid (isAt L key k = false) := ht
    clear ht
    go_wp2_with fail
    go_quiet (fail)
    go_wp2_with fail
    refine bodyPost_ret (v := .tuple #[.int .i64 k, .bool false]) (by simp [results, Try.results32, go_sem]) rfl ?_
    exact ⟨k, HP.out, by rw [HT.out], ⟨rfl, rfl, rfl, Nat.le_refl _, fun _ _ => rfl⟩⟩
end Go.Proofs.Ytfobcnmhghfanaa
