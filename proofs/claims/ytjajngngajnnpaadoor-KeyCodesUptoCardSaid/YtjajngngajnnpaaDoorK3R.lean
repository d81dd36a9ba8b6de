/- The walk of the law's rows: right values of raw ones, forty at most. -/
import Derived.Test.YtjajngngajnnpaaDoorK3O
namespace Go.Proofs.YtjajngngajnnpaaDoor
open Go.RowKit
set_option linter.unusedVariables false

/-- Raw values that lie in a row, somewhere. -/
def RawsAt (w : World) (v : Value) (rs : List V4) : Prop :=
  ∃ (ao : Option Addr) (cap : Nat), v = .slice ao rs.length cap ∧ rs.length ≤ cap ∧ (rs = [] ∨ ∃ g o, ao = some ⟨g, o, none⟩ ∧ ∀ k (h : k < rs.length), w.rangeAt g (o + k * 4) (cellsV rs[k]))
theorem RawsAt.keep {W w' : World} {v : Value} {l : List V4} (h : RawsAt W v l) (hb : Below W.heap.size W w') : RawsAt w' v l := by
  obtain ⟨ao, cap, hv, hc, h⟩ := h
  refine ⟨ao, cap, hv, hc, ?_⟩
  rcases h with h | ⟨g, o, hg, h⟩
  · exact Or.inl h
  · exact Or.inr ⟨g, o, hg, fun k hk => rangeAt_keep hb (h k hk)⟩
/-- Numbers of 64 bits, and a text that is not too long. -/
def RawOk (M : Nat) (x : V4) : Prop := (-9223372036854775808 ≤ x.1 ∧ x.1 ≤ 9223372036854775807) ∧ (-9223372036854775808 ≤ x.2.1 ∧ x.2.1 ≤ 9223372036854775807) ∧ x.2.2.1.length ≤ M
theorem str_back (S : ByteArray) : (⟨S.data.toList.toArray⟩ : ByteArray) = S := by cases S; simp
theorem row_new (w : World) (K N : Int) (S : ByteArray) (B : Bool) : ∀ k (h : k < [((K, N, S.data.toList, B) : V4)].length), (w.alloc (.cells #[.int .i64 K, .int .i64 N, .string S, .bool B] 39)).rangeAt w.heap.size (k * 4) (cellsV [((K, N, S.data.toList, B) : V4)][k]) := by
  have h := row_one w (K, N, S.data.toList, B)
  simp only [str_back] at h
  exact h
theorem right_of {K N n : Int} {S : ByteArray} {B : Bool} (h : RightV K N S B) (hN : N = 0 ∨ N = n) (hn : -9223372036854775808 ≤ n ∧ n ≤ 9223372036854775807) : RightQ (K, N, S.data.toList, B) := by
  rcases h with ⟨h1, h2, h3, h4⟩ | ⟨h1, h3, h4⟩ | ⟨h1, h2, h4⟩ | ⟨h1, h2, h3⟩
  · exact Or.inl ⟨h1, h2, by rw [h3], h4⟩
  · exact Or.inr (Or.inl ⟨h1, by simp only; rcases hN with e | e <;> omega, by rw [h3], h4⟩)
  · exact Or.inr (Or.inr (Or.inl ⟨h1, h2, h4⟩))
  · exact Or.inr (Or.inr (Or.inr ⟨h1, h2, by rw [h3]⟩))
/-- Right values, forty at most, with texts that are not too long. -/
structure RowOk (M : Nat) (l : List V4) : Prop where
  rights : Rights l
  texts : ∀ x ∈ l, x.2.2.1.length ≤ M
  len : l.length ≤ 40
theorem grown_of {w w' : World} (h : Below w.heap.size w w') (r : Option Nat) : w.grownBy w' r := ⟨h.os, h.tape, h.output, h.size, fun k hk _ => h.block k hk⟩
theorem OwnR.keepB {base : Nat} {w w' : World} {v : Value} {l : List V4} (h : OwnR base w v l) (hb : Below w.heap.size w w') : OwnR base w' v l :=
  World.ownsRow.kept h (grown_of hb none) (by cases hv : v.ownBlock <;> simp)
theorem GrowB.belowR {base : Nat} {w w' : World} {v v' : Value} {l : List V4} (h : GrowB w v w' v') (hown : OwnR base w v l) (hb : base ≤ w.heap.size) : Below base w w' :=
  (Below.refl _ _).grown h.grown hb hown.ge
theorem RowOk.snoc {M : Nat} {l : List V4} {x : V4} (h : RowOk M l) (hx : RightQ x) (ht : x.2.2.1.length ≤ M) (hl : l.length < 40) : RowOk M (l ++ [x]) := by
  refine ⟨rights_app.2 ⟨h.rights, fun v hv => by rw [List.mem_singleton.1 hv]; exact hx⟩, fun v hv => ?_, by rw [List.length_append]; simp; omega⟩
  rcases List.mem_append.1 hv with hv | hv
  · exact h.texts v hv
  · rw [List.mem_singleton.1 hv]; exact ht
theorem infoRaw : (Tryd.prog.info? 41).map (·.size) = some 4 := by kernel_rfl

set_option maxHeartbeats 1000000 in
theorem row_any (M : Nat) (v : Value) (rs : List V4) (w : World) (hv : RawsAt w v rs) (hok : ∀ x ∈ rs, RawOk M x) (hl : rs.length ≤ 1099511627776) :
    Calls Tryd.prog 8 #[v] w fun e w' => ∃ (rv : Value) (l : List V4), e = .returned rv ∧ OwnR w.heap.size w' rv l ∧ RowOk M l ∧ Below w.heap.size w w' := by
  obtain ⟨ao, cap, rfl, hcap, hcl⟩ := hv
  go_enter Tryd.func8, Tryd.ntmps8
  go_wp2
  go_loopw [3, 4] (fun u i wr => ∃ (k : Nat) (l : List V4), k ≤ rs.length ∧ k ≤ 40 ∧ i = .int .i64 k ∧ OwnR w.heap.size wr u l ∧ l.length ≤ k ∧ Hid (RowOk M l) ∧ Below w.heap.size w wr) (fun _ i _ => rs.length - (intOf i).toNat)
  case atStart => exact ⟨0, [], Nat.zero_le _, Nat.zero_le _, rfl, World.ownsRow_nil _ _ _ _, Nat.zero_le _, ⟨(fun v hv => by cases hv), (fun v hv => by cases hv), Nat.zero_le _⟩, Below.refl _ _⟩
  case round =>
    obtain ⟨k, l, hk, hk40, rfl, hown, hlk, HL, hnx⟩ := hrel
    by_cases h1 : k < rs.length
    · by_cases h2 : k < 40
      · rcases hcl with h0 | ⟨g, o, rfl, hcl⟩
        · rw [h0] at h1; simp at h1
        have r1 := rangeAt_keep hnx (hcl k h1)
        have ho := hok _ (List.getElem_mem h1)
        generalize rs[k] = x at *
        clear hcl hok
        obtain ⟨K0, N0, S0, B0⟩ := x
        obtain ⟨S, rfl⟩ : ∃ S : ByteArray, S.data.toList = S0 := ⟨⟨S0.toArray⟩, rfl⟩
        have r2 : wr.rangeAt g (o + k * 4) [.int .i64 K0, .int .i64 N0, .string S, .bool B0] := by
          have : cellsV (K0, N0, S.data.toList, B0) = [.int .i64 K0, .int .i64 N0, .string S, .bool B0] := by simp only [cellsV, str_back]
          rw [← this]; exact r1
        have HB : Hid (RawOk M (K0, N0, S.data.toList, B0)) := ho
        have hbs := hnx.size
        clear r1 ho
        go_wp2_with (first
          | (refine wpList_load_mid rfl _ _ rfl g (o + k * 4) (by rfl) [.int .i64 K0, .int .i64 N0, .string S, .bool B0] _ r2 Tryd.underlying41 rfl infoRaw ?_))
        refine (rawValue_any K0 N0 S B0 _ HB.out.1).mono ?_
        rintro e w1 ⟨⟨K, N, T, B, rfl, hR, hN, hT⟩, hb⟩
        have hown1 := hown.keepB hb
        have hn1 : Below w.heap.size w w1 := keepA hnx hb
        have hT2 : T.data.toList.length ≤ M := by
          rcases hT with h | h
          · rw [h]; simp
          · rw [h]; exact HB.out.2.2
        have HQ : Hid (RowOk M (l ++ [(K, N, T.data.toList, B)])) := HL.out.snoc (right_of hR hN HB.out.2.1) hT2 (by omega)
        have hbs1 := hn1.size
        clear hb hnx hown HL HB hR hN hT hT2 r2 hbs
        go_wp2_with (at_builtin; refine wp_appR _ rfl _ _ rfl w.heap.size _ l rfl (hown1.alloc _) w1.heap.size 1 1 [(K, N, T.data.toList, B)] rfl (row_new w1 K N T B) rfl (by decide) (by omega) (by simp; omega) ?_)
        intro v' w2 hown2 hgrow
        have hn2 := (hn1.alloc hbs1 _).trans (hgrow.belowR (hown1.alloc _) (by simp; omega))
        clear hgrow hown1 hn1
        go_wp2
        go_roundw
        case rel => exact ⟨k + 1, l ++ [(K, N, T.data.toList, B)], by omega, by omega, by go_num, hown2, by simp; omega, HQ, hn2⟩
        case measure => simp [intOf]; omega
      · go_wp2
        go_ret
        exact ⟨_, l, rfl, hown, HL, hnx⟩
    · go_wp2
      go_ret
      exact ⟨_, l, rfl, hown, HL, hnx⟩
end Go.Proofs.YtjajngngajnnpaaDoor
