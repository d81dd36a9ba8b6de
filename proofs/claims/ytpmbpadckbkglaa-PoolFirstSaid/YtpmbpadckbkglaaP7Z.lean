/- Where the playing of PoolFirst stands. -/
import Derived.Test.YtpmbpadckbkglaaP7Y
import Derived.Laws.IdiomStrings
import Derived.Lib.Strings
namespace Go.Proofs.Ytpmbpadckbkglaa
open Go.RowKit Go.Maps
set_option linter.unusedVariables false
set_option linter.unusedSimpArgs false

theorem conv_str {w : World} {tv : Value} {xs : List UInt8} (h : Bytes w tv xs) : (convert 49 9 tv).run Try.prog w = .ok (.string ⟨xs.toArray⟩) w := by
  rcases h with ⟨rfl, rfl⟩ | ⟨a, cap, rfl, hc, hb⟩
  · rw [run_convert_bytes_string w _ _ _ none 0 0 Try.underlying49 Try.underlying5 Try.underlying9]; rfl
  · exact run_convert_bytes_back w 49 9 5 a cap xs Try.underlying49 Try.underlying5 Try.underlying9 hb
set_option maxRecDepth 20000 in
theorem same_any (v1 v2 : Value) (xs ys : List UInt8) (w : World) (h1 : Bytes w v1 xs) (h2 : Bytes w v2 ys) :
    Calls Try.prog 17 #[v1, v2] w fun e w' => e = .returned (.bool (decide (xs = ys))) ∧ w' = w := by
  have c1 := conv_str h1
  have c2 := conv_str h2
  have l1 : (⟨xs.toArray⟩ : ByteArray).toList = xs := by rw [Lib.toList_data]
  have l2 : (⟨ys.toArray⟩ : ByteArray).toList = ys := by rw [Lib.toList_data]
  clear h1 h2
  generalize (⟨xs.toArray⟩ : ByteArray) = a at *
  generalize (⟨ys.toArray⟩ : ByteArray) = b at *
  go_enter Try.func17, Try.ntmps17
  go_wp2
  go_ret
  refine ⟨?_, rfl⟩
  show Ending.returned (.bool _) = _
  congr 2
  by_cases h : xs = ys <;> simp [h]
structure FSt (w wr : World) (A L U : Nat) (nF : Int) (p dp : Value) (F G : Nat → Prop) (lb : Nat → Nat) (pv : Nat → Value) (pl : Nat → List OpP) (Z : Nat → Prop) (P : PS) (D : DS) (k : Nat) : Prop where
  hs : HS w wr A nF p dp F G (pinsOf P) P D k
  ls : LS7 w wr L U lb (cur P D) pv pl Z
  dz : ∀ i, Z i → ¬ (F i ∨ G i)
  az : ¬ Z A
  inv : Inv P D pl
  pll : ∀ j, j < 6 → (pl j).length ≤ k
theorem FSt.keepB {w wr w' : World} {A L U : Nat} {nF : Int} {p dp : Value} {F G : Nat → Prop} {lb : Nat → Nat} {pv : Nat → Value} {pl : Nat → List OpP} {Z : Nat → Prop} {P : PS} {D : DS} {k : Nat} (h : FSt w wr A L U nF p dp F G lb pv pl Z P D k) (hb : Below wr.heap.size wr w') : FSt w w' A L U nF p dp F G lb pv pl Z P D k :=
  { h with hs := h.hs.keepB hb, ls := h.ls.keepB hb }
theorem FSt.mono {w wr : World} {A L U : Nat} {nF : Int} {p dp : Value} {F G : Nat → Prop} {lb : Nat → Nat} {pv : Nat → Value} {pl : Nat → List OpP} {Z : Nat → Prop} {P : PS} {D : DS} {k m : Nat} (h : FSt w wr A L U nF p dp F G lb pv pl Z P D k) (hm : k ≤ m) : FSt w wr A L U nF p dp F G lb pv pl Z P D m :=
  { h with hs := h.hs.mono hm, pll := fun j hj => Nat.le_trans (h.pll j hj) hm }
theorem FSt.moved {w wr w' : World} {A L U : Nat} {nF : Int} {p dp : Value} {F G F' G' : Nat → Prop} {lb : Nat → Nat} {pv : Nat → Value} {pl : Nat → List OpP} {Z : Nat → Prop} {P P' : PS} {D D' : DS} {k k' : Nat} (h : FSt w wr A L U nF p dp F G lb pv pl Z P D k) (hs' : HS w w' A nF p dp F' G' (pinsOf P') P' D' k') (hf : Fr wr w' (fun i => (F i ∨ G i) ∨ i = A)) (hF : ∀ i, F' i ∨ G' i → (F i ∨ G i) ∨ wr.heap.size ≤ i) (hi : Inv P' D' pl) (hc : ∀ j, cur P' D' j = cur P D j) (hk : k ≤ k') : FSt w w' A L U nF p dp F' G' lb pv pl Z P' D' k' := by
  refine ⟨hs', (h.ls.keep hf (fun i hz hx => ?_)).congr (fun j _ => (hc j).symm), fun i hz hx => ?_, h.az, hi, fun j hj => Nat.le_trans (h.pll j hj) hk⟩
  · rcases hx with hx | hx
    · exact h.dz i hz hx
    · exact h.az (hx ▸ hz)
  · rcases hF i hx with h1 | h1
    · exact h.dz i hz h1
    · have := (h.ls.lo i hz).2; omega
theorem HS.pto2 {w wr w' : World} {A : Nat} {nF : Int} {p dp : Value} {F G : Nat → Prop} {pf : Nat → Int} {P P' : PS} {D D' : DS} {k : Nat} (h : HS w wr A nF p dp F G pf P D k) (ht : PTo w.heap.size wr F G p dp 0 P' D' w') (h0 : P'.first = P.first) (h1 : P'.pages = P.pages) (h2 : P'.size = P.size) (h3 : P'.uses ≤ P.uses + 1) (h4 : D'.ws.length ≤ D.ws.length + 96) :
    ∃ F' G', HS w w' A nF p dp F' G' pf P' D' (k + 1) ∧ Fr wr w' (fun i => F i ∨ G i) ∧ ∀ i, F' i ∨ G' i → (F i ∨ G i) ∨ wr.heap.size ≤ i := by
  obtain ⟨F', G', hp, hf, hF, hG⟩ := ht
  have hA := h.row.lt
  refine ⟨F', G', ⟨hp, fun hx => ?_, h0.trans h.first, h1.trans h.pages, h2.trans h.size, by have := h.uses; omega, by have := h.ws; omega, h.row.of_block (hf.block A hA h.na), h.lo, h.below.trans (hf.below h.below.size (fun i hi => (h.pd.lo i hi).1))⟩, hf, fun i hi => ?_⟩
  · rcases hx with hx | hx
    · rcases hF A hx with h1 | h1
      · exact h.na (Or.inl h1)
      · omega
    · rcases hG A hx with h1 | h1
      · exact h.na (Or.inr h1)
      · omega
  · rcases hi with hi | hi
    · rcases hF i hi with h1 | h1
      · exact Or.inl (Or.inl h1)
      · exact Or.inr h1
    · rcases hG i hi with h1 | h1
      · exact Or.inl (Or.inr h1)
      · exact Or.inr h1
/-- Pin went through: behind the law's own count. -/
theorem FSt.pin {w wr w' : World} {A L U : Nat} {nF : Int} {p dp : Value} {F G F' G' : Nat → Prop} {lb : Nat → Nat} {pv : Nat → Value} {pl : Nat → List OpP} {Z : Nat → Prop} {P P' : PS} {D D' : DS} {k j : Nat} {bs : List UInt8} (h : FSt w wr A L U nF p dp F G lb pv pl Z P D k) (ht : PinTo P D j P' D' bs) (hk : PinOk P D P' D' bs) (hp : PD w.heap.size w' F' G' p dp 0 P' D') (hf : Fr wr w' (fun i => F i ∨ G i)) (hF : ∀ i, F' i → F i ∨ wr.heap.size ≤ i) (hG : ∀ i, G' i → G i ∨ wr.heap.size ≤ i) :
    FSt w (w'.setCell ⟨A, j, none⟩ (.int .i64 (pinsOf P j + 1))) A L U nF p dp F' G' lb pv pl Z P' D' (k + 1) := by
  obtain ⟨h1, h2, h3⟩ := h.inv.pin h.hs.pd.ok ht
  refine h.moved (((h.hs.pin hk hp hf hF hG).set j (pinsOf P j + 1)).congr (fun i hi => by rw [pinsOf_pin ht i])) ((hf.mono (fun i hi => Or.inl hi)).trans (fr_set _ _ _ _) (fun i hi => Or.inl (Or.inr hi))) (fun i hi => ?_) h1 h2 (by omega)
  rcases hi with hi | hi
  · rcases hF i hi with h1 | h1
    · exact Or.inl (Or.inl h1)
    · exact Or.inr h1
  · rcases hG i hi with h1 | h1
    · exact Or.inl (Or.inr h1)
    · exact Or.inr h1
/-- Unpin went through: behind the law's own count. -/
theorem FSt.unpin {w wr w' : World} {A L U : Nat} {nF : Int} {p dp : Value} {F G : Nat → Prop} {lb : Nat → Nat} {pv : Nat → Value} {pl : Nat → List OpP} {Z : Nat → Prop} {P : PS} {D : DS} {k j : Nat} (h : FSt w wr A L U nF p dp F G lb pv pl Z P D k) (hm : (j : Int) ∈ P.keys) (ht : PTo w.heap.size wr F G p dp 0 (P.touch j { P.fr j with pins := (P.fr j).pins - 1 }) D w') :
    ∃ F' G' P', FSt w (w'.setCell ⟨A, j, none⟩ (.int .i64 (pinsOf P j - 1))) A L U nF p dp F' G' lb pv pl Z P' D (k + 1) ∧ HS w w' A nF p dp F' G' (pinsOf P) P' D (k + 1) ∧ Fr wr w' (fun i => F i ∨ G i) ∧ P'.safe = P.safe := by
  obtain ⟨F', G', h1, hf, hF⟩ := h.hs.pto2 ht rfl rfl rfl (Int.le_refl _) (by omega)
  obtain ⟨h2, h3⟩ := h.inv.touch hm (f := { P.fr j with pins := (P.fr j).pins - 1 }) rfl rfl rfl
  refine ⟨F', G', _, h.moved ((h1.set j (pinsOf P j - 1)).congr (fun i hi => ?_)) ((hf.mono (fun i hi => Or.inl hi)).trans (fr_set _ _ _ _) (fun i hi => Or.inl (Or.inr hi))) hF h2 h3 (by omega), h1, hf, rfl⟩
  rw [pinsOf_touch P hm]
  by_cases e : i = j
  · rw [if_pos e, if_pos e]; unfold pinsOf; rw [if_pos hm]
  · rw [if_neg e, if_neg e]
theorem FSt.safe {w wr w' : World} {A L U : Nat} {nF : Int} {p dp : Value} {F G : Nat → Prop} {lb : Nat → Nat} {pv : Nat → Value} {pl : Nat → List OpP} {Z : Nat → Prop} {P : PS} {D : DS} {k : Nat} {m : Int} (h : FSt w wr A L U nF p dp F G lb pv pl Z P D k) (ht : PTo w.heap.size wr F G p dp 0 { P with safe := mx P.safe m } D w') :
    ∃ F' G', FSt w w' A L U nF p dp F' G' lb pv pl Z { P with safe := mx P.safe m } D (k + 1) ∧ Fr wr w' (fun i => F i ∨ G i) := by
  obtain ⟨F', G', h1, hf, hF⟩ := h.hs.pto2 ht rfl rfl rfl (by show P.uses ≤ _; omega) (by omega)
  exact ⟨F', G', h.moved (h1.congr (fun _ _ => rfl)) (hf.mono (fun i hi => Or.inl hi)) hF (h.inv.safe m) (fun _ => rfl) (by omega), hf⟩
theorem pinsOf_cleanL (P : PS) (l : List Int) (j : Nat) : pinsOf (P.cleanL l) j = pinsOf P j := by
  unfold pinsOf PS.cleanL
  simp only []
  split
  · split <;> rfl
  · rfl
theorem FSt.flush {w wr w' : World} {A L U : Nat} {nF : Int} {p dp : Value} {F G : Nat → Prop} {lb : Nat → Nat} {pv : Nat → Value} {pl : Nat → List OpP} {Z : Nat → Prop} {P : PS} {D : DS} {k : Nat} (h : FSt w wr A L U nF p dp F G lb pv pl Z P D k) (hb : ∀ x ∈ P.keys, beh P.safe (P.fr x) = false) (ht : PTo w.heap.size wr F G p dp 0 (P.cleanL P.keys) (D.cleanL P P.keys) w') :
    ∃ F' G', FSt w w' A L U nF p dp F' G' lb pv pl Z (P.cleanL P.keys) (D.cleanL P P.keys) (k + 1) ∧ Fr wr w' (fun i => F i ∨ G i) := by
  have hk6 : P.keys.length ≤ 6 := rise_len h.hs.pd.ok.rise (fun x hx => by have := h.hs.pd.ok.rng x hx; rw [h.hs.pages] at this; exact this)
  have hws := cleanL_ws D P P.keys
  obtain ⟨F', G', h1, hf, hF⟩ := h.hs.pto2 ht rfl rfl rfl (by show P.uses ≤ _; omega) (by omega)
  obtain ⟨h2, h3⟩ := h.inv.flush h.hs.pd.ok hb
  exact ⟨F', G', h.moved (h1.congr (fun j _ => (pinsOf_cleanL P P.keys j).symm)) (hf.mono (fun i hi => Or.inl hi)) hF h2 h3 (by omega), hf⟩
/-- Put went through, ahead of the law's own notes: all but what was put last and all that was put. -/
structure FPut (w wr : World) (A L U : Nat) (nF : Int) (p dp : Value) (F G : Nat → Prop) (lb : Nat → Nat) (lc : Nat → List UInt8) (pv : Nat → Value) (pl pl' : Nat → List OpP) (Z : Nat → Prop) (P : PS) (D : DS) (k : Nat) : Prop where
  hs : HS w wr A nF p dp F G (pinsOf P) P D k
  ls : LS7 w wr L U lb lc pv pl Z
  dz : ∀ i, Z i → ¬ (F i ∨ G i)
  az : ¬ Z A
  inv : Inv P D pl'
theorem FSt.put {w wr w' : World} {A L U : Nat} {nF : Int} {p dp : Value} {F G : Nat → Prop} {lb : Nat → Nat} {pv : Nat → Value} {pl : Nat → List OpP} {Z : Nat → Prop} {P : PS} {D : DS} {k j : Nat} (h : FSt w wr A L U nF p dp F G lb pv pl Z P D k) (hm : (j : Int) ∈ P.keys) (o : OpP) (ht : PTo w.heap.size wr F G p dp 0 (P.touch j { P.fr j with bytes := bodyL j o.by_ 2048, dirty := true, mark := mx (P.fr j).mark o.mark }) D w') :
    ∃ F' G' P', FPut w w' A L U nF p dp F' G' lb (cur P D) pv pl (updN pl j (pl j ++ [o])) Z P' D (k + 1) ∧ (∀ i, cur P' D i = updN (cur P D) j (bodyL j o.by_ 2048) i) ∧ (∀ i, pinsOf P' i = pinsOf P i) ∧ Fr wr w' (fun i => F i ∨ G i) ∧ P'.safe = P.safe := by
  obtain ⟨F', G', h1, hf, hF⟩ := h.hs.pto2 ht rfl rfl rfl (Int.le_refl _) (by omega)
  obtain ⟨h2, h3⟩ := h.inv.put hm o
  have hpp : ∀ i, pinsOf (P.touch j { P.fr j with bytes := bodyL j o.by_ 2048, dirty := true, mark := mx (P.fr j).mark o.mark }) i = pinsOf P i := fun i => by
    rw [pinsOf_touch P hm]
    by_cases e : i = j
    · rw [if_pos e, e]; unfold pinsOf; rw [if_pos hm]
    · rw [if_neg e]
  refine ⟨F', G', _, ⟨h1.congr (fun i hi => (hpp i).symm), h.ls.keep hf (fun i hz hx => h.dz i hz hx), fun i hz hx => ?_, h.az, h2⟩, h3, hpp, hf, rfl⟩
  rcases hF i hx with h4 | h4
  · exact h.dz i hz h4
  · have := (h.ls.lo i hz).2; omega
end Go.Proofs.Ytpmbpadckbkglaa
