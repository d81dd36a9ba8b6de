/- Which words are reserved: the program's. -/
import Derived.Test.YtifnmclidabkfaaDoorL13A
namespace Go.Proofs.YtifnmclidabkfaaDoor
open Go.RowKit
set_option linter.unusedVariables false
set_option linter.unusedSimpArgs false

/-- A frame of Reserved: the word lies where it is looked at. -/
structure RF (word : ByteArray) (a : Act) : Prop where
  d : a.defers = []
  z : a.tmps.size = 107
  t : a.tmps.getD 3 undef = .string word
theorem getD_set_same (ts : Array Value) (d : Nat) (v : Value) (h : d < ts.size) : (ts.setIfInBounds d v).getD d undef = v := by
  simp [Array.getD, h]
theorem getD_set_other (ts : Array Value) (d k : Nat) (v : Value) (h : d ≠ k) : (ts.setIfInBounds d v).getD k undef = ts.getD k undef := by
  by_cases hk : k < ts.size
  · simp [Array.getD, hk, Array.getElem_setIfInBounds, h]
  · simp [Array.getD, hk]
theorem RF.put {word : ByteArray} {a : Act} (h : RF word a) (d : Nat) (v : Value) (hd : d ≠ 3) : RF word (a.put (some d) v) := by
  refine ⟨h.d, ?_, ?_⟩
  · simp [Act.put, h.z]
  · show (a.tmps.setIfInBounds d v).getD 3 undef = _
    rw [getD_set_other _ _ _ _ hd]
    exact h.t
theorem RF.get {word : ByteArray} {a : Act} (h : RF word a) (d : Nat) (v : Value) (hd : d < 107) : (a.put (some d) v).eval (.tmp d) = v := by
  show (a.tmps.setIfInBounds d v).getD d undef = v
  exact getD_set_same _ _ _ (by rw [h.z]; exact hd)
/-- One word is looked for. -/
theorem res_region {P : Program} {id d : Nat} {lit word : ByteArray} {p1 p2 : String} {Q : Exit → Act → World → Prop} {a : Act} {w : World} (hd3 : d ≠ 3) (hd : d < 107) (hF : RF word a)
    (h : ∀ a', RF word a' → a'.eval (.tmp 4) = .bool (word.data.toList == lit.data.toList) → Q .normal a' w) :
    (Code.region id #[{ dst := some d, op := .binOp .eql 9 (.tmp 3) (.const (.string lit)) 9, type := 4, pos := p1, after := #[], guard := none }, { dst := some 4, op := .assign (.tmp d), type := 4, pos := p2, after := #[{ on := 0, ground := Ground.data }], guard := none }] false).wp P Q a w := by
  refine wp_region_lit (l := [{ dst := some d, op := .binOp .eql 9 (.tmp 3) (.const (.string lit)) 9, type := 4, pos := p1, after := #[], guard := none }, { dst := some 4, op := .assign (.tmp d), type := 4, pos := p2, after := #[{ on := 0, ground := Ground.data }], guard := none }]) ?_
  have h3 : a.eval (.tmp 3) = .string word := hF.t
  have e : (word.data.toList == lit.data.toList) = (word.toList == lit.toList) := by rw [Lib.toList_data, Lib.toList_data]
  rw [e] at h
  refine wpList_plain rfl (fun K hK => ?_)
  unfold Oper.wp
  have h4 := hF.get d (.bool (word.toList == lit.toList)) hd
  have hF2 := hF.put d (.bool (word.toList == lit.toList)) hd3
  simp only [execOp, h3]
  simp [go_sem, Result.andThen]
  refine hK _ _ ?_
  refine wpList_plain rfl (fun K2 hK2 => ?_)
  unfold Oper.wp
  have hz : d < a.tmps.size := by rw [hF.z]; exact hd
  simp only [execOp, h4]
  simp [go_sem, Result.andThen, hz]
  refine hK2 _ _ (wpList_nil (h _ (hF2.put 4 _ (by decide)) (hF2.get 4 _ (by decide))))
theorem res_link {P : Program} {id d : Nat} {lit word : ByteArray} {p1 p2 : String} {C : Code} {Q : Exit → Act → World → Prop} {a : Act} {w : World} (hd3 : d ≠ 3) (hd : d < 107) (hF : RF word a)
    (hy : (word.data.toList == lit.data.toList) = true → ∀ a', RF word a' → a'.eval (.tmp 4) = .bool true → Q .normal a' w) (hn : (word.data.toList == lit.data.toList) = false → ∀ a', RF word a' → C.wp P Q a' w) :
    ((Code.region id #[{ dst := some d, op := .binOp .eql 9 (.tmp 3) (.const (.string lit)) 9, type := 4, pos := p1, after := #[], guard := none }, { dst := some 4, op := .assign (.tmp d), type := 4, pos := p2, after := #[{ on := 0, ground := Ground.data }], guard := none }] false).seq (Code.cond (.tmp 4) Code.skip C)).wp P Q a w := by
  refine wp_seq (res_region hd3 hd hF ?_)
  intro a' hF' h4
  cases hb : word.data.toList == lit.data.toList with
  | true =>
    rw [hb] at h4
    exact wp_cond_true h4 (wp_skip (hy hb a' hF' h4))
  | false =>
    rw [hb] at h4
    exact wp_cond_false h4 (hn hb a' hF')
theorem res_end {P : Program} {word : ByteArray} {R : Bool} {x y : Code} {Q : Exit → Act → World → Prop} {a : Act} {w : World} (hx : ∀ Q2 : Exit → Act → World → Prop, (∀ a', RF word a' → a'.eval (.tmp 4) = .bool R → Q2 .normal a' w) → x.wp P Q2 a w) (hend : ∀ a', RF word a' → a'.eval (.tmp 4) = .bool R → y.wp P Q a' w) : (x.seq y).wp P Q a w := wp_seq (hx _ hend)
def resL : List (List UInt8) := [[97, 108, 108], [97, 110, 100], [97, 110, 121], [97, 115], [97, 115, 99], [98, 101, 116, 119, 101, 101, 110], [98, 121], [99, 97, 115, 101], [99, 97, 115, 116], [99, 104, 101, 99, 107], [99, 108, 111, 115, 101], [99, 111, 97, 108, 101, 115, 99, 101], [99, 111, 109, 109, 105, 116], [99, 114, 101, 97, 116, 101], [99, 114, 111, 115, 115], [99, 117, 114, 114, 101, 110, 116], [99, 117, 114, 115, 111, 114], [100, 101, 99, 108, 97, 114, 101], [100, 101, 108, 101, 116, 101], [100, 101, 115, 99], [100, 105, 115, 116, 105, 110, 99, 116], [100, 114, 111, 112], [101, 108, 115, 101], [101, 110, 100], [101, 120, 99, 101, 112, 116], [101, 120, 105, 115, 116, 115], [102, 97, 108, 115, 101], [102, 101, 116, 99, 104], [102, 105, 114, 115, 116], [102, 111, 114], [102, 111, 114, 101, 105, 103, 110], [102, 114, 111, 109], [102, 117, 108, 108], [103, 114, 111, 117, 112], [104, 97, 118, 105, 110, 103], [105, 110], [105, 110, 100, 101, 120], [105, 110, 110, 101, 114], [105, 110, 115, 101, 114, 116], [105, 110, 116, 101, 114, 115, 101, 99, 116], [105, 110, 116, 111], [105, 115], [105, 115, 111, 108, 97, 116, 105, 111, 110], [106, 111, 105, 110], [107, 101, 121], [108, 97, 115, 116], [108, 101, 102, 116], [108, 101, 118, 101, 108], [108, 105, 107, 101], [110, 101, 120, 116], [110, 111, 116], [110, 117, 108, 108], [110, 117, 108, 108, 105, 102], [111, 102], [111, 110], [111, 110, 108, 121], [111, 112, 101, 110], [111, 114], [111, 114, 100, 101, 114], [111, 117, 116, 101, 114], [112, 114, 105, 109, 97, 114, 121], [112, 114, 105, 111, 114], [114, 101, 97, 100], [114, 101, 102, 101, 114, 101, 110, 99, 101, 115], [114, 101, 108, 97, 116, 105, 118, 101], [114, 101, 108, 101, 97, 115, 101], [114, 105, 103, 104, 116], [114, 111, 108, 108, 98, 97, 99, 107], [115, 97, 118, 101, 112, 111, 105, 110, 116], [115, 99, 114, 111, 108, 108], [115, 101, 108, 101, 99, 116], [115, 101, 116], [115, 111, 109, 101], [116, 97, 98, 108, 101], [116, 104, 101, 110], [116, 111], [116, 114, 97, 110, 115, 97, 99, 116, 105, 111, 110], [116, 114, 117, 101], [117, 110, 105, 111, 110], [117, 110, 105, 113, 117, 101], [117, 110, 107, 110, 111, 119, 110], [117, 112, 100, 97, 116, 101], [118, 97, 108, 117, 101, 115], [119, 104, 101, 110], [119, 104, 101, 114, 101], [97, 98, 115, 111, 108, 117, 116, 101], [99, 111, 117, 110, 116], [115, 117, 109], [109, 105, 110], [109, 97, 120], [98, 105, 103, 105, 110, 116], [98, 111, 111, 108, 101, 97, 110], [99, 104, 97, 114], [99, 104, 97, 114, 97, 99, 116, 101, 114], [105, 110, 116], [105, 110, 116, 101, 103, 101, 114], [115, 109, 97, 108, 108, 105, 110, 116], [118, 97, 114, 99, 104, 97, 114], [117, 110, 99, 111, 109, 109, 105, 116, 116, 101, 100], [99, 111, 109, 109, 105, 116, 116, 101, 100], [114, 101, 112, 101, 97, 116, 97, 98, 108, 101], [115, 101, 114, 105, 97, 108, 105, 122, 97, 98, 108, 101]]
set_option maxHeartbeats 4000000 in
set_option maxRecDepth 100000 in
theorem reserved_any (word : ByteArray) (w : World) : Calls Tryd.prog 12 #[.string word] w fun e w' => e = .returned (.bool (resL.contains word.data.toList)) ∧ w' = w := by
  obtain ⟨R, hR⟩ : ∃ R, R = resL.contains word.data.toList := ⟨_, rfl⟩
  rw [← hR]
  have HY : Hid (∀ l, resL.contains l = true → (word.data.toList == l) = true → R = true) := fun l hl he => by rw [hR, eq_of_beq he]; exact hl
  go_enter Tryd.func12, Tryd.ntmps12
  go_upto_block 0 with fail
  rename_i Q0 K0 hK0
  refine wp_block (res_end (R := R) (word := word) ?_ ?_)
  · intro Q2 HQ
    refine res_link (by decide) (by decide) ⟨rfl, rfl, rfl⟩ (fun hy a' hA h4 => HQ a' hA (by rw [h4, HY.out _ (by decide) hy])) (fun n1 a1 g1 => ?_)
    refine res_link (by decide) (by decide) g1 (fun hy a' hA h4 => HQ a' hA (by rw [h4, HY.out _ (by decide) hy])) (fun n2 a2 g2 => ?_)
    refine res_link (by decide) (by decide) g2 (fun hy a' hA h4 => HQ a' hA (by rw [h4, HY.out _ (by decide) hy])) (fun n3 a3 g3 => ?_)
    refine res_link (by decide) (by decide) g3 (fun hy a' hA h4 => HQ a' hA (by rw [h4, HY.out _ (by decide) hy])) (fun n4 a4 g4 => ?_)
    refine res_link (by decide) (by decide) g4 (fun hy a' hA h4 => HQ a' hA (by rw [h4, HY.out _ (by decide) hy])) (fun n5 a5 g5 => ?_)
    refine res_link (by decide) (by decide) g5 (fun hy a' hA h4 => HQ a' hA (by rw [h4, HY.out _ (by decide) hy])) (fun n6 a6 g6 => ?_)
    refine res_link (by decide) (by decide) g6 (fun hy a' hA h4 => HQ a' hA (by rw [h4, HY.out _ (by decide) hy])) (fun n7 a7 g7 => ?_)
    refine res_link (by decide) (by decide) g7 (fun hy a' hA h4 => HQ a' hA (by rw [h4, HY.out _ (by decide) hy])) (fun n8 a8 g8 => ?_)
    refine res_link (by decide) (by decide) g8 (fun hy a' hA h4 => HQ a' hA (by rw [h4, HY.out _ (by decide) hy])) (fun n9 a9 g9 => ?_)
    refine res_link (by decide) (by decide) g9 (fun hy a' hA h4 => HQ a' hA (by rw [h4, HY.out _ (by decide) hy])) (fun n10 a10 g10 => ?_)
    refine res_link (by decide) (by decide) g10 (fun hy a' hA h4 => HQ a' hA (by rw [h4, HY.out _ (by decide) hy])) (fun n11 a11 g11 => ?_)
    refine res_link (by decide) (by decide) g11 (fun hy a' hA h4 => HQ a' hA (by rw [h4, HY.out _ (by decide) hy])) (fun n12 a12 g12 => ?_)
    refine res_link (by decide) (by decide) g12 (fun hy a' hA h4 => HQ a' hA (by rw [h4, HY.out _ (by decide) hy])) (fun n13 a13 g13 => ?_)
    refine res_link (by decide) (by decide) g13 (fun hy a' hA h4 => HQ a' hA (by rw [h4, HY.out _ (by decide) hy])) (fun n14 a14 g14 => ?_)
    refine res_link (by decide) (by decide) g14 (fun hy a' hA h4 => HQ a' hA (by rw [h4, HY.out _ (by decide) hy])) (fun n15 a15 g15 => ?_)
    refine res_link (by decide) (by decide) g15 (fun hy a' hA h4 => HQ a' hA (by rw [h4, HY.out _ (by decide) hy])) (fun n16 a16 g16 => ?_)
    refine res_link (by decide) (by decide) g16 (fun hy a' hA h4 => HQ a' hA (by rw [h4, HY.out _ (by decide) hy])) (fun n17 a17 g17 => ?_)
    refine res_link (by decide) (by decide) g17 (fun hy a' hA h4 => HQ a' hA (by rw [h4, HY.out _ (by decide) hy])) (fun n18 a18 g18 => ?_)
    refine res_link (by decide) (by decide) g18 (fun hy a' hA h4 => HQ a' hA (by rw [h4, HY.out _ (by decide) hy])) (fun n19 a19 g19 => ?_)
    refine res_link (by decide) (by decide) g19 (fun hy a' hA h4 => HQ a' hA (by rw [h4, HY.out _ (by decide) hy])) (fun n20 a20 g20 => ?_)
    refine res_link (by decide) (by decide) g20 (fun hy a' hA h4 => HQ a' hA (by rw [h4, HY.out _ (by decide) hy])) (fun n21 a21 g21 => ?_)
    refine res_link (by decide) (by decide) g21 (fun hy a' hA h4 => HQ a' hA (by rw [h4, HY.out _ (by decide) hy])) (fun n22 a22 g22 => ?_)
    refine res_link (by decide) (by decide) g22 (fun hy a' hA h4 => HQ a' hA (by rw [h4, HY.out _ (by decide) hy])) (fun n23 a23 g23 => ?_)
    refine res_link (by decide) (by decide) g23 (fun hy a' hA h4 => HQ a' hA (by rw [h4, HY.out _ (by decide) hy])) (fun n24 a24 g24 => ?_)
    refine res_link (by decide) (by decide) g24 (fun hy a' hA h4 => HQ a' hA (by rw [h4, HY.out _ (by decide) hy])) (fun n25 a25 g25 => ?_)
    refine res_link (by decide) (by decide) g25 (fun hy a' hA h4 => HQ a' hA (by rw [h4, HY.out _ (by decide) hy])) (fun n26 a26 g26 => ?_)
    refine res_link (by decide) (by decide) g26 (fun hy a' hA h4 => HQ a' hA (by rw [h4, HY.out _ (by decide) hy])) (fun n27 a27 g27 => ?_)
    refine res_link (by decide) (by decide) g27 (fun hy a' hA h4 => HQ a' hA (by rw [h4, HY.out _ (by decide) hy])) (fun n28 a28 g28 => ?_)
    refine res_link (by decide) (by decide) g28 (fun hy a' hA h4 => HQ a' hA (by rw [h4, HY.out _ (by decide) hy])) (fun n29 a29 g29 => ?_)
    refine res_link (by decide) (by decide) g29 (fun hy a' hA h4 => HQ a' hA (by rw [h4, HY.out _ (by decide) hy])) (fun n30 a30 g30 => ?_)
    refine res_link (by decide) (by decide) g30 (fun hy a' hA h4 => HQ a' hA (by rw [h4, HY.out _ (by decide) hy])) (fun n31 a31 g31 => ?_)
    refine res_link (by decide) (by decide) g31 (fun hy a' hA h4 => HQ a' hA (by rw [h4, HY.out _ (by decide) hy])) (fun n32 a32 g32 => ?_)
    refine res_link (by decide) (by decide) g32 (fun hy a' hA h4 => HQ a' hA (by rw [h4, HY.out _ (by decide) hy])) (fun n33 a33 g33 => ?_)
    refine res_link (by decide) (by decide) g33 (fun hy a' hA h4 => HQ a' hA (by rw [h4, HY.out _ (by decide) hy])) (fun n34 a34 g34 => ?_)
    refine res_link (by decide) (by decide) g34 (fun hy a' hA h4 => HQ a' hA (by rw [h4, HY.out _ (by decide) hy])) (fun n35 a35 g35 => ?_)
    refine res_link (by decide) (by decide) g35 (fun hy a' hA h4 => HQ a' hA (by rw [h4, HY.out _ (by decide) hy])) (fun n36 a36 g36 => ?_)
    refine res_link (by decide) (by decide) g36 (fun hy a' hA h4 => HQ a' hA (by rw [h4, HY.out _ (by decide) hy])) (fun n37 a37 g37 => ?_)
    refine res_link (by decide) (by decide) g37 (fun hy a' hA h4 => HQ a' hA (by rw [h4, HY.out _ (by decide) hy])) (fun n38 a38 g38 => ?_)
    refine res_link (by decide) (by decide) g38 (fun hy a' hA h4 => HQ a' hA (by rw [h4, HY.out _ (by decide) hy])) (fun n39 a39 g39 => ?_)
    refine res_link (by decide) (by decide) g39 (fun hy a' hA h4 => HQ a' hA (by rw [h4, HY.out _ (by decide) hy])) (fun n40 a40 g40 => ?_)
    refine res_link (by decide) (by decide) g40 (fun hy a' hA h4 => HQ a' hA (by rw [h4, HY.out _ (by decide) hy])) (fun n41 a41 g41 => ?_)
    refine res_link (by decide) (by decide) g41 (fun hy a' hA h4 => HQ a' hA (by rw [h4, HY.out _ (by decide) hy])) (fun n42 a42 g42 => ?_)
    refine res_link (by decide) (by decide) g42 (fun hy a' hA h4 => HQ a' hA (by rw [h4, HY.out _ (by decide) hy])) (fun n43 a43 g43 => ?_)
    refine res_link (by decide) (by decide) g43 (fun hy a' hA h4 => HQ a' hA (by rw [h4, HY.out _ (by decide) hy])) (fun n44 a44 g44 => ?_)
    refine res_link (by decide) (by decide) g44 (fun hy a' hA h4 => HQ a' hA (by rw [h4, HY.out _ (by decide) hy])) (fun n45 a45 g45 => ?_)
    refine res_link (by decide) (by decide) g45 (fun hy a' hA h4 => HQ a' hA (by rw [h4, HY.out _ (by decide) hy])) (fun n46 a46 g46 => ?_)
    refine res_link (by decide) (by decide) g46 (fun hy a' hA h4 => HQ a' hA (by rw [h4, HY.out _ (by decide) hy])) (fun n47 a47 g47 => ?_)
    refine res_link (by decide) (by decide) g47 (fun hy a' hA h4 => HQ a' hA (by rw [h4, HY.out _ (by decide) hy])) (fun n48 a48 g48 => ?_)
    refine res_link (by decide) (by decide) g48 (fun hy a' hA h4 => HQ a' hA (by rw [h4, HY.out _ (by decide) hy])) (fun n49 a49 g49 => ?_)
    refine res_link (by decide) (by decide) g49 (fun hy a' hA h4 => HQ a' hA (by rw [h4, HY.out _ (by decide) hy])) (fun n50 a50 g50 => ?_)
    refine res_link (by decide) (by decide) g50 (fun hy a' hA h4 => HQ a' hA (by rw [h4, HY.out _ (by decide) hy])) (fun n51 a51 g51 => ?_)
    refine res_link (by decide) (by decide) g51 (fun hy a' hA h4 => HQ a' hA (by rw [h4, HY.out _ (by decide) hy])) (fun n52 a52 g52 => ?_)
    refine res_link (by decide) (by decide) g52 (fun hy a' hA h4 => HQ a' hA (by rw [h4, HY.out _ (by decide) hy])) (fun n53 a53 g53 => ?_)
    refine res_link (by decide) (by decide) g53 (fun hy a' hA h4 => HQ a' hA (by rw [h4, HY.out _ (by decide) hy])) (fun n54 a54 g54 => ?_)
    refine res_link (by decide) (by decide) g54 (fun hy a' hA h4 => HQ a' hA (by rw [h4, HY.out _ (by decide) hy])) (fun n55 a55 g55 => ?_)
    refine res_link (by decide) (by decide) g55 (fun hy a' hA h4 => HQ a' hA (by rw [h4, HY.out _ (by decide) hy])) (fun n56 a56 g56 => ?_)
    refine res_link (by decide) (by decide) g56 (fun hy a' hA h4 => HQ a' hA (by rw [h4, HY.out _ (by decide) hy])) (fun n57 a57 g57 => ?_)
    refine res_link (by decide) (by decide) g57 (fun hy a' hA h4 => HQ a' hA (by rw [h4, HY.out _ (by decide) hy])) (fun n58 a58 g58 => ?_)
    refine res_link (by decide) (by decide) g58 (fun hy a' hA h4 => HQ a' hA (by rw [h4, HY.out _ (by decide) hy])) (fun n59 a59 g59 => ?_)
    refine res_link (by decide) (by decide) g59 (fun hy a' hA h4 => HQ a' hA (by rw [h4, HY.out _ (by decide) hy])) (fun n60 a60 g60 => ?_)
    refine res_link (by decide) (by decide) g60 (fun hy a' hA h4 => HQ a' hA (by rw [h4, HY.out _ (by decide) hy])) (fun n61 a61 g61 => ?_)
    refine res_link (by decide) (by decide) g61 (fun hy a' hA h4 => HQ a' hA (by rw [h4, HY.out _ (by decide) hy])) (fun n62 a62 g62 => ?_)
    refine res_link (by decide) (by decide) g62 (fun hy a' hA h4 => HQ a' hA (by rw [h4, HY.out _ (by decide) hy])) (fun n63 a63 g63 => ?_)
    refine res_link (by decide) (by decide) g63 (fun hy a' hA h4 => HQ a' hA (by rw [h4, HY.out _ (by decide) hy])) (fun n64 a64 g64 => ?_)
    refine res_link (by decide) (by decide) g64 (fun hy a' hA h4 => HQ a' hA (by rw [h4, HY.out _ (by decide) hy])) (fun n65 a65 g65 => ?_)
    refine res_link (by decide) (by decide) g65 (fun hy a' hA h4 => HQ a' hA (by rw [h4, HY.out _ (by decide) hy])) (fun n66 a66 g66 => ?_)
    refine res_link (by decide) (by decide) g66 (fun hy a' hA h4 => HQ a' hA (by rw [h4, HY.out _ (by decide) hy])) (fun n67 a67 g67 => ?_)
    refine res_link (by decide) (by decide) g67 (fun hy a' hA h4 => HQ a' hA (by rw [h4, HY.out _ (by decide) hy])) (fun n68 a68 g68 => ?_)
    refine res_link (by decide) (by decide) g68 (fun hy a' hA h4 => HQ a' hA (by rw [h4, HY.out _ (by decide) hy])) (fun n69 a69 g69 => ?_)
    refine res_link (by decide) (by decide) g69 (fun hy a' hA h4 => HQ a' hA (by rw [h4, HY.out _ (by decide) hy])) (fun n70 a70 g70 => ?_)
    refine res_link (by decide) (by decide) g70 (fun hy a' hA h4 => HQ a' hA (by rw [h4, HY.out _ (by decide) hy])) (fun n71 a71 g71 => ?_)
    refine res_link (by decide) (by decide) g71 (fun hy a' hA h4 => HQ a' hA (by rw [h4, HY.out _ (by decide) hy])) (fun n72 a72 g72 => ?_)
    refine res_link (by decide) (by decide) g72 (fun hy a' hA h4 => HQ a' hA (by rw [h4, HY.out _ (by decide) hy])) (fun n73 a73 g73 => ?_)
    refine res_link (by decide) (by decide) g73 (fun hy a' hA h4 => HQ a' hA (by rw [h4, HY.out _ (by decide) hy])) (fun n74 a74 g74 => ?_)
    refine res_link (by decide) (by decide) g74 (fun hy a' hA h4 => HQ a' hA (by rw [h4, HY.out _ (by decide) hy])) (fun n75 a75 g75 => ?_)
    refine res_link (by decide) (by decide) g75 (fun hy a' hA h4 => HQ a' hA (by rw [h4, HY.out _ (by decide) hy])) (fun n76 a76 g76 => ?_)
    refine res_link (by decide) (by decide) g76 (fun hy a' hA h4 => HQ a' hA (by rw [h4, HY.out _ (by decide) hy])) (fun n77 a77 g77 => ?_)
    refine res_link (by decide) (by decide) g77 (fun hy a' hA h4 => HQ a' hA (by rw [h4, HY.out _ (by decide) hy])) (fun n78 a78 g78 => ?_)
    refine res_link (by decide) (by decide) g78 (fun hy a' hA h4 => HQ a' hA (by rw [h4, HY.out _ (by decide) hy])) (fun n79 a79 g79 => ?_)
    refine res_link (by decide) (by decide) g79 (fun hy a' hA h4 => HQ a' hA (by rw [h4, HY.out _ (by decide) hy])) (fun n80 a80 g80 => ?_)
    refine res_link (by decide) (by decide) g80 (fun hy a' hA h4 => HQ a' hA (by rw [h4, HY.out _ (by decide) hy])) (fun n81 a81 g81 => ?_)
    refine res_link (by decide) (by decide) g81 (fun hy a' hA h4 => HQ a' hA (by rw [h4, HY.out _ (by decide) hy])) (fun n82 a82 g82 => ?_)
    refine res_link (by decide) (by decide) g82 (fun hy a' hA h4 => HQ a' hA (by rw [h4, HY.out _ (by decide) hy])) (fun n83 a83 g83 => ?_)
    refine res_link (by decide) (by decide) g83 (fun hy a' hA h4 => HQ a' hA (by rw [h4, HY.out _ (by decide) hy])) (fun n84 a84 g84 => ?_)
    refine res_link (by decide) (by decide) g84 (fun hy a' hA h4 => HQ a' hA (by rw [h4, HY.out _ (by decide) hy])) (fun n85 a85 g85 => ?_)
    refine res_link (by decide) (by decide) g85 (fun hy a' hA h4 => HQ a' hA (by rw [h4, HY.out _ (by decide) hy])) (fun n86 a86 g86 => ?_)
    refine res_link (by decide) (by decide) g86 (fun hy a' hA h4 => HQ a' hA (by rw [h4, HY.out _ (by decide) hy])) (fun n87 a87 g87 => ?_)
    refine res_link (by decide) (by decide) g87 (fun hy a' hA h4 => HQ a' hA (by rw [h4, HY.out _ (by decide) hy])) (fun n88 a88 g88 => ?_)
    refine res_link (by decide) (by decide) g88 (fun hy a' hA h4 => HQ a' hA (by rw [h4, HY.out _ (by decide) hy])) (fun n89 a89 g89 => ?_)
    refine res_link (by decide) (by decide) g89 (fun hy a' hA h4 => HQ a' hA (by rw [h4, HY.out _ (by decide) hy])) (fun n90 a90 g90 => ?_)
    refine res_link (by decide) (by decide) g90 (fun hy a' hA h4 => HQ a' hA (by rw [h4, HY.out _ (by decide) hy])) (fun n91 a91 g91 => ?_)
    refine res_link (by decide) (by decide) g91 (fun hy a' hA h4 => HQ a' hA (by rw [h4, HY.out _ (by decide) hy])) (fun n92 a92 g92 => ?_)
    refine res_link (by decide) (by decide) g92 (fun hy a' hA h4 => HQ a' hA (by rw [h4, HY.out _ (by decide) hy])) (fun n93 a93 g93 => ?_)
    refine res_link (by decide) (by decide) g93 (fun hy a' hA h4 => HQ a' hA (by rw [h4, HY.out _ (by decide) hy])) (fun n94 a94 g94 => ?_)
    refine res_link (by decide) (by decide) g94 (fun hy a' hA h4 => HQ a' hA (by rw [h4, HY.out _ (by decide) hy])) (fun n95 a95 g95 => ?_)
    refine res_link (by decide) (by decide) g95 (fun hy a' hA h4 => HQ a' hA (by rw [h4, HY.out _ (by decide) hy])) (fun n96 a96 g96 => ?_)
    refine res_link (by decide) (by decide) g96 (fun hy a' hA h4 => HQ a' hA (by rw [h4, HY.out _ (by decide) hy])) (fun n97 a97 g97 => ?_)
    refine res_link (by decide) (by decide) g97 (fun hy a' hA h4 => HQ a' hA (by rw [h4, HY.out _ (by decide) hy])) (fun n98 a98 g98 => ?_)
    refine res_link (by decide) (by decide) g98 (fun hy a' hA h4 => HQ a' hA (by rw [h4, HY.out _ (by decide) hy])) (fun n99 a99 g99 => ?_)
    refine res_link (by decide) (by decide) g99 (fun hy a' hA h4 => HQ a' hA (by rw [h4, HY.out _ (by decide) hy])) (fun n100 a100 g100 => ?_)
    refine res_link (by decide) (by decide) g100 (fun hy a' hA h4 => HQ a' hA (by rw [h4, HY.out _ (by decide) hy])) (fun n101 a101 g101 => ?_)
    refine res_region (by decide) (by decide) g101 ?_
    intro a' hA h4
    refine HQ a' hA ?_
    rw [h4, hR]
    simp only [resL, List.contains, List.elem, n1, n2, n3, n4, n5, n6, n7, n8, n9, n10, n11, n12, n13, n14, n15, n16, n17, n18, n19, n20, n21, n22, n23, n24, n25, n26, n27, n28, n29, n30, n31, n32, n33, n34, n35, n36, n37, n38, n39, n40, n41, n42, n43, n44, n45, n46, n47, n48, n49, n50, n51, n52, n53, n54, n55, n56, n57, n58, n59, n60, n61, n62, n63, n64, n65, n66, n67, n68, n69, n70, n71, n72, n73, n74, n75, n76, n77, n78, n79, n80, n81, n82, n83, n84, n85, n86, n87, n88, n89, n90, n91, n92, n93, n94, n95, n96, n97, n98, n99, n100, n101]
    cases hb : word.data.toList == _ <;> rfl
  · intro a' hA h4
    cases R with
    | true =>
      refine wp_cond_true h4 (wp_seq (wp_region_lit (l := [_]) (wpList_plain rfl (fun K hK => ?_))))
      have g2 := hA.get 2 (.bool true) (by decide)
      have gd := (hA.put 2 (.bool true) (by decide)).d
      unfold Oper.wp
      simp [execOp, go_sem, Result.andThen]
      refine hK _ _ (wpList_nil (wp_ret ?_))
      show bodyPost Tryd.prog Tryd.f12 (fun e w' => e = .returned (.bool true) ∧ w' = w) .ret _ _
      exact bodyPost_ret (v := .bool true) (by rw [results_tmp (t := 2) rfl]; exact congrArg (Result.ok · w) g2) gd ⟨rfl, rfl⟩
    | false =>
      refine wp_cond_false h4 (wp_skip ?_)
      refine hK0 a' w (wp_seq (wp_region_lit (l := [_]) (wpList_plain rfl (fun K hK => ?_))))
      have g2 := hA.get 2 (.bool false) (by decide)
      have gd := (hA.put 2 (.bool false) (by decide)).d
      unfold Oper.wp
      simp [execOp, go_sem, Result.andThen]
      refine hK _ _ (wpList_nil (wp_ret ?_))
      show bodyPost Tryd.prog Tryd.f12 (fun e w' => e = .returned (.bool false) ∧ w' = w) .ret _ _
      exact bodyPost_ret (v := .bool false) (by rw [results_tmp (t := 2) rfl]; exact congrArg (Result.ok · w) g2) gd ⟨rfl, rfl⟩
end Go.Proofs.YtifnmclidabkfaaDoor
