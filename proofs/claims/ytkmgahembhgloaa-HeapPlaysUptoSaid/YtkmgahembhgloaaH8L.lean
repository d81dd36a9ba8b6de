/- A record's page and slot are handed to a function. -/
import Derived.Test.YtkmgahembhgloaaH8K
namespace Go.Proofs.Ytkmgahembhgloaa
open Go.RowKit Go.Maps Go.Shelf
set_option linter.unusedVariables false
set_option linter.unusedSimpArgs false

/-- What a function comes to that is handed a record's page and slot. -/
inductive WOut2 (w1 : World) (blk : Nat) (C : Nat → Prop) (Post : World → Option (List (List UInt8)) → Int → World → Prop) (e : Ending) (w2 : World) : Prop
  | none_ (x : Int) (he : e = .returned (.tuple #[.slice none 0 0, .int .i64 x])) (hf : Fr w1 w2 (fun i => C i ∨ i = blk)) (hp : Post w1 none x w2)
  | some_ (rs : List (List UInt8)) (a : Addr) (cap : Nat) (c : List UInt8) (x : Int) (he : e = .returned (.tuple #[.slice (some a) 2048 cap, .int .i64 x])) (hb : Bytes w2 (.slice (some a) 2048 cap) c) (hbl : a.block = blk ∨ w1.heap.size ≤ a.block) (hc : PageOk c rs) (hf : Fr w1 w2 (fun i => C i ∨ i = blk)) (hp : Post w1 (some rs) x w2)
/-- Is there such a record? -/
def thereP (rs : List (List UInt8)) (s : Nat) : Prop := s < rs.length ∧ 0 < (rs.getD s []).length
theorem has_there {c : List UInt8} {rs : List (List UInt8)} (h : PageOk c rs) (s : Nat) : (s < cntP c ∧ 0 < (recP c s).length) ↔ thereP rs s := by
  have e := h.recs
  have e1 : cntP c = rs.length := by rw [← e, recsP_len]
  unfold thereP
  rw [e1]
  constructor
  · rintro ⟨h1, h2⟩
    refine ⟨h1, ?_⟩
    have h3 : s < (recsP c).length := by rw [recsP_len, e1]; exact h1
    rw [← e, List.getD_eq_getElem?_getD, List.getElem?_eq_getElem h3, Option.getD_some, recsP_at]; exact h2
  · rintro ⟨h1, h2⟩
    refine ⟨h1, ?_⟩
    have h3 : s < (recsP c).length := by rw [recsP_len, e1]; exact h1
    rw [← e, List.getD_eq_getElem?_getD, List.getElem?_eq_getElem h3, Option.getD_some, recsP_at] at h2; exact h2
/-- What onRecord's function leaves. -/
inductive RecPost (rs : List (List UInt8)) (s Bt : Nat) (Post : World → Option (List (List UInt8)) → Int → World → Prop) (w1 : World) (o : Option (List (List UInt8))) (w3 : World) : Prop
  | no (hn : ¬ thereP rs s) (ho : o = none) (ht : w3.cell? ⟨Bt, 0, none⟩ = some (.int .i64 82)) (hf : Below w1.heap.size w1 w3)
  | yes (hy : thereP rs s) (x : Int) (w1' w2 : World) (hb : Below w1.heap.size w1 w1') (hp : Post w1' o x w2) (ht : w3.cell? ⟨Bt, 0, none⟩ = some (.int .i64 x)) (hf : Fr w2 w3 (fun i => i = Bt))
set_option maxHeartbeats 1000000 in
theorem onRecord1_any {w : World} {base Bi Bw Bt b0 cap : Nat} {c : List UInt8} {rs : List (List UInt8)} {N k s : Nat} (hO : OwnB base w (.slice (some ⟨b0, 0, none⟩) 2048 cap) c) (hP : PageOk c rs) (hN : N = 256 * k + s) (hs : s < 256) (hk : k < 256)
    (bi : Boxed w Bi 3 (.int .i64 N)) (g : Nat) (caps : Array Value) (eg : Enters Try.prog g) (bw : Boxed w Bw 74 (.func (.func g) #[] caps)) (bt : Boxed w Bt 34 (.int .i64 82)) (hb0 : Bt ≠ b0)
    {C : Nat → Prop} (hC : ∀ i, C i → i ≠ Bt) (Post : World → Option (List (List UInt8)) → Int → World → Prop)
    (hw : thereP rs s → ∀ w1, Below w.heap.size w w1 → Calls Try.prog g (#[.slice (some ⟨b0, 0, none⟩) 2048 cap, .int .i64 s] ++ caps) w1 fun e w2 => WOut2 w1 b0 C Post e w2) :
    Calls Try.prog 61 #[.slice (some ⟨b0, 0, none⟩) 2048 cap, .pointer (some ⟨Bi, 0, none⟩), .pointer (some ⟨Bw, 0, none⟩), .pointer (some ⟨Bt, 0, none⟩)] w fun e w2 => WOut w b0 (fun i => i = Bt ∨ C i) (RecPost rs s Bt Post) e w2 := by
  have hCt := Cont.of_own hO
  have hh := hasRecord_any hCt s hs
  have c1 := bi.cell
  have hmod : (N : Int) % 256 = (s : Int) := by omega
  have hN2 : N < 65536 := by omega
  have hth := has_there hP s
  have hlt := bt.lt
  have hlw := bw.lt
  have t1 := bt.cell
  have t2 := bt.frozen
  have w1 := bw.cell
  unfold Enters at eg
  by_cases hy : thereP rs s
  · rw [decide_eq_true (hth.2 hy)] at hh
    have HW : Hid (∀ w1, Below w.heap.size w w1 → Calls Try.prog g (#[.slice (some ⟨b0, 0, none⟩) 2048 cap, .int .i64 s] ++ caps) w1 fun e w2 => WOut2 w1 b0 C Post e w2) := hw hy
    have HO : Hid (OwnB base w (.slice (some ⟨b0, 0, none⟩) 2048 cap) c) := hO
    clear hN hw hth hO hP bi
    go_enter Try.func61, Try.ntmps61
    go_wp2_with (first
      | (go_at_call 62; refine hh.mono ?_; clear hh; rintro e wh ⟨rfl, hbh⟩
         have w1h := (hbh.cell (p := ⟨Bw, 0, none⟩) hlw).trans w1))
    refine (HW.out _ hbh).mono ?_
    rintro e w2 hO2
    have hsh := hbh.size
    have bth : Boxed wh Bt 34 (.int .i64 82) := (hbh.block Bt hlt).trans bt
    have hnb : ∀ {w2 : World}, Fr wh w2 (fun i => C i ∨ i = b0) → Boxed w2 Bt 34 (.int .i64 82) := fun hf => (hf.block Bt (by omega) (fun h => h.elim (fun h => hC _ h rfl) hb0)).trans bth
    clear HW
    cases hO2 with
    | none_ x he hf hp =>
      subst he
      have b2 := hnb hf
      have v1 := b2.cell
      have v2 := b2.frozen
      have b3 := b2.set (.int .i64 x)
      have v3 := b3.cell
      have hfr : Fr w (w2.setCell ⟨Bt, 0, none⟩ (.int .i64 x)) (fun i => (i = Bt ∨ C i) ∨ i = b0) := ((Fr.of_below hbh).trans hf (fun i hi => Or.inl (hi.imp Or.inr id))).trans (fr_set w2 Bt 0 _) (fun i hi => Or.inl (Or.inl (Or.inl hi)))
      go_wp2
      go_ret
      exact .none_ rfl hfr (.yes hy x wh w2 hbh hp v3 (fr_set w2 Bt 0 _))
    | some_ rs' a cp c' x he hb hbl hc hf hp =>
      subst he
      have b2 := hnb hf
      have v1 := b2.cell
      have v2 := b2.frozen
      have b3 := b2.set (.int .i64 x)
      have v3 := b3.cell
      have hfr : Fr w (w2.setCell ⟨Bt, 0, none⟩ (.int .i64 x)) (fun i => (i = Bt ∨ C i) ∨ i = b0) := ((Fr.of_below hbh).trans hf (fun i hi => Or.inl (hi.imp Or.inr id))).trans (fr_set w2 Bt 0 _) (fun i hi => Or.inl (Or.inl (Or.inl hi)))
      have hbt : Bytes (w2.setCell ⟨Bt, 0, none⟩ (.int .i64 x)) (.slice (some a) 2048 cp) c' := hb.fr8 (fun a' n' c'' e h => by cases e; rcases hbl with h' | h' <;> omega) (fr_set w2 Bt 0 _)
      go_wp2
      go_ret
      exact .some_ rs' a cp c' rfl hbt hc hfr (.yes hy x wh w2 hbh hp v3 (fr_set w2 Bt 0 _))
  · rw [decide_eq_false (fun h => hy (hth.1 h))] at hh
    clear hN hw hth hO hP bi
    go_enter Try.func61, Try.ntmps61
    go_wp2_with (first
      | (go_at_call 62; refine hh.mono ?_; clear hh; rintro e wh ⟨rfl, hbh⟩
         have t3 := (hbh.cell (p := ⟨Bt, 0, none⟩) hlt).trans t1))
    go_ret
    exact .none_ rfl (Fr.of_below hbh) (.no hy rfl t3 hbh)
end Go.Proofs.Ytkmgahembhgloaa
