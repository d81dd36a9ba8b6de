/- An entry comes: add. -/
import Derived.Test.YtfobcnmhghfanaaB9L
import Derived.Test.YtfobcnmhghfanaaB9P
import Derived.Test.YtfobcnmhghfanaaB9U
namespace Go.Proofs.Ytfobcnmhghfanaa
open Go.RowKit Go.Shelf
set_option linter.unusedVariables false
set_option linter.unusedSimpArgs false

/-- What add leaves. -/
inductive AdOut (base : Nat) (w : World) (ro : Ro) (nd : Nat → Nd) (r H : Nat) (lv : Nat → List Br) (x : E) (e : Ending) (w' : World) : Prop
  | mk (ro' : Ro) (nd' : Nat → Nd) (H' : Nat) (lv' : Nat → List Br) (dep' : Nat → Nat) (he : e = .returned (.tuple #[])) (ts : TS base w' ro' nd' r H' lv' dep') (mt : MTo base w ro nd w' ro' nd') (en : ents nd' (lv' H') = addL (ents nd (lv H)) x) (h2 : 0 < H' → 2 ≤ (nd' r).bs.length)
/-- An entry comes into a leaf that has room. -/
theorem add_end {base : Nat} {w w1 : World} {ro : Ro} {nd : Nat → Nd} {r H : Nat} {lv : Nat → List Br} {dep : Nat → Nat} (ts : TS base w ro nd r H lv dep) {x : E} {A B : List Br} {p : Br} (pa : Path lv x.key H A p B) (h8 : (nd p.2).sz < 8) (hno : getL (ents nd (lv H)) x.key = none) {i : Nat} (hb : Bnd (nd p.2).es x.key true i) {v' : Value} (ho : OwnE base w1 v' ((nd p.2).es.take i ++ x :: (nd p.2).es.drop i)) (hg : GrowB w (nd p.2).ve w1 v') :
    ∃ ro' nd', TS base (w1.setCell ⟨p.2, 0, none⟩ v') ro' nd' r H lv dep ∧ MTo base w ro nd (w1.setCell ⟨p.2, 0, none⟩ v') ro' nd' ∧ ents nd' (lv H) = addL (ents nd (lv H)) x ∧ (nd' r).bs = (nd r).bs := by
  have hpm : p ∈ lv H := by rw [pa.at_]; simp
  have hro := ts.inn H (Nat.le_refl _) p hpm
  have mt := ts.mem.putE hro ho hg
  obtain ⟨hS, hE⟩ := ts.sh.addE (nd' := updN nd p.2 (putE (nd p.2) ((nd p.2).es.take i ++ x :: (nd p.2).es.drop i) v')) pa hb hno (by rw [updN_same]; rfl) (fun b h => updN_other _ _ h) (by rw [updN_same]; rfl)
  have hsz : (updN nd p.2 (putE (nd p.2) ((nd p.2).es.take i ++ x :: (nd p.2).es.drop i) v') p.2).sz = (nd p.2).sz + 1 := by
    rw [updN_same]
    unfold Nd.sz putE
    simp only [List.length_append, List.length_cons, List.length_take, List.length_drop]
    have := hb.le
    omega
  refine ⟨_, _, ⟨⟨mt.mem, hS, fun j hj q hq => mt.node _ (ts.inn j hj q hq)⟩, ⟨fun j h0 hj q hq => ?_, ?_⟩⟩, mt, hE, ?_⟩
  · by_cases e : q.2 = p.2
    · rw [e, hsz]
      have hjH : j = H := by have h1 := ts.sh.dp j hj q hq; have h2 := ts.sh.dp H (Nat.le_refl _) p hpm; rw [e] at h1; omega
      have := ts.sz H (by omega) (Nat.le_refl _) p hpm
      omega
    · rw [updN_other _ _ e]; exact ts.sz j h0 hj q hq
  · by_cases e : r = p.2
    · rw [e, hsz]; omega
    · rw [updN_other _ _ e]; exact ts.top
  · by_cases e : r = p.2
    · rw [e, updN_same]; rfl
    · rw [updN_other _ _ e]
theorem build_es (w : World) (a : ByteArray) (n : Int) (g : Bool) : (Instr.buildSlice 49 1 #[(0, .agg #[.string a, .int .i64 n, .bool g])]).run Try.prog w = .ok (.slice (some ⟨w.heap.size, 0, none⟩) 1 1) (w.alloc (.cells #[.string a, .int .i64 n, .bool g] 66)) := by kernel_rfl
/-- add behind going down: what its last statement does. -/
structure AddT (base : Nat) (w0 : World) (bx : Nat) (x : E) (w : World) (pb : Nat) (Q : Ending → World → Prop) : Prop where
  cells : ∃ ao n cap, w.cell? ⟨pb, 0, none⟩ = some (.slice ao n cap) ∧ w.frozen? ⟨pb, 0, none⟩ = false ∧
    (∀ W, Below w.heap.size w W → Calls Try.prog 40 #[pt pb, .string x.key, .bool true] W fun e w' => ∃ i : Nat, e = .returned (.int .i64 i) ∧ Below W.heap.size W w' ∧
      ∀ W2 vb, Below w.heap.size w W2 → W2.heap[vb]? = some (.cells #[.string x.key, .int .i64 x.num, .bool x.ghost] 66 (0, 0)) → w.heap.size ≤ vb → Calls Try.prog 39 #[.slice ao n cap, .int .i64 i, .slice (some ⟨vb, 0, none⟩) 1 1] W2 fun e w' => ∃ g c, e = .returned (.slice (some ⟨g, 0, none⟩) (n + 1) c) ∧ w'.cell? ⟨pb, 0, none⟩ = some (.slice ao n cap) ∧ w'.frozen? ⟨pb, 0, none⟩ = false ∧ Q (.returned (.tuple #[])) (w'.setCell ⟨pb, 0, none⟩ (.slice (some ⟨g, 0, none⟩) (n + 1) c)))
  box : w.heap[bx]? = some (.cells #[.string x.key, .int .i64 x.num, .bool x.ghost] 66 (0, 0))
theorem addT {base : Nat} {w0 w : World} {ro0 ro : Ro} {nd0 nd : Nat → Nd} {r H0 H : Nat} {lv0 lv : Nat → List Br} {dep : Nat → Nat} (ts : TS base w ro nd r H lv dep) (mt : MTo base w0 ro0 nd0 w ro nd) (en : ents nd (lv H) = ents nd0 (lv0 H0)) {x : E} {A B : List Br} {p : Br} (pa : Path lv x.key H A p B) (h8 : (nd p.2).sz < 8) (hno : getL (ents nd0 (lv0 H0)) x.key = none) (h2 : 0 < H → 2 ≤ (nd r).bs.length) {bx : Nat} (hbx : w.heap[bx]? = some (.cells #[.string x.key, .int .i64 x.num, .bool x.ghost] 66 (0, 0))) (hb : base ≤ w.heap.size) :
    AddT base w0 bx x w p.2 (fun e w' => AdOut base w0 ro0 nd0 r H0 lv0 x e w') := by
  have hpm : p ∈ lv H := by rw [pa.at_]; simp
  have hro := ts.inn H (Nat.le_refl _) p hpm
  obtain ⟨ao, cap, hv, _, _⟩ := (ts.mem.rowE p.2 hro).form
  have hN := ts.mem.at_ hro
  have hle := es_le (nd p.2)
  refine ⟨⟨ao, (nd p.2).es.length, cap, by rw [← hv]; exact hN.c0, hN.fz 0, fun W hW => ?_⟩, hbx⟩
  have tsW := ts.below hW
  refine (entryFrom_any (tsW.mem.at_ hro) (tsW.mem.rowE p.2 hro) (by omega) (line_leaf ts.sh pa.at_) x.key true).mono ?_
  rintro e w' ⟨i, he, hbn, hb'⟩
  refine ⟨i, he, hb', fun W2 vb hW2 hvb hvl => ?_⟩
  have tsW2 := ts.below hW2
  have hrow := tsW2.mem.rowE p.2 hro
  rw [hv] at hrow
  have hlt := ts.mem.rowE p.2 hro |>.lo
  rw [hv] at hlt
  refine (insAnyE hrow i hbn.le x hvb (fun k hk => by have := (hlt k hk).2; omega) (by omega) (Nat.le_trans hb hW2.size)).mono ?_
  rintro e w3 ⟨g, c, he, ho, hg⟩
  have hne : (Value.slice ao (nd p.2).es.length cap).ownBlock ≠ some p.2 := by rw [← hv]; exact ts.mem.ne1 hro
  have hN2 := tsW2.mem.at_ hro
  obtain ⟨ro', nd', ts', mt', hE', hbs'⟩ := add_end tsW2 pa h8 (by rw [en]; exact hno) hbn ho (by rw [hv]; exact hg)
  refine ⟨g, c, he, ?_, ?_, .mk ro' nd' H lv dep rfl ts' (mt.trans ((MTo.of_below ts.mem hW2).trans mt')) (by rw [hE', en]) (fun h0 => by rw [hbs']; exact h2 h0)⟩
  · rw [← hv]; exact hg.grown.cell (a := ⟨p.2, 0, none⟩) hN2.c0 (fun e => hne e.symm)
  · exact (hg.grown.frozen_far ⟨p.2, 0, none⟩ (tsW2.mem.lt hro) (fun e => hne e.symm)).trans (hN2.fz 0)
end Go.Proofs.Ytfobcnmhghfanaa
