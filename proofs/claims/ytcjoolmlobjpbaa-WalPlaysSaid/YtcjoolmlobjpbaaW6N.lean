/- Lists of records that a call makes; Records; a region's bytes. -/
import Derived.Test.YtcjoolmlobjpbaaW6M
namespace Go.Proofs.Ytcjoolmlobjpbaa
open Go.RowKit Go.Maps
set_option linter.unusedVariables false
set_option linter.unusedSimpArgs false

theorem infoS : (Try.prog.info? 36).map (fun i => (i.zero, i.size, i.bytes)) = some (some (.slice none 0 0), 1, 24) := by kernel_rfl
def OwnV (base : Nat) (w : World) (v : Value) (vs : List Value) : Prop := w.ownsRow base 36 1 v vs.length vs
/-- A list of records that the call made. -/
structure OwnRecs (base : Nat) (w : World) (v : Value) (H : Nat → Prop) (vs : List Value) (recs : List (List UInt8)) : Prop where
  own : OwnV base w v vs
  len : vs.length = recs.length
  hv : ∀ k, v.ownBlock = some k → H k
  el : ∀ k (h1 : k < recs.length) (h2 : k < vs.length), Bytes w vs[k] recs[k] ∧ ∀ a n c, vs[k] = .slice (some a) n c → H a.block ∧ v.ownBlock ≠ some a.block
  lo : ∀ k, H k → k < w.heap.size
theorem OwnRecs.nil (base : Nat) (w : World) (H : Nat → Prop) (hl : ∀ k, H k → k < w.heap.size) : OwnRecs base w (.slice none 0 0) H [] [] :=
  ⟨World.ownsRow_nil _ _ _ _, rfl, (fun k hk => by cases hk), (fun k h1 => by simp at h1), hl⟩
theorem OwnRecs.recs {base : Nat} {w : World} {v : Value} {H : Nat → Prop} {vs : List Value} {recs : List (List UInt8)} (h : OwnRecs base w v H vs recs) : RecsIn w H v recs := by
  rcases id h.own with ⟨h1, ⟨hv, hn⟩ | ⟨g, cap, cur, hv, hg, hh, hc, _⟩⟩
  · have : recs = [] := List.eq_nil_of_length_eq_zero (by rw [← h.len]; exact hn)
    exact ⟨none, 0, by rw [hv, this]; rfl, by rw [this]; simp, Or.inl this⟩
  · refine ⟨some ⟨g, 0, none⟩, cap, by rw [hv, h.len], by rw [← h.len]; exact hc, Or.inr ⟨g, 0, rfl, h.hv g (by rw [hv]; rfl), fun k hk => ?_⟩⟩
    have hk' : k < vs.length := by rw [h.len]; exact hk
    refine ⟨vs[k], ?_, (h.el k hk hk').1, fun a n c e _ => ((h.el k hk hk').2 a n c e).1⟩
    have := World.ownsRow.cells h.own (g := g) (by rw [hv]; rfl) k vs[k] (by simp [hk'])
    rwa [Addr.add_mid] at this
theorem OwnRecs.keep {base : Nat} {w w' : World} {v : Value} {H S : Nat → Prop} {vs : List Value} {recs : List (List UInt8)} (h : OwnRecs base w v H vs recs) (hf : Fr w w' S) (hd : ∀ k, H k → ¬ S k) : OwnRecs base w' v H vs recs :=
  ⟨own_of_block h.own (fun b hb => hf.block b (h.lo b (h.hv b hb)) (hd b (h.hv b hb))), h.len, h.hv, fun k h1 h2 => ⟨(h.el k h1 h2).1.fr (fun a n c e => hd _ ((h.el k h1 h2).2 a n c e).1) hf, (h.el k h1 h2).2⟩, fun k hk => Nat.lt_of_lt_of_le (h.lo k hk) hf.size⟩
theorem OwnRecs.keepB {base : Nat} {w w' : World} {v : Value} {H : Nat → Prop} {vs : List Value} {recs : List (List UInt8)} (h : OwnRecs base w v H vs recs) (hb : Below w.heap.size w w') : OwnRecs base w' v H vs recs :=
  h.keep (Fr.of_below (F := fun _ => False) hb) (fun _ _ => id)
theorem OwnRecs.mono {base : Nat} {w : World} {v : Value} {H H' : Nat → Prop} {vs : List Value} {recs : List (List UInt8)} (h : OwnRecs base w v H vs recs) (hh : ∀ k, H k → H' k) (hl : ∀ k, H' k → k < w.heap.size) : OwnRecs base w v H' vs recs :=
  ⟨h.own, h.len, fun k hk => hh k (h.hv k hk), fun k h1 h2 => ⟨(h.el k h1 h2).1, fun a n c e => ⟨hh _ ((h.el k h1 h2).2 a n c e).1, ((h.el k h1 h2).2 a n c e).2⟩⟩, hl⟩
/-- One record more. -/
theorem OwnRecs.snoc {base : Nat} {w w' : World} {v v' u : Value} {H U : Nat → Prop} {vs : List Value} {recs : List (List UInt8)} {r : List UInt8} (h : OwnRecs base w v H vs recs) (ho : OwnV base w' v' (vs ++ [u])) (hg : GrowB w v w' v') (hB : Bytes w u r) (hu : ∀ a n c, u = .slice (some a) n c → U a.block ∧ a.block < w.heap.size ∧ v.ownBlock ≠ some a.block) (hU : ∀ k, U k → k < w.heap.size) :
    OwnRecs base w' v' (fun k => H k ∨ U k ∨ (w.heap.size ≤ k ∧ k < w'.heap.size)) (vs ++ [u]) (recs ++ [r]) := by
  have hs := hg.grown.size
  have hkeep : ∀ x xs, Bytes w x xs → (∀ a n c, x = .slice (some a) n c → v.ownBlock ≠ some a.block) → Bytes w' x xs := fun x xs hx ha => hx.grow (fun a n c e => ha a n c e) hg
  have hv'1 : ∀ a : Addr, a.block < w.heap.size → v.ownBlock ≠ some a.block → v'.ownBlock ≠ some a.block := fun a hlt hne e => by
    rcases hg.own with e1 | e1
    · exact hne (by rw [← e1]; exact e)
    · have := e1 _ e; omega
  refine ⟨ho, by simp [h.len], fun k hk => ?_, fun k h1 h2 => ?_, fun k hk => ?_⟩
  · rcases hg.own with e1 | e1
    · exact Or.inl (h.hv k (by rw [← e1]; exact hk))
    · exact Or.inr (Or.inr ⟨e1 k hk, (World.ownsRow.lt ho k hk).2⟩)
  · by_cases hk : k < recs.length
    · have hk' : k < vs.length := by rw [h.len]; exact hk
      obtain ⟨e1, e2⟩ := h.el k hk hk'
      rw [List.getElem_append_left hk, List.getElem_append_left hk']
      exact ⟨hkeep _ _ e1 (fun a n c e => (e2 a n c e).2), fun a n c e => ⟨Or.inl (e2 a n c e).1, hv'1 a (h.lo _ (e2 a n c e).1) (e2 a n c e).2⟩⟩
    · have e0 : k = recs.length := by simp at h1; omega
      subst e0
      have ev : (vs ++ [u])[recs.length]'h2 = u := by
        rw [List.getElem_append_right (by rw [h.len]; exact Nat.le_refl _)]
        simp [h.len]
      rw [ev, List.getElem_append_right (Nat.le_refl _)]
      simp only [Nat.sub_self, List.getElem_cons_zero]
      exact ⟨hkeep _ _ hB (fun a n c e => (hu a n c e).2.2), fun a n c e => ⟨Or.inr (Or.inl (hu a n c e).1), hv'1 a (hu a n c e).2.1 (hu a n c e).2.2⟩⟩
  · rcases hk with hk | hk | hk
    · have := h.lo k hk; omega
    · have := hU k hk; omega
    · exact hk.2
theorem own_snoc {base : Nat} {w' : World} {g n cap : Nat} {vs : List Value} {u : Value} (h : w'.ownsRow base 36 1 (.slice (some ⟨g, 0, none⟩) (n + 1) cap) (n + 1) (vs ++ [u])) (hn : vs.length = n) : OwnV base w' (.slice (some ⟨g, 0, none⟩) (n + 1) cap) (vs ++ [u]) := by
  unfold OwnV
  rw [List.length_append, hn]
  exact h
/-- append, to a list that the call made, of one more. -/
theorem wp_appV (w : World) {ops : Array Oper} {rest : List Oper} {o : Oper} {a : Act} {Q : Exit → Act → World → Prop} (hgd : o.guard = none) (s x : Operand)
    (ho : o.op = .call { callee := .builtin .append, args := #[s, x], argTypes := #[35, 35] })
    (base : Nat) (v : Value) (vs : List Value) (hs : a.eval s = v) (hown : OwnV base w v vs) (Bk : Nat) (u : Value) (hx : a.eval x = .slice (some ⟨Bk, 0, none⟩) 1 1) (hB : w.heap[Bk]? = some (.cells #[u] 36 (0, 0))) (hu : u.oneCell' = true) (hl : vs.length ≤ 1000000000000) (hbase : base ≤ w.heap.size)
    (h : ∀ v' w', (∃ ao n c, v' = .slice ao n c) → OwnV base w' v' (vs ++ [u]) → GrowB w v w' v' → wpList Try.prog ops Q rest (a.put o.dst v') w') : wpList Try.prog ops Q (o :: rest) a w := by
  obtain ⟨i0, hi, hz0, hz1, hz2⟩ := info_parts infoS
  refine wpList_append_lies w hgd s x 35 ho base 36 i0 (.slice none 0 0) 1 24 Try.underlying35 hi hz0 hz1 hz2 rfl (by decide) v vs.length vs hs hown ⟨Bk, 0, none⟩ 1 1 [u] hx rfl (World.news_of_block hB) (by intro y hy; simp at hy; rw [hy]; exact hu) (by decide) (by unfold maxLen; omega) (by omega) hbase w.heap.size rfl ?_
  intro g cap w' h1 h2 h3 _
  refine h _ w' ⟨_, _, _, rfl⟩ (own_snoc h1 rfl) ⟨h2, ?_⟩
  rcases h3 with h3 | h3
  · exact Or.inl h3.symm
  · exact Or.inr fun k hk => by simp [Value.ownBlock] at hk; omega
theorem step_appV (w : World) {ops : Array Oper} {o : Oper} {a : Act} {K : Act → World → Prop} {Q : Exit → Act → World → Prop} {E : Prop} (hgd : o.guard = none) (s x : Operand)
    (ho : o.op = .call { callee := .builtin .append, args := #[s, x], argTypes := #[35, 35] })
    (base : Nat) (v : Value) (vs : List Value) (hs : a.eval s = v) (hown : OwnV base w v vs) (Bk : Nat) (u : Value) (hx : a.eval x = .slice (some ⟨Bk, 0, none⟩) 1 1) (hB : w.heap[Bk]? = some (.cells #[u] 36 (0, 0))) (hu : u.oneCell' = true) (hl : vs.length ≤ 1000000000000) (hbase : base ≤ w.heap.size)
    (h : ∀ v' w', (∃ ao n c, v' = .slice ao n c) → OwnV base w' v' (vs ++ [u]) → GrowB w v w' v' → K (a.put o.dst v') w') :
    if Region.wanted o (yielded ops a.tmps) = true then Oper.wp Try.prog o a w K Q else E := by
  obtain ⟨i0, hi, hz0, hz1, hz2⟩ := info_parts infoS
  refine step_append_lies w hgd s x 35 ho base 36 i0 (.slice none 0 0) 1 24 Try.underlying35 hi hz0 hz1 hz2 rfl (by decide) v vs.length vs hs hown ⟨Bk, 0, none⟩ 1 1 [u] hx rfl (World.news_of_block hB) (by intro y hy; simp at hy; rw [hy]; exact hu) (by decide) (by unfold maxLen; omega) (by omega) hbase w.heap.size rfl ?_
  intro g cap w' h1 h2 h3 _
  refine h _ w' ⟨_, _, _, rfl⟩ (own_snoc h1 rfl) ⟨h2, ?_⟩
  rcases h3 with h3 | h3
  · exact Or.inl h3.symm
  · exact Or.inr fun k hk => by simp [Value.ownBlock] at hk; omega
theorem infoSp : (Try.prog.info? 76).map (·.size) = some 2 := by kernel_rfl
/-- A list that is new. -/
def NewRecs (B : Nat) (w : World) (v : Value) (recs : List (List UInt8)) : Prop := ∃ vs, OwnRecs B w v (fun k => B ≤ k ∧ k < w.heap.size) vs recs
theorem rec_at (recs : List (List UInt8)) (k : Nat) (h : k < recs.length) : ((frames recs).drop (sizeL (recs.take k) + 8)).take recs[k].length = recs[k] := by
  have e : frames recs = frames (recs.take k) ++ (leN 4 recs[k].length ++ (leN 4 (crcL recs[k]) ++ (recs[k] ++ (List.replicate (rnd recs[k].length - recs[k].length) 0 ++ frames (recs.drop (k + 1)))))) := by
    have h1 := frames_app (recs.take k) (recs.drop k)
    rw [List.take_append_drop, List.drop_eq_getElem_cons h, frames_cons] at h1
    rw [h1]; simp [frame]
  have e1 : (frames (recs.take k)).length = sizeL (recs.take k) := rfl
  rw [e, ← List.drop_drop, List.drop_left' e1, show (8 : Nat) = 4 + 4 from rfl, ← List.drop_drop, List.drop_left' (leN_len _ _), List.drop_left' (leN_len _ _), List.take_left' rfl]
set_option maxRecDepth 10000 in
set_option maxHeartbeats 4000000 in
theorem records_any {B : Nat} {w : World} {G : Nat → Prop} {p pl : Value} {first : Int} {m : Nat} {recs : List (List UInt8)} {fl : Nat} (h : LogAt B w G pl p (LSof first m recs fl)) (hoks : ∀ r ∈ recs, OkR r) :
    Calls Try.prog 23 #[pl] w fun e w' => ∃ v, e = .returned v ∧ NewRecs w.heap.size w' v recs ∧ Below w.heap.size w w' := by
  obtain ⟨_, hm, hle, hsl, _⟩ := h.ok
  have hm' : 1 ≤ m ∧ m ≤ 1024 := hm
  have hle' : sizeL recs ≤ 128 * m := hle
  have hsl' : recs.length ≤ 10000 := by have : (LSof first m recs fl).sp.length = recs.length := spans_len recs; omega
  obtain ⟨g, vf, vr, rfl, hLI⟩ := h
  obtain ⟨aor, capr, hvr, hcr⟩ := hLI.sp.form
  have hvr' : vr = .slice aor recs.length capr := by rw [hvr]; show Value.slice aor (spans recs).length capr = _; rw [spans_len]
  clear hvr hcr
  subst hvr'
  have HL : Hid (LogIn B w G g p vf (.slice aor recs.length capr) (LSof first m recs fl)) := hLI
  have HSP : Hid (∀ k (hk : k < recs.length), ∃ gr, aor = some ⟨gr, 0, none⟩ ∧ w.rangeAt gr (k * 2) [.int .i64 ((sizeL (recs.take k) + 8 : Nat) : Int), .int .i64 ((sizeL (recs.take k) + 8 + recs[k].length : Nat) : Int)]) := by
    intro k hk
    have hks : k < (LSof first m recs fl).sp.length := by show k < (spans recs).length; rw [spans_len]; exact hk
    rcases own_range (c := cellsP) (n := 2) (fun x _ => rfl) hLI.sp with ⟨_, h0⟩ | ⟨gr, cap, hv, _, _, _, hr⟩
    · rw [h0] at hks; simp at hks
    · refine ⟨gr, by simp only [Value.slice.injEq] at hv; exact hv.1, ?_⟩
      have := hr k hks
      have e : (LSof first m recs fl).sp[k] = (sizeL (recs.take k) + 8, sizeL (recs.take k) + 8 + recs[k].length) := by
        have h2 := spans_at recs k hk
        rw [List.getElem?_eq_some_iff] at h2
        exact h2.2
      rw [e] at this
      exact this
  obtain ⟨aof, capf, hvf, hcf, _⟩ := hLI.fr.toBytes.form
  have hvf' : vf = .slice aof (sizeL recs) capf := hvf
  have hcf' : sizeL recs ≤ capf := hcf
  clear hvf hcf
  subst hvf'
  obtain ⟨c0, c1, c2, c3, c4, c5, fz⟩ := cells6 hLI.hg
  have HBF : Hid (Bytes w (.slice aof (sizeL recs) capf) (frames recs)) := hLI.fr.toBytes
  have hgl : g < w.heap.size := (hLI.lo g hLI.gg).2
  clear hLI hm hle hsl c0 c1 c2 c5
  go_enter Try.func23, Try.ntmps23
  go_wp2
  go_loopw [3, 13] (fun v i wr => ∃ (k : Nat) (ao : Option Addr) (vn vc : Nat), k ≤ recs.length ∧ i = .int .i64 k ∧ v = .slice ao vn vc ∧ Hid (NewRecs w.heap.size wr (.slice ao vn vc) (recs.take k)) ∧ Below w.heap.size w wr) (fun _ i _ => recs.length - (intOf i).toNat)
  case atStart => exact ⟨0, none, 0, 0, Nat.zero_le _, rfl, rfl, ⟨[], OwnRecs.nil _ _ _ (fun k hk => hk.2)⟩, Below.refl _ _⟩
  case round =>
    obtain ⟨k, ao, vn, vc, hk, rfl, rfl, HR, hb⟩ := hrel
    by_cases hlt : k < recs.length
    · obtain ⟨gr, rfl, hrange⟩ := HSP.out k hlt
      have hrange' := rangeAt_keep hb hrange
      have hst := sizeL_take recs k hlt
      have hst2 := sizeL_le recs (k + 1)
      have hrn := rnd_ge recs[k].length
      have hok := hoks _ (List.getElem_mem hlt)
      have hok1 := hok.1
      obtain ⟨A, hA⟩ : ∃ A, sizeL (recs.take k) + 8 = A := ⟨_, rfl⟩
      obtain ⟨Z, hZ⟩ : ∃ Z, A + recs[k].length = Z := ⟨_, rfl⟩
      rw [hA, hZ] at hrange'
      have HRk : Hid (((frames recs).drop A).take (Z - A) = recs[k]) := by
        show _ = _
        rw [← hZ, ← hA, Nat.add_sub_cancel_left]
        exact rec_at recs k hlt
      have hBr : Hid (Bytes w (.slice (some ⟨gr, 0, none⟩) recs.length capr) [] ∨ True) := Or.inr trivial
      rcases aof with _ | af
      · exfalso
        have := HBF.out.none_len
        omega
      have HSUB := HBF.out.part (a' := af.add A) (lo := A) (hi := Z) rfl (by omega) (by omega) (Or.inl rfl)
      rw [HRk.out] at HSUB
      have HSB : Hid (Bytes w (.slice (some (af.add A)) (Z - A) (capf - A)) recs[k]) := HSUB
      have hcA : ¬ ((capf : Int) = (A : Int)) := by omega
      have hcA' : ¬ (capf = A) := by omega
      have hZA : A ≤ Z := by omega
      have hZs : Z ≤ sizeL recs := by omega
      have HTK : Hid (recs.take (k + 1) = recs.take k ++ [recs[k]]) := List.take_succ_eq_append_getElem hlt
      have hrl : 0 < recs[k].length ∧ recs[k].length ≤ 1000000 := ⟨by omega, by have := hok.2; omega⟩
      have d3 := cell_keep hb c3
      have hwl := hb.size
      clear hst hst2 hrn hok hok1 hA hZ HRk HSUB hBr
      generalize recs[k] = r at *
      go_wp2_with (first
        | (refine wpList_load_mid rfl _ _ rfl gr (k * 2) (by rfl) [.int .i64 (A : Int), .int .i64 (Z : Int)] _ hrange' Try.underlying76 rfl infoSp ?_))
      have ha5 : Below wr.heap.size wr (wr.alloc (.cells #[.int .i64 (A : Int), .int .i64 (Z : Int)] 76)) := (Below.refl _ _).alloc (Nat.le_refl _) _
      have e0 : (wr.alloc (.cells #[.int .i64 (A : Int), .int .i64 (Z : Int)] 76)).cell? ⟨wr.heap.size, 0, none⟩ = some (.int .i64 (A : Int)) := by rw [cell_of_row _ _ 0 _ _ _ (heap_alloc_new wr _)]; rfl
      have e1 : (wr.alloc (.cells #[.int .i64 (A : Int), .int .i64 (Z : Int)] 76)).cell? ⟨wr.heap.size, 1, none⟩ = some (.int .i64 (Z : Int)) := by rw [cell_of_row _ _ 1 _ _ _ (heap_alloc_new wr _)]; rfl
      have e3 := cell_keep ha5 d3
      have hb5 : Below w.heap.size w (wr.alloc (.cells #[.int .i64 (A : Int), .int .i64 (Z : Int)] 76)) := hb.trans (ha5.mono hwl)
      have hs5 : (wr.alloc (.cells #[.int .i64 (A : Int), .int .i64 (Z : Int)] 76)).heap.size = wr.heap.size + 1 := by simp
      obtain ⟨vs, hOR⟩ := HR.out
      have HO5 : Hid (OwnRecs w.heap.size (wr.alloc (.cells #[.int .i64 (A : Int), .int .i64 (Z : Int)] 76)) (.slice ao vn vc) (fun k => w.heap.size ≤ k ∧ k < wr.heap.size) vs (recs.take k)) := hOR.keepB ha5
      have hvl : vs.length ≤ 10000 := by have := hOR.len; rw [List.length_take] at this; omega
      clear hOR ha5 d3 hb HR hrange hrange'
      generalize (wr.alloc (.cells #[.int .i64 (A : Int), .int .i64 (Z : Int)] 76)) = w5 at *
      have HS5 : Hid (Bytes w5 (.slice (some (af.add A)) (Z - A) (capf - A)) r) := HSB.out.keep hb5
      have HCL : Hid (∀ wz, (wz = w5 ∨ wz = w5.drew) → Calls Try.prog 36 #[.slice (some (af.add A)) (Z - A) (capf - A)] wz fun e w' => ∃ ao' n' c', e = .returned (.slice ao' n' c') ∧ Bytes w' (.slice ao' n' c') r ∧ (∀ a n c, Value.slice ao' n' c' = .slice (some a) n c → w5.heap.size ≤ a.block ∧ a.block < w'.heap.size) ∧ Below w5.heap.size w5 w') := by
        intro wz hz
        have hbz : Below w5.heap.size w5 wz := by
          rcases hz with rfl | rfl
          · exact Below.refl _ _
          · exact (Below.refl _ _).drew
        have hsz : wz.heap.size = w5.heap.size := by
          rcases hz with rfl | rfl <;> rfl
        refine (clone_bytes wz.heap.size _ r wz (HS5.out.keep hbz) hrl.1 hrl.2 (Nat.le_refl _)).mono ?_
        rintro e w' ⟨v', he, ho, hn, hbb⟩
        obtain ⟨ao', c', hv', _⟩ := ho.toBytes.form
        subst hv'
        refine ⟨_, _, _, he, ho.toBytes, fun a n c e => ?_, hbz.trans (by rw [hsz] at hbb; exact hbb)⟩
        cases e
        have h1 := World.ownsRow.lt ho a.block rfl
        exact ⟨by rw [← hsz]; exact h1.1, h1.2⟩
      go_region_held_law (fun w' => w'.cell? ⟨g, 3, none⟩ = some (.slice (some af) (sizeL recs) capf) ∧ w'.cell? ⟨wr.heap.size, 0, none⟩ = some (.int .i64 (A : Int)) ∧ w'.cell? ⟨wr.heap.size, 1, none⟩ = some (.int .i64 (Z : Int))) (first | exact ⟨e3, e0, e1⟩ | exact ⟨hfar _ _ _ (Or.inl hgl) e3, hfar _ _ _ (Or.inr rfl) e0, hfar _ _ _ (Or.inr rfl) e1⟩ | exact ⟨cell_keep hb6 e3, cell_keep hb6 e0, cell_keep hb6 e1⟩ | exact ⟨cell_keep (hb6.alloc (by have := hb6.size; omega) _) e3, cell_keep (hb6.alloc (by have := hb6.size; omega) _) e0, cell_keep (hb6.alloc (by have := hb6.size; omega) _) e1⟩)
        (first
          | (go_at_call 36; refine (HCL.out _ (by first | exact Or.inl rfl | exact Or.inr rfl)).mono ?_; rintro e w6 ⟨ao6, n6, c6, rfl, hB6, hu6, hb6⟩)
          | (refine step_appV _ (by rfl) _ _ (by rfl) w.heap.size (.slice ao vn vc) vs (by rfl) (World.ownsRow.alloc (HO5.out.keepB hb6).own _) w6.heap.size (.slice ao6 n6 c6) (by rfl) (heap_alloc_new w6 _) (by rfl) (by omega) (by have := hb6.size; simp; omega) ?_; intro v8 w8 hv8 hown8 hg8
             have hb7 : Below w5.heap.size w5 (w6.alloc (.cells #[.slice ao6 n6 c6] 36)) := hb6.alloc hb6.size _
             have hfar : ∀ (b o : Nat) (x : Value), (b < w.heap.size ∨ wr.heap.size = b) → w5.cell? ⟨b, o, none⟩ = some x → w8.cell? ⟨b, o, none⟩ = some x := fun b o x hbb hx => by
               have hx7 := cell_keep hb7 hx
               refine (hg8.grown.cell_far ⟨b, o, none⟩ (World.block_lt_of_cell? _ _ hx7) (fun e => ?_)).trans hx7
               have := HO5.out.hv b e.symm
               omega))
      have hOn : OwnRecs w.heap.size w8 v8 (fun k => w.heap.size ≤ k ∧ k < w8.heap.size) (vs ++ [.slice ao6 n6 c6]) (recs.take (k + 1)) := by
        rw [HTK.out]
        have hO6 := HO5.out.keepB hb6
        have hs6 := hb6.size
        have hO7 : OwnRecs w.heap.size (w6.alloc (.cells #[.slice ao6 n6 c6] 36)) (.slice ao vn vc) (fun k => w.heap.size ≤ k ∧ k < wr.heap.size) vs (recs.take k) := hO6.keepB ((Below.refl _ _).alloc (Nat.le_refl _) _)
        have hB7 : Bytes (w6.alloc (.cells #[.slice ao6 n6 c6] 36)) (.slice ao6 n6 c6) r := hB6.keep ((Below.refl _ _).alloc (Nat.le_refl _) _)
        have hs8 := hg8.grown.size
        have hs7 : (w6.alloc (.cells #[.slice ao6 n6 c6] 36)).heap.size = w6.heap.size + 1 := by simp
        refine (hO7.snoc (U := fun k => w5.heap.size ≤ k ∧ k < w6.heap.size) hown8 hg8 hB7 (fun a n c e => ⟨hu6 a n c e, by have := (hu6 a n c e).2; omega, fun e2 => by have := (hO7.hv _ e2).2; have := (hu6 a n c e).1; omega⟩) (fun k hk => by omega)).mono (fun k hk => ?_) (fun k hk => hk.2)
        rcases hk with hk | hk | hk <;> omega
      have hb8 : Below w.heap.size w w8 := by
        have hs5' := hb5.size
        exact (hb5.trans (hb7.mono hs5')).grown hg8.grown (by have := hb7.size; omega) (fun k hk => (HO5.out.hv k hk).1)
      obtain ⟨ao8, n8, c8, hv8'⟩ := hv8
      subst hv8'
      have HN8 : Hid (NewRecs w.heap.size w8 (.slice ao8 n8 c8) (recs.take (k + 1))) := ⟨_, hOn⟩
      clear hOn hfar hown8 hg8 hb7 hB6 hu6 hb6 HO5 e0 e1 e3
      go_wp2
      go_roundw
      case rel => exact ⟨k + 1, ao8, n8, c8, by omega, by go_num, rfl, HN8, hb8⟩
      case measure => simp [intOf]; omega
    · have hE : recs.take k = recs := List.take_of_length_le (by omega)
      have HR' : Hid (NewRecs w.heap.size wr (.slice ao vn vc) recs) := by rw [hE] at HR; exact HR
      go_wp2
      go_ret
      exact ⟨_, rfl, HR'.out, hb⟩
end Go.Proofs.Ytcjoolmlobjpbaa
