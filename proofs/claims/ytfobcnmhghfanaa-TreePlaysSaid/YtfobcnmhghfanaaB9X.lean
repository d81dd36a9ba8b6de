/- An entry goes: drop. -/
import Derived.Test.YtfobcnmhghfanaaB9L
import Derived.Test.YtfobcnmhghfanaaB9P
import Derived.Test.YtfobcnmhghfanaaB9U
namespace Go.Proofs.Ytfobcnmhghfanaa
open Go.RowKit Go.Shelf
set_option linter.unusedVariables false
set_option linter.unusedSimpArgs false

theorem enters_fs : Enters Try.prog 41 := enters_of Try.func41 (by kernel_rfl) rfl
/-- What drop leaves. -/
inductive DrOut (base : Nat) (w : World) (ro : Ro) (nd : Nat → Nd) (r H : Nat) (lv : Nat → List Br) (key : ByteArray) (e : Ending) (w' : World) : Prop
  | mk (ro' : Ro) (nd' : Nat → Nd) (H' : Nat) (lv' : Nat → List Br) (dep' : Nat → Nat) (he : e = .returned (.tuple #[])) (ts : TS base w' ro' nd' r H' lv' dep') (en : ents nd' (lv' H') = delL (ents nd (lv H)) key) (hfr : Fr w w' (fun k => ro k ≠ none)) (hgr : ∀ k, ro' k ≠ none → ro k ≠ none ∨ w.heap.size ≤ k) (hex : (nd' r).ex = (nd r).ex ∧ (nd' r).ty = (nd r).ty) (h2 : 0 < H' → 2 ≤ (nd' r).bs.length)
theorem drop_end {base : Nat} {w w1 : World} {ro : Ro} {nd : Nat → Nd} {r H : Nat} {lv : Nat → List Br} {dep : Nat → Nat} (ts : TS base w ro nd r H lv dep) {key : ByteArray} {A B : List Br} {p : Br} (pa : Path lv key H A p B) (h4 : 0 < H → 4 < (nd p.2).sz) {i : Nat} (hi : i < (nd p.2).es.length) (hk : (nd p.2).es[i].key = key) {v' : Value} (ho : OwnE base w1 v' ((nd p.2).es.eraseIdx i)) (hg : GrowB w (nd p.2).ve w1 v') :
    ∃ ro' nd', TS base (w1.setCell ⟨p.2, 0, none⟩ v') ro' nd' r H lv dep ∧ MTo base w ro nd (w1.setCell ⟨p.2, 0, none⟩ v') ro' nd' ∧ ents nd' (lv H) = delL (ents nd (lv H)) key := by
  have hpm : p ∈ lv H := by rw [pa.at_]; simp
  have hro := ts.inn H (Nat.le_refl _) p hpm
  have mt := ts.mem.putE hro ho hg
  obtain ⟨hS, hE⟩ := ts.sh.delE (nd' := updN nd p.2 (putE (nd p.2) ((nd p.2).es.eraseIdx i) v')) pa.at_ hi (by rw [updN_same]; rfl) (fun b h => updN_other _ _ h) (by rw [updN_same]; rfl)
  have hsz : (updN nd p.2 (putE (nd p.2) ((nd p.2).es.eraseIdx i) v') p.2).sz + 1 = (nd p.2).sz := by
    rw [updN_same]
    unfold Nd.sz putE
    simp only [List.length_eraseIdx, if_pos hi]
    omega
  have hall := ts.toSZ.all ts.sh (Nat.le_refl _) hpm
  refine ⟨_, _, ⟨⟨mt.mem, hS, fun j hj q hq => mt.node _ (ts.inn j hj q hq)⟩, ⟨fun j h0 hj q hq => ?_, ?_⟩⟩, mt, by rw [hE, hk]⟩
  · by_cases e : q.2 = p.2
    · have hjH : j = H := by have h1 := ts.sh.dp j hj q hq; have h2 := ts.sh.dp H (Nat.le_refl _) p hpm; rw [e] at h1; omega
      have := h4 (by omega)
      rw [e]; omega
    · rw [updN_other _ _ e]; exact ts.sz j h0 hj q hq
  · by_cases e : r = p.2
    · rw [e]; omega
    · rw [updN_other _ _ e]; exact ts.top
/-- Where the key's entry lies in its leaf. -/
theorem bnd_key {nd : Nat → Nd} {r H : Nat} {lv : Nat → List Br} {dep : Nat → Nat} (h : Shape nd r H lv dep) {key : ByteArray} {A B : List Br} {p : Br} (pa : Path lv key H A p B) {x : E} (hx : getL (ents nd (lv H)) key = some x) {i : Nat} (hb : Bnd (nd p.2).es key true i) : ∃ hi : i < (nd p.2).es.length, (nd p.2).es[i].key = key := by
  obtain ⟨hA, hB⟩ := h.at_leaf pa
  have eL : ents nd (lv H) = ents nd A ++ ((nd p.2).es ++ ents nd B) := by rw [pa.at_, ents_append, ents_cons]
  have hg := get_next h.line key
  rw [hx, eL] at hg
  by_cases hi : i < (nd p.2).es.length
  · rw [next_in hA hb hi] at hg
    refine ⟨hi, ?_⟩
    by_cases e : (nd p.2).es[i].key = key
    · exact e
    · simp [e] at hg
  · rw [next_out hA hB hb hi] at hg
    cases hh : (ents nd B).head? with
    | none => rw [hh] at hg; cases hg
    | some y =>
      rw [hh] at hg
      have hy := hB y (List.mem_of_head? hh)
      by_cases e : y.key = key
      · rw [e, kl_irrefl] at hy; cases hy
      · simp [e] at hg
set_option maxHeartbeats 2000000 in
theorem drop_any {base : Nat} {w : World} {ro : Ro} {nd : Nat → Nd} {r H : Nat} {lv : Nat → List Br} {dep : Nat → Nat} (ts : TS base w ro nd r H lv dep) (h2 : 0 < H → 2 ≤ (nd r).bs.length) {key : ByteArray} {x : E} (hx : getL (ents nd (lv H)) key = some x) (hb : base ≤ w.heap.size) :
    Calls Try.prog 30 #[pt r, .string key] w fun e w' => DrOut base w ro nd r H lv key e w' := by
  have hlf := leafFor_any enters_fs (fillShort_any base r key) (fun j n h => Or.inl ⟨by omega, h⟩) ts (Or.inr ⟨rfl, by
    rcases Nat.eq_zero_or_pos H with e | e
    · subst e; exact Or.inl (ts.sh.leaf (ByteArray.empty, r) (by rw [ts.sh.top]; simp))
    · exact Or.inr (h2 e)⟩) (fun _ => Or.inl trivial) hb
  have HX : Hid _ := hx
  have hroot := ts.toTM.root
  clear hx ts h2
  go_enter Try.func30, Try.ntmps30
  go_wp2_with fail
  refine hlf.mono ?_
  clear hlf
  rintro e w1 ⟨ro1, nd1, lv1, dep1, A, p, B, he, ts1, mt1, en1, pa, gp, _⟩
  subst he
  have hpm : p ∈ lv1 H := by rw [pa.at_]; simp
  obtain ⟨hro, hlb, hle, hleaf⟩ := ts1.node (Nat.le_refl _) hpm
  have hef := entryFrom_any (ts1.mem.at_ hro) (ts1.mem.rowE _ hro) hle (line_leaf ts1.sh pa.at_) key true
  have HT : Hid (TS base w1 ro1 nd1 r H lv1 dep1) := ts1
  have HM : Hid (MTo base w ro nd w1 ro1 nd1) := mt1
  have HP : Hid (Path lv1 key H A p B) := pa
  have HG : Hid _ := gp
  have HEN : Hid (ents nd1 (lv1 H) = ents nd (lv H)) := en1
  clear ts1 mt1 pa gp en1 hlb hleaf
  go_wp2_with fail
  refine hef.mono ?_
  clear hef
  rintro e w2 ⟨i, he, hbn, hb2⟩
  subst he
  obtain ⟨hi, hik⟩ := bnd_key HT.out.sh HP.out (by rw [HEN.out]; exact HX.out) hbn
  have ts2 := HT.out.below hb2
  obtain ⟨g, cap, hv, _, _⟩ := (ts2.mem.rowE _ hro).at_ (by omega)
  have hrow := ts2.mem.rowE _ hro
  have hN := ts2.mem.at_ hro
  have c0 := hN.c0
  have f0 := hN.fz 0
  rw [hv] at hrow c0
  have hdl := delE hrow i hi (by omega)
  have hne := ts2.mem.ne1 hro
  rw [hv] at hne
  have hw1 : IntKind.i64.wrap ((i : Int) + 1) = (i : Int) + 1 := by rw [IntKind.wrap_i64]; omega
  have HE : Hid (∀ w3, OwnE base w3 (.slice (some ⟨g, 0, none⟩) ((nd1 p.2).es.length - 1) cap) ((nd1 p.2).es.eraseIdx i) → w2.grownBy w3 (some g) → (w3.cell? ⟨p.2, 0, none⟩ = some (.slice (some ⟨g, 0, none⟩) (nd1 p.2).es.length cap) ∧ w3.frozen? ⟨p.2, 0, none⟩ = false) ∧ Calls Try.prog 43 #[pt r] (w3.setCell ⟨p.2, 0, none⟩ (.slice (some ⟨g, 0, none⟩) ((nd1 p.2).es.length - 1) cap)) fun e w' => e = .returned (.tuple #[]) ∧ DrOut base w ro nd r H lv key (.returned (.tuple #[])) w') := fun w3 ho hg => by
    refine ⟨⟨hg.cell (a := ⟨p.2, 0, none⟩) c0 (fun e => hne e.symm), (hg.frozen_far ⟨p.2, 0, none⟩ (ts2.mem.lt hro) (fun e => hne e.symm)).trans f0⟩, ?_⟩
    obtain ⟨ro3, nd3, ts3, mt3, en3⟩ := drop_end ts2 HP.out (fun h0 => by rcases HG.out with h | h; exact h.2; omega) hi hik ho (by rw [hv]; exact ⟨hg, Or.inl rfl⟩)
    have mt := HM.out.trans ((MTo.of_below HT.out.mem hb2).trans mt3)
    refine (shrink_any ts3).mono ?_
    rintro e w4 ⟨ro4, nd4, H4, lv4, dep4, he, ts4, en4, hfr, hgr, hex, h2⟩
    refine ⟨he, ?_⟩
    refine .mk ro4 nd4 H4 lv4 dep4 rfl ts4 (by rw [en4, en3, HEN.out]) (mt.fr.trans hfr mt.gr) (fun k hk => mt.gr k (hgr k hk)) ?_ h2
    have := mt.ex r hroot
    exact ⟨hex.1.trans this.1, hex.2.trans this.2⟩
  clear hrow hN hv hne ts2 hbn hik hb2
  generalize (nd1 p.2).es.length = ne at *
  go_wp2_with (first
    | (go_at_call 42; refine hdl.mono ?_; clear hdl; rintro e w3 ⟨rfl, ho, hg⟩; obtain ⟨⟨x1, x2⟩, hsh⟩ := HE.out w3 ho hg; clear HE ho hg)
    | (go_at_call 43; refine hsh.mono ?_; clear hsh; rintro e w4 ⟨rfl, hO⟩))
  refine bodyPost_ret (v := .tuple #[]) (by simp [results, Try.results30, go_sem]) rfl ?_
  exact hO
end Go.Proofs.Ytfobcnmhghfanaa
