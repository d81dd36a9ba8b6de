/- A tree as it lies: its entries, its counts; what becomes of them. -/
import Derived.Test.YtfobcnmhghfanaaB9U
namespace Go.Proofs.Ytfobcnmhghfanaa
open Go.RowKit Go.Shelf
set_option linter.unusedVariables false
set_option linter.unusedSimpArgs false

/-- What the calls come to. -/
def insO (L : List E) (key : ByteArray) (n : Int) : Int × List E := if 2000 < key.size then (93, L) else match getL L key with | none => (0, addL L ⟨key, n, false⟩) | some e => (if e.ghost then (0, setL L ⟨key, n, false⟩) else (91, L))
def ghostO (L : List E) (key : ByteArray) : Int × List E := match getL L key with | none => (92, L) | some e => (if e.ghost then (92, L) else (0, setL L ⟨key, e.num, true⟩))
def purgeO (L : List E) (key : ByteArray) : Int × List E := match getL L key with | none => (92, L) | some e => (if e.ghost then (0, delL L key) else (92, L))
theorem cnt_split (f : E → Bool) {L : List E} {key : ByteArray} (h : ∀ e ∈ L, e.key ≠ key) : L.countP f = (L.filter (fun x => kl x.key key)).countP f + (L.filter (fun x => kl key x.key)).countP f := by
  induction L with
  | nil => rfl
  | cons x t ih =>
    have ih' := ih (fun e he => h e (by simp [he]))
    have hx := h x (by simp)
    rw [List.filter_cons, List.filter_cons, List.countP_cons]
    cases h1 : kl x.key key with
    | true =>
      rw [kl_asymm h1]
      simp only [if_true, Bool.false_eq_true, if_false, List.countP_cons]
      omega
    | false =>
      cases h2 : kl key x.key with
      | true =>
        simp only [if_true, Bool.false_eq_true, if_false, List.countP_cons]
        omega
      | false => exact absurd (kl_eq h1 h2) hx
theorem cnt_add (f : E → Bool) {L : List E} {x : E} (h : getL L x.key = none) : (addL L x).countP f = L.countP f + (if f x then 1 else 0) := by
  rw [cnt_split f (getL_none h)]
  unfold addL
  rw [List.countP_append, List.countP_cons]
  omega
theorem len_add {L : List E} {x : E} (h : getL L x.key = none) : (addL L x).length = L.length + 1 := by
  have h1 := cnt_add (fun _ => true) h
  simpa using h1
/-- A line parted at a key's entry. -/
theorem get_split {L : List E} (hl : Line L) {key : ByteArray} {e : E} (h : getL L key = some e) : ∃ X Y, L = X ++ e :: Y ∧ (∀ x ∈ X, x.key ≠ e.key) ∧ (∀ x ∈ Y, x.key ≠ e.key) ∧ e.key = key := by
  obtain ⟨hm, hk⟩ := getL_mem h
  obtain ⟨X, Y, rfl⟩ := List.append_of_mem hm
  exact ⟨X, Y, rfl, hl.parts.1, hl.parts.2, hk⟩
theorem cnt_set (f : E → Bool) {L : List E} (hl : Line L) {key : ByteArray} {e e' : E} (h : getL L key = some e) (hk : e'.key = key) : (setL L e').countP f + (if f e then 1 else 0) = L.countP f + (if f e' then 1 else 0) := by
  obtain ⟨X, Y, rfl, h1, h2, h3⟩ := get_split hl h
  unfold setL
  rw [List.map_append, List.map_cons, map_id' (fun x hx => by rw [if_neg (by rw [hk, ← h3]; exact h1 x hx)]), map_id' (X := Y) (fun x hx => by rw [if_neg (by rw [hk, ← h3]; exact h2 x hx)]), if_pos (by rw [h3, hk]), List.countP_append, List.countP_append, List.countP_cons, List.countP_cons]
  omega
theorem cnt_del (f : E → Bool) {L : List E} (hl : Line L) {key : ByteArray} {e : E} (h : getL L key = some e) : (delL L key).countP f + (if f e then 1 else 0) = L.countP f := by
  obtain ⟨X, Y, rfl, h1, h2, h3⟩ := get_split hl h
  unfold delL
  rw [← h3, List.filter_append, List.filter_cons, filter_all (fun x hx => by simp [h1 x hx]), filter_all (X := Y) (fun x hx => by simp [h2 x hx]), List.countP_append, List.countP_append, List.countP_cons]
  simp
  omega
theorem len_set (L : List E) (e : E) : (setL L e).length = L.length := by simp [setL]
theorem len_del (L : List E) (key : ByteArray) : (delL L key).length ≤ L.length := List.length_filter_le ..
theorem live_le (L : List E) : liveN L ≤ L.length := List.countP_le_length
theorem ghost_le (L : List E) : ghostN L ≤ L.length := List.countP_le_length
/-- A tree as it lies. -/
structure TreeIn (base : Nat) (w : World) (ro : Ro) (r : Nat) (nd : Nat → Nd) (H : Nat) (lv : Nat → List Br) (dep : Nat → Nat) (L : List E) : Prop where
  ts : TS base w ro nd r H lv dep
  en : ents nd (lv H) = L
  ex : (nd r).ex = [.int .i64 (liveN L : Nat), .int .i64 (ghostN L : Nat)]
  ty : (nd r).ty = 54
  two : 0 < H → 2 ≤ (nd r).bs.length
def TreeAt (base : Nat) (w : World) (ro : Ro) (p : Value) (L : List E) : Prop := ∃ r nd H lv dep, p = pt r ∧ TreeIn base w ro r nd H lv dep L
/-- What a call may turn of the memory around a tree. -/
structure TTo (w : World) (ro : Ro) (w' : World) (ro' : Ro) : Prop where
  fr : Fr w w' (fun k => ro k ≠ none)
  gr : ∀ k, ro' k ≠ none → ro k ≠ none ∨ w.heap.size ≤ k
theorem TTo.of_below {w w' : World} (ro : Ro) (h : Below w.heap.size w w') : TTo w ro w' ro := ⟨Fr.of_below h, fun k hk => Or.inl hk⟩
theorem TTo.trans {w w1 w2 : World} {ro ro1 ro2 : Ro} (h : TTo w ro w1 ro1) (k : TTo w1 ro1 w2 ro2) : TTo w ro w2 ro2 :=
  ⟨h.fr.trans k.fr h.gr, fun i hi => by
    rcases k.gr i hi with h1 | h1
    · exact h.gr i h1
    · exact Or.inr (Nat.le_trans h.fr.size h1)⟩
theorem TTo.of_mto {base : Nat} {w w' : World} {ro ro' : Ro} {nd nd' : Nat → Nd} (h : MTo base w ro nd w' ro' nd') : TTo w ro w' ro' := ⟨h.fr, h.gr⟩
theorem TreeIn.line {base : Nat} {w : World} {ro : Ro} {r : Nat} {nd : Nat → Nd} {H : Nat} {lv : Nat → List Br} {dep : Nat → Nat} {L : List E} (h : TreeIn base w ro r nd H lv dep L) : Line L := by rw [← h.en]; exact h.ts.sh.line
theorem TreeAt.line {base : Nat} {w : World} {ro : Ro} {p : Value} {L : List E} (h : TreeAt base w ro p L) : Line L := by
  obtain ⟨r, nd, H, lv, dep, _, h⟩ := h; exact h.line
theorem TreeAt.below {base : Nat} {w w' : World} {ro : Ro} {p : Value} {L : List E} (h : TreeAt base w ro p L) (hb : Below w.heap.size w w') : TreeAt base w' ro p L := by
  obtain ⟨r, nd, H, lv, dep, hp, h⟩ := h
  exact ⟨r, nd, H, lv, dep, hp, h.ts.below hb, h.en, h.ex, h.ty, h.two⟩
theorem TreeAt.keep {base : Nat} {w w' : World} {ro : Ro} {p : Value} {L : List E} (h : TreeAt base w ro p L) {G : Nat → Prop} (hf : Fr w w' G) (hd : ∀ k, ro k ≠ none → ¬ G k) : TreeAt base w' ro p L := by
  obtain ⟨r, nd, H, lv, dep, hp, h⟩ := h
  exact ⟨r, nd, H, lv, dep, hp, ⟨⟨h.ts.mem.keep hf hd, h.ts.sh, h.ts.inn⟩, h.ts.toSZ⟩, h.en, h.ex, h.ty, h.two⟩
theorem TreeAt.lo {base : Nat} {w : World} {ro : Ro} {p : Value} {L : List E} (h : TreeAt base w ro p L) : ∀ k, ro k ≠ none → base ≤ k ∧ k < w.heap.size := by
  obtain ⟨r, nd, H, lv, dep, hp, h⟩ := h; exact h.ts.mem.lo
/-- The shape hangs on entries and branches alone. -/
theorem Shape.same {nd nd' : Nat → Nd} {r H : Nat} {lv : Nat → List Br} {dep : Nat → Nat} (h : Shape nd r H lv dep) (he : ∀ b, (nd' b).es = (nd b).es ∧ (nd' b).bs = (nd b).bs) : Shape nd' r H lv dep ∧ ents nd' (lv H) = ents nd (lv H) := by
  have e1 : ∀ l, next nd' l = next nd l := fun l => flat_congr (fun p _ => (he p.2).2)
  have e2 : ∀ l : List Br, l.flatMap (its nd') = l.flatMap (its nd) := fun l => flat_congr (fun p _ => by unfold its; rw [(he p.2).1])
  refine ⟨⟨h.top, fun j hj => by rw [e1]; exact h.nx j hj, h.dp, h.nodup, fun j hj p hp => by rw [(he p.2).1, (he p.2).2]; exact h.inner j hj p hp, fun p hp => by rw [(he p.2).2]; exact h.leaf p hp, by rw [e2]; exact h.ord⟩, flat_congr (fun p _ => (he p.2).1)⟩
/-- What lies behind the root turns. -/
theorem TS.setEx {base : Nat} {w W : World} {ro : Ro} {nd : Nat → Nd} {r H : Nat} {lv : Nat → List Br} {dep : Nat → Nat} (ts : TS base w ro nd r H lv dep) {ex' : List Value} (hf : Fr w W (fun k => k = r)) (hb : W.heap[r]? = some (.cells ((nd r).ve :: (nd r).vb :: ex').toArray (nd r).ty (0, 0))) :
    ∃ nd', TS base W ro nd' r H lv dep ∧ ents nd' (lv H) = ents nd (lv H) ∧ (nd' r).ex = ex' ∧ (nd' r).ty = (nd r).ty ∧ (nd' r).bs = (nd r).bs := by
  have hr := ts.toTM.root
  let nd' := updN nd r { nd r with ex := ex' }
  have hsame : ∀ b, (nd' b).es = (nd b).es ∧ (nd' b).bs = (nd b).bs ∧ (nd' b).ve = (nd b).ve ∧ (nd' b).vb = (nd b).vb := fun b => by
    by_cases e : b = r
    · subst e; simp only [nd', updN_same]; exact ⟨trivial, trivial, trivial, trivial⟩
    · simp only [nd', updN_other _ _ e]; exact ⟨trivial, trivial, trivial, trivial⟩
  have hm := ts.mem
  have hkeep : ∀ k, ro k ≠ none → k ≠ r → W.heap[k]? = w.heap[k]? := fun k hk e => hf.block k (hm.lo k hk).2 e
  obtain ⟨hS, hE⟩ := ts.sh.same (nd' := nd') (fun b => ⟨(hsame b).1, (hsame b).2.1⟩)
  have hsz : ∀ b, (nd' b).sz = (nd b).sz := fun b => by unfold Nd.sz; rw [(hsame b).1, (hsame b).2.1]
  refine ⟨nd', ⟨⟨⟨fun b hb' => ?_, fun b hb' => ?_, fun b hb' => ?_, fun b hb' k hk => ?_, fun b hb' k hk => ?_, fun k hk => ?_⟩, hS, ts.inn⟩, ⟨fun j h0 hj p hp => by rw [hsz]; exact ts.sz j h0 hj p hp, by rw [hsz]; exact ts.top⟩⟩, hE, by simp only [nd', updN_same], by simp only [nd', updN_same], (hsame r).2.1⟩
  · by_cases e : b = r
    · subst e; simp only [nd', updN_same]; exact hb
    · simp only [nd', updN_other _ _ e]; rw [hkeep b (by rw [hb']; simp) e]; exact hm.blk b hb'
  · rw [(hsame b).1, (hsame b).2.2.1]
    exact (hm.rowE b hb').of_block (fun k hk => hkeep k (by rw [hm.ro1 b hb' k hk]; simp) (fun e => by have := hm.ro1 b hb' k hk; rw [e, hr] at this; cases this))
  · rw [(hsame b).2.1, (hsame b).2.2.2]
    exact (hm.rowB b hb').of_block (fun k hk => hkeep k (by rw [hm.ro2 b hb' k hk]; simp) (fun e => by have := hm.ro2 b hb' k hk; rw [e, hr] at this; cases this))
  · rw [(hsame b).2.2.1] at hk; exact hm.ro1 b hb' k hk
  · rw [(hsame b).2.2.2] at hk; exact hm.ro2 b hb' k hk
  · have := hm.lo k hk; exact ⟨this.1, Nat.lt_of_lt_of_le this.2 hf.size⟩
/-- An entry turns in its row. -/
theorem set_cells (es : List E) (i : Nat) (hi : i < es.length) (n : Int) (b : Bool) : ((es.flatMap cE).set (i * 3 + 1) (.int .i64 n)).set (i * 3 + 2) (.bool b) = (es.set i ⟨es[i].key, n, b⟩).flatMap cE := by
  have e0 : es.flatMap cE = (es.take i).flatMap cE ++ (cE es[i] ++ (es.drop (i + 1)).flatMap cE) := by
    conv => lhs; rw [split_at hi]
    rw [List.flatMap_append, List.flatMap_cons]
  have hl : ((es.take i).flatMap cE).length = i * 3 := by rw [flat_len cE 3 _ (cE_len _), List.length_take]; omega
  rw [e0, set_split hi, List.flatMap_append, List.flatMap_cons]
  rw [List.set_append_right _ _ (by omega), List.set_append_right _ _ (by omega), hl, Nat.add_sub_cancel_left, Nat.add_sub_cancel_left]
  rfl
theorem TS.setEnt {base : Nat} {w : World} {ro : Ro} {nd : Nat → Nd} {r H : Nat} {lv : Nat → List Br} {dep : Nat → Nat} (ts : TS base w ro nd r H lv dep) {A B : List Br} {p : Br} (hp : lv H = A ++ p :: B) {i : Nat} (hi : i < (nd p.2).es.length) {g n cap : Nat} (hv : (nd p.2).ve = .slice (some ⟨g, 0, none⟩) n cap) (num : Int) (b : Bool) :
    ∃ ro' nd', TS base ((w.setCell ⟨g, i * 3 + 1, none⟩ (.int .i64 num)).setCell ⟨g, i * 3 + 2, none⟩ (.bool b)) ro' nd' r H lv dep ∧ MTo base w ro nd ((w.setCell ⟨g, i * 3 + 1, none⟩ (.int .i64 num)).setCell ⟨g, i * 3 + 2, none⟩ (.bool b)) ro' nd' ∧ ents nd' (lv H) = setL (ents nd (lv H)) ⟨(nd p.2).es[i].key, num, b⟩ ∧ (nd' r).bs = (nd r).bs := by
  have hpm : p ∈ lv H := by rw [hp]; simp
  have hro := ts.inn H (Nat.le_refl _) p hpm
  have hrow := ts.mem.rowE p.2 hro
  rw [hv] at hrow
  obtain rfl := hrow.len
  obtain ⟨o1, g1⟩ := World.ownsRow.stored hrow (i * 3 + 1) (.int .i64 num)
  obtain ⟨o2, g2⟩ := World.ownsRow.stored o1 (i * 3 + 2) (.bool b)
  have hg := grownBy_trans g1 g2
  rw [set_cells _ i hi] at o2
  have hne := ts.mem.ne1 hro
  rw [hv] at hne
  have hgp : g ≠ p.2 := fun e => hne (by rw [e]; rfl)
  have ho : OwnE base ((w.setCell ⟨g, i * 3 + 1, none⟩ (.int .i64 num)).setCell ⟨g, i * 3 + 2, none⟩ (.bool b)) (nd p.2).ve ((nd p.2).es.set i ⟨(nd p.2).es[i].key, num, b⟩) := by
    show World.ownsRow _ _ _ _ _ (((nd p.2).es.set i _).length) _
    rw [List.length_set, hv]; exact o2
  have hvg : (nd p.2).ve.ownBlock = some g := by rw [hv]; rfl
  have mt := ts.mem.put hro { nd p.2 with es := (nd p.2).es.set i ⟨(nd p.2).es[i].key, num, b⟩ } (Fr.of_grown hg (fun k hk => Or.inr (Or.inl (by rw [hvg]; exact hk)))) ((hg.block p.2 (ts.mem.lt hro) (fun e => hgp (by cases e; rfl))).trans (ts.mem.blk p.2 hro)) ho ((ts.mem.rowB p.2 hro).of_block (fun k hk => hg.block k ((ts.mem.rowB p.2 hro).lo k hk).2 (fun e => ts.mem.ne12 hro (by rw [hvg]; exact e.symm) hk))) (Or.inl rfl) (Or.inl rfl) (fun k h1 h2 => ts.mem.ne12 hro h1 h2) ⟨rfl, rfl⟩
  obtain ⟨hS, hE⟩ := ts.sh.setE (nd' := updN nd p.2 { nd p.2 with es := (nd p.2).es.set i ⟨(nd p.2).es[i].key, num, b⟩ }) (e := ⟨(nd p.2).es[i].key, num, b⟩) hp hi rfl (by rw [updN_same]) (fun c h => updN_other _ _ h) (by rw [updN_same])
  have hsz : ∀ c, (updN nd p.2 { nd p.2 with es := (nd p.2).es.set i ⟨(nd p.2).es[i].key, num, b⟩ } c).sz = (nd c).sz := fun c => by
    by_cases e : c = p.2
    · subst e; rw [updN_same]; simp [Nd.sz]
    · rw [updN_other _ _ e]
  refine ⟨_, _, ⟨⟨mt.mem, hS, fun j hj q hq => mt.node _ (ts.inn j hj q hq)⟩, ⟨fun j h0 hj q hq => by rw [hsz]; exact ts.sz j h0 hj q hq, by rw [hsz]; exact ts.top⟩⟩, mt, hE, ?_⟩
  by_cases e : r = p.2
  · rw [e, updN_same]
  · rw [updN_other _ _ e]
end Go.Proofs.Ytfobcnmhghfanaa
