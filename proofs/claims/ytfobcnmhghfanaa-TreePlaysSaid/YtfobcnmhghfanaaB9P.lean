/- The root grows and shrinks: the walks. -/
import Derived.Test.YtfobcnmhghfanaaB9O
namespace Go.Proofs.Ytfobcnmhghfanaa
open Go.RowKit Go.Shelf
set_option linter.unusedVariables false
set_option linter.unusedSimpArgs false

theorem zero_node (w : World) : (zeroValue 52).run Try.prog w = .ok (.agg #[.slice none 0 0, .slice none 0 0]) w := by kernel_rfl
theorem build_br1 (w : World) (p : Option Addr) : (Instr.build 75 #[(1, .pointer p)]).run Try.prog w = .ok (.agg #[.string ByteArray.empty, .pointer p]) w := by kernel_rfl
theorem build_brs1 (w : World) (p : Option Addr) : (Instr.buildSlice 50 1 #[(0, .agg #[.string ByteArray.empty, .pointer p])]).run Try.prog w = .ok (.slice (some ⟨w.heap.size, 0, none⟩) 1 1) (w.alloc (.cells #[.string ByteArray.empty, .pointer p] 75)) := by kernel_rfl
theorem build_node1 (w : World) (p : Option Addr) (n c : Nat) : (Instr.build 52 #[(1, .slice p n c)]).run Try.prog w = .ok (.agg #[.slice none 0 0, .slice p n c]) w := by kernel_rfl
/-- What growing leaves. -/
inductive GrOut (base : Nat) (w : World) (ro : Ro) (nd : Nat → Nd) (r H : Nat) (lv : Nat → List Br) (e : Ending) (w' : World) : Prop
  | mk (ro' : Ro) (nd' : Nat → Nd) (lv' : Nat → List Br) (dep' : Nat → Nat) (c : Nat) (he : e = .returned (.tuple #[])) (ts : TS base w' ro' nd' r (H + 1) lv' dep') (mt : MTo base w ro nd w' ro' nd') (en : ents nd' (lv' (H + 1)) = ents nd (lv H)) (hb : (nd' r).bs = [(ByteArray.empty, c)]) (hes : (nd' r).es = []) (hc : (nd' c).sz = 8)
theorem grow_end {base : Nat} {w W : World} {ro : Ro} {nd : Nat → Nd} {r H : Nat} {lv : Nat → List Br} {dep : Nat → Nat} (ts : TS base w ro nd r H lv dep) (h8 : (nd r).sz = 8) (hb : base ≤ w.heap.size) {f b2 c : Nat} (hf : w.heap.size ≤ f) (hb2 : w.heap.size ≤ b2) (hne : f ≠ b2) (hfr : Fr w W (fun k => k = r)) (h1 : W.heap[r]? = some (.cells (.slice none 0 0 :: .slice (some ⟨b2, 0, none⟩) 1 c :: (nd r).ex).toArray (nd r).ty (0, 0))) (h2 : W.heap[f]? = some (.cells ((nd r).ve :: (nd r).vb :: []).toArray 52 (0, 0))) (h3 : OwnN base W (.slice (some ⟨b2, 0, none⟩) 1 c) [(ByteArray.empty, f)]) :
    GrOut base w ro nd r H lv (.returned (.tuple #[])) W := by
  have hr := ts.toTM.root
  have mt := mem_grow ts.mem hr hb hf hb2 hne hfr h1 h2 h3
  have hrf : r ≠ f := by have := ts.mem.lt hr; omega
  generalize hnd : updN (updN nd r ⟨[], [(ByteArray.empty, f)], .slice none 0 0, .slice (some ⟨b2, 0, none⟩) 1 c, (nd r).ex, (nd r).ty⟩) f ⟨(nd r).es, (nd r).bs, (nd r).ve, (nd r).vb, [], 52⟩ = nd' at mt
  have ur : nd' r = ⟨[], [(ByteArray.empty, f)], .slice none 0 0, .slice (some ⟨b2, 0, none⟩) 1 c, (nd r).ex, (nd r).ty⟩ := by rw [← hnd, updN_other _ _ hrf, updN_same]
  have uf : nd' f = ⟨(nd r).es, (nd r).bs, (nd r).ve, (nd r).vb, [], 52⟩ := by rw [← hnd, updN_same]
  have uo : ∀ b, b ≠ r → b ≠ f → nd' b = nd b := fun b h1 h2 => by rw [← hnd, updN_other _ _ h2, updN_other _ _ h1]
  have hrof : roGrow ro r f b2 f = some (f, 0) := by unfold roGrow; rw [if_pos rfl]
  have hfresh := ts.toTM.fresh hf
  obtain ⟨lv', dep', hS, hE, l1, l2⟩ := ts.sh.grow hfresh (by rw [ur]) (by rw [ur]) (by rw [uf]) (by rw [uf]) uo
  have hnr : ∀ i, 0 < i → i ≤ H → ∀ p ∈ lv i, p.2 ≠ r := fun i h0 hi p hp e => by have := ts.sh.only_root hi hp e; omega
  refine .mk _ _ lv' dep' f rfl ⟨⟨mt.mem, hS, fun i hi p hp => ?_⟩, ⟨fun i h0 hi p hp => ?_, ?_⟩⟩ mt hE (by rw [ur]) (by rw [ur]) (by rw [uf]; exact h8)
  · rcases i with _ | _ | i
    · rw [hS.top] at hp; simp at hp; rw [hp]; exact mt.node r hr
    · rw [l1] at hp; simp at hp; rw [hp]; exact hrof
    · rw [l2 (i + 2) (by omega)] at hp
      exact mt.node _ (ts.inn _ (by omega) p hp)
  · rcases i with _ | _ | i
    · omega
    · rw [l1] at hp; simp at hp; rw [hp]; simp only; rw [uf]; show 4 ≤ (nd r).sz ∧ (nd r).sz ≤ 8; omega
    · rw [l2 (i + 2) (by omega)] at hp
      rw [uo _ (hnr _ (by omega) (by omega) p hp) (hfresh _ (by omega) p hp)]
      exact ts.sz _ (by omega) (by omega) p hp
  · rw [ur]; simp [Nd.sz]
set_option maxHeartbeats 2000000 in
theorem grow_any {base : Nat} {w : World} {ro : Ro} {nd : Nat → Nd} {r H : Nat} {lv : Nat → List Br} {dep : Nat → Nat} (ts : TS base w ro nd r H lv dep) (h8 : (nd r).sz = 8) (hb : base ≤ w.heap.size) :
    Calls Try.prog 36 #[pt r] w fun e w' => GrOut base w ro nd r H lv e w' := by
  have hr := ts.toTM.root
  have hN := ts.mem.at_ hr
  have hrl := ts.mem.lt hr
  have hblk := ts.mem.blk r hr
  have HE : Hid (∀ W f b2 c, w.heap.size ≤ f → w.heap.size ≤ b2 → f ≠ b2 → Fr w W (fun k => k = r) → W.heap[r]? = some (.cells (.slice none 0 0 :: .slice (some ⟨b2, 0, none⟩) 1 c :: (nd r).ex).toArray (nd r).ty (0, 0)) → W.heap[f]? = some (.cells ((nd r).ve :: (nd r).vb :: []).toArray 52 (0, 0)) → OwnN base W (.slice (some ⟨b2, 0, none⟩) 1 c) [(ByteArray.empty, f)] → GrOut base w ro nd r H lv (.returned (.tuple #[])) W) := fun W f b2 c x1 x2 x3 x4 x5 x6 x7 => grow_end ts h8 hb x1 x2 x3 x4 x5 x6 x7
  have c0 := hN.c0
  have c1 := hN.c1
  have f0 := hN.fz 0
  have f1 := hN.fz 1
  obtain ⟨ae, ce, hve, _, _⟩ := (ts.mem.rowE r hr).form
  obtain ⟨ab, cb, hvb, _, _⟩ := (ts.mem.rowB r hr).form
  rw [hve] at c0
  rw [hvb] at c1
  rw [hve, hvb] at hblk HE
  clear hve hvb
  generalize (nd r).es.length = ne at *
  generalize (nd r).bs.length = nb at *
  have hz := zero_node
  have h2 := build_br1
  have h3 := build_brs1
  have h4 := build_node1
  clear hN ts hr h8
  go_enter Try.func36, Try.ntmps36
  go_wp2_with fail
  refine bodyPost_ret (v := .tuple #[]) (by simp [results, Try.results36, go_sem]) rfl ?_
  have hs0 : ((w.setCell ⟨r, 0, none⟩ (.slice none 0 0)).setCell ⟨r, 1, none⟩ (.slice (some ⟨w.heap.size + 1, 0, none⟩) 1 1)).heap[r]? = some (.cells (.slice none 0 0 :: .slice (some ⟨w.heap.size + 1, 0, none⟩) 1 1 :: (nd r).ex).toArray (nd r).ty (0, 0)) := heap_set1 (heap_set0 hblk _) _
  have hs1 : Fr w ((w.setCell ⟨r, 0, none⟩ (.slice none 0 0)).setCell ⟨r, 1, none⟩ (.slice (some ⟨w.heap.size + 1, 0, none⟩) 1 1)) (fun k => k = r) := (fr_set w r 0 _).trans (fr_set _ r 1 _) (fun k hk => Or.inl hk)
  have hs2 : ((w.setCell ⟨r, 0, none⟩ (.slice none 0 0)).setCell ⟨r, 1, none⟩ (.slice (some ⟨w.heap.size + 1, 0, none⟩) 1 1)).heap.size = w.heap.size := by simp
  generalize (w.setCell ⟨r, 0, none⟩ (.slice none 0 0)).setCell ⟨r, 1, none⟩ (.slice (some ⟨w.heap.size + 1, 0, none⟩) 1 1) = X at *
  have hn1 : (X.alloc (.cells #[.slice ae ne ce, .slice ab nb cb] 52)).heap[w.heap.size]? = some (.cells #[.slice ae ne ce, .slice ab nb cb] 52 (0, 0)) := by have := heap_alloc_new X (.cells #[.slice ae ne ce, .slice ab nb cb] 52); rwa [hs2] at this
  have hz1 : (X.alloc (.cells #[.slice ae ne ce, .slice ab nb cb] 52)).heap.size = w.heap.size + 1 := by simp [hs2]
  have hx1 := Fr.alloc X (.cells #[.slice ae ne ce, .slice ab nb cb] 52) (fun k => k = r)
  have hr1 : (X.alloc (.cells #[.slice ae ne ce, .slice ab nb cb] 52)).heap[r]? = X.heap[r]? := heap_alloc_old X _ (by omega)
  generalize X.alloc (.cells #[.slice ae ne ce, .slice ab nb cb] 52) = Y at *
  refine HE.out _ w.heap.size (w.heap.size + 1) 1 (Nat.le_refl _) (by omega) (by omega) ((hs1.trans hx1 (fun k hk => Or.inl hk)).trans (Fr.alloc Y _ (fun k => k = r)) (fun k hk => Or.inl hk)) ?_ ?_ ?_
  · rw [heap_alloc_old Y _ (by omega), hr1]; exact hs0
  · rw [heap_alloc_old Y _ (by omega)]; exact hn1
  · refine ⟨rfl, Or.inr ⟨w.heap.size + 1, 1, #[.string ByteArray.empty, .pointer (some ⟨w.heap.size, 0, none⟩)], rfl, by omega, ?_, Nat.le_refl _, by unfold maxLen; omega, rfl, rfl⟩⟩
    have := heap_alloc_new Y (.cells #[.string ByteArray.empty, .pointer (some ⟨w.heap.size, 0, none⟩)] 75)
    rwa [hz1] at this
/-- What shrinking leaves. -/
inductive ShOut (base : Nat) (w : World) (ro : Ro) (nd : Nat → Nd) (r H : Nat) (lv : Nat → List Br) (e : Ending) (w' : World) : Prop
  | mk (ro' : Ro) (nd' : Nat → Nd) (H' : Nat) (lv' : Nat → List Br) (dep' : Nat → Nat) (he : e = .returned (.tuple #[])) (ts : TS base w' ro' nd' r H' lv' dep') (en : ents nd' (lv' H') = ents nd (lv H)) (hfr : Fr w w' (fun k => ro k ≠ none)) (hgr : ∀ k, ro' k ≠ none → ro k ≠ none) (hex : (nd' r).ex = (nd r).ex ∧ (nd' r).ty = (nd r).ty) (h2 : 0 < H' → 2 ≤ (nd' r).bs.length)
theorem shrink_end {base : Nat} {w W : World} {ro : Ro} {nd : Nat → Nd} {r H : Nat} {lv : Nat → List Br} {dep : Nat → Nat} (ts : TS base w ro nd r H lv dep) {lo : ByteArray} {c : Nat} (hb : (nd r).bs = [(lo, c)]) (hfr : Fr w W (fun k => k = r)) (h1 : W.heap[r]? = some (.cells ((nd c).ve :: (nd c).vb :: (nd r).ex).toArray (nd r).ty (0, 0))) :
    ShOut base w ro nd r H lv (.returned (.tuple #[])) W := by
  have hr := ts.toTM.root
  obtain ⟨H', rfl⟩ : ∃ H', H = H' + 1 := by
    rcases H with _ | H
    · have := ts.sh.leaf (ByteArray.empty, r) (by rw [ts.sh.top]; simp)
      simp only at this; rw [hb] at this; cases this
    · exact ⟨H, rfl⟩
  have hl1 : lv 1 = [(lo, c)] := by rw [ts.sh.nx 0 (by omega), ts.sh.top, next_cons, next_nil]; simp [hb]
  have hcm : (lo, c) ∈ lv 1 := by rw [hl1]; simp
  have hc : ro c = some (c, 0) := ts.inn 1 (by omega) _ hcm
  have hrc : r ≠ c := fun e => by have := ts.sh.only_root (by omega) hcm e.symm; omega
  obtain ⟨hm', hn', hg'⟩ := mem_shrink ts.mem hr hc hrc hfr h1
  obtain ⟨lv', dep', hS, hE, _, l2⟩ := ts.sh.shrink (nd' := updN nd r ⟨(nd c).es, (nd c).bs, (nd c).ve, (nd c).vb, (nd r).ex, (nd r).ty⟩) hb (by rw [updN_same]) (by rw [updN_same]) (fun b h1 h2 => updN_other _ _ h1)
  have hcs := ts.sz 1 (by omega) (by omega) _ hcm
  simp only at hcs
  have hnc : ∀ i, 1 < i → i ≤ H' + 1 → ∀ p ∈ lv i, p.2 ≠ c ∧ p.2 ≠ r := fun i h0 hi p hp => by
    have d1 := ts.sh.dp i hi p hp
    have d2 := ts.sh.dp 1 (by omega) _ hcm
    have d3 := ts.sh.dp 0 (by omega) (ByteArray.empty, r) (by rw [ts.sh.top]; simp)
    simp only at d2 d3
    exact ⟨fun e => by rw [e] at d1; omega, fun e => by rw [e] at d1; omega⟩
  refine .mk _ _ H' lv' dep' rfl ⟨⟨hm', hS, fun i hi p hp => ?_⟩, ⟨fun i h0 hi p hp => ?_, ?_⟩⟩ hE (hfr.mono (fun k hk => by rw [hk, hr]; simp)) hg' (by rw [updN_same]; exact ⟨rfl, rfl⟩) (fun h0 => ?_)
  · rcases i with _ | i
    · rw [hS.top] at hp; simp at hp; rw [hp]; exact hn' r hr hrc
    · rw [l2 (i + 1) (by omega)] at hp
      exact hn' _ (ts.inn _ (by omega) p hp) (hnc _ (by omega) (by omega) p hp).1
  · rw [l2 i h0] at hp
    rw [updN_other _ _ (hnc _ (by omega) (by omega) p hp).2]
    exact ts.sz _ (by omega) (by omega) p hp
  · rw [updN_same]; exact hcs.2
  · rw [updN_same]
    have he := (ts.sh.inner 1 (by omega) _ hcm).1
    simp only at he
    unfold Nd.sz at hcs
    rw [he, List.length_nil] at hcs
    show 2 ≤ (nd c).bs.length
    omega
set_option maxHeartbeats 2000000 in
theorem shrink_any {base : Nat} {w : World} {ro : Ro} {nd : Nat → Nd} {r H : Nat} {lv : Nat → List Br} {dep : Nat → Nat} (ts : TS base w ro nd r H lv dep) :
    Calls Try.prog 43 #[pt r] w fun e w' => ShOut base w ro nd r H lv e w' := by
  have hr := ts.toTM.root
  have hN := ts.mem.at_ hr
  have hrl := ts.mem.lt hr
  have hblk := ts.mem.blk r hr
  have c1 := hN.c1
  have htop := ts.top
  have hbl := bs_le (nd r)
  have hrow := ts.mem.rowB r hr
  by_cases h1 : (nd r).bs.length = 1
  · obtain ⟨lo, c, hbs⟩ : ∃ lo c, (nd r).bs = [(lo, c)] := by
      cases hb : (nd r).bs with
      | nil => rw [hb] at h1; simp at h1
      | cons x t => rw [hb] at h1; simp at h1; subst h1; exact ⟨x.1, x.2, rfl⟩
    have HE : Hid (∀ W, Fr w W (fun k => k = r) → W.heap[r]? = some (.cells ((nd c).ve :: (nd c).vb :: (nd r).ex).toArray (nd r).ty (0, 0)) → ShOut base w ro nd r H lv (.returned (.tuple #[])) W) := fun W x1 x2 => shrink_end ts hbs x1 x2
    obtain ⟨H', rfl⟩ : ∃ H', H = H' + 1 := by
      rcases H with _ | H
      · have := ts.sh.leaf (ByteArray.empty, r) (by rw [ts.sh.top]; simp)
        simp only at this; rw [hbs] at this; cases this
      · exact ⟨H, rfl⟩
    have hl1 : lv 1 = [(lo, c)] := by rw [ts.sh.nx 0 (by omega), ts.sh.top, next_cons, next_nil]; simp [hbs]
    have hc : ro c = some (c, 0) := ts.inn 1 (by omega) (lo, c) (by rw [hl1]; simp)
    have hC := ts.mem.at_ hc
    obtain ⟨g, cap, hv, _, _⟩ := hrow.at_ (by omega)
    rw [hv] at hrow c1
    have q1 : w.cell? ⟨g, 1, none⟩ = some (pt c) := by
      have := hrow.cell (cB_len _) 0 (by omega) 1 (by omega)
      simpa [hbs, cB] using this
    rw [h1] at c1
    obtain ⟨ae, ce, hve, _, _⟩ := (ts.mem.rowE c hc).form
    obtain ⟨ab, cb, hvb, _, _⟩ := (ts.mem.rowB c hc).form
    obtain ⟨ae0, ce0, hve0, _, _⟩ := (ts.mem.rowE r hr).form
    have d0 := hC.c0
    have d1 := hC.c1
    have c0 := hN.c0
    have f0 := hN.fz 0
    have f1 := hN.fz 1
    rw [hve] at d0
    rw [hvb] at d1
    rw [hve, hvb] at HE
    rw [hve0] at c0 hblk
    rw [hv, h1] at hblk
    clear hve hvb hve0 hN hC hrow hv ts hr hc hl1 htop hbl h1
    generalize (nd c).es.length = ne at *
    generalize (nd c).bs.length = nb at *
    generalize (nd r).es.length = ne0 at *
    go_enter Try.func43, Try.ntmps43
    go_wp2
    refine bodyPost_ret (v := .tuple #[]) (by simp [results, Try.results43, go_sem]) rfl ?_
    refine HE.out _ ((fr_set w r 0 _).trans (fr_set _ r 1 _) (fun k hk => Or.inl hk)) ?_
    exact heap_set1 (heap_set0 hblk _) _
  · have HE : Hid (ShOut base w ro nd r H lv (.returned (.tuple #[])) w) := by
      refine .mk ro nd H lv dep rfl ts rfl (Fr.refl _ _) (fun k hk => hk) ⟨rfl, rfl⟩ (fun h0 => ?_)
      obtain ⟨_, x, t, hb⟩ := ts.sh.inner 0 h0 (ByteArray.empty, r) (by rw [ts.sh.top]; simp)
      simp only at hb
      rw [hb] at h1 ⊢
      simp at h1 ⊢
      cases t with
      | nil => simp at h1
      | cons y t => simp
    obtain ⟨ab, cb, hvb, _, _⟩ := hrow.form
    rw [hvb] at c1
    have hz : (((nd r).bs.length : Int) == 1) = false := by simp; omega
    clear hvb hN hrow ts hr hblk
    generalize (nd r).bs.length = nb at *
    have hz2 : ¬ ((nb : Int) = 1) := by omega
    go_enter Try.func43, Try.ntmps43
    go_wp2
    refine bodyPost_ret (v := .tuple #[]) (by simp [results, Try.results43, go_sem]) rfl ?_
    exact HE.out
end Go.Proofs.Ytfobcnmhghfanaa
