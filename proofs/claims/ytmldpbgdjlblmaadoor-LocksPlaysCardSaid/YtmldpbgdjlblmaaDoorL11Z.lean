/- Who keeps a request waiting, one by one: against's closure. -/
import Derived.Test.YtmldpbgdjlblmaaDoorL11YX
namespace Go.Proofs.YtmldpbgdjlblmaaDoor
open Go.RowKit Go.Maps Go.Shelf
set_option linter.unusedVariables false
set_option linter.unusedSimpArgs false
attribute [local go_sem] Oper.semAt_some

/-- Where against's loop stands. -/
structure AgI (J : List Nat → World → Prop) (ct : Nat → Bool) (B : Nat) (w2 : World) (pre : List Nat) (V : World) : Prop where
  j : J (pre.filter ct) V
  pv : ∀ b, B ≤ b → b < w2.heap.size → V.heap[b]? = w2.heap[b]?
  sz : w2.heap.size ≤ V.heap.size
theorem AgI.own {J : List Nat → World → Prop} {ct : Nat → Bool} {B : Nat} {w2 : World} (hJ : OwnFrom B J) (hB : B ≤ w2.heap.size) : OwnFrom w2.heap.size (AgI J ct B w2) := fun pre A C row hs hg hr =>
  ⟨hJ _ A C row hs.j hg (fun r e => ⟨by have := (hr r e).1; omega, (hr r e).2⟩), fun b h1 h2 => (hg.block b (by have := hs.sz; omega) (fun e => by have := (hr b e.symm).1; omega)).trans (hs.pv b h1 h2), Nat.le_trans hs.sz hg.size⟩
theorem BoxQ.of_block {W W' : World} {b : Nat} {r : Rq} (h : BoxQ W b r) (e : W'.heap[b]? = W.heap[b]?) : BoxQ W' b r :=
  have f := fun (o : Nat) (v : Value) (hc : W.cell? ⟨b, o, none⟩ = some v) => (World.cell?_of_block (w := W) (w' := W') (a := ⟨b, o, none⟩) e).trans hc
  ⟨f _ _ h.c0, f _ _ h.c1, f _ _ h.c2, f _ _ h.c3, f _ _ h.c4, f _ _ h.c5, f _ _ h.c6, f _ _ h.c7, f _ _ h.c8⟩
theorem BoxQ.kept {W W' : World} {b : Nat} {r : Rq} {row : Option Nat} (h : BoxQ W b r) (hg : W.grownBy W' row) (hr : ∀ k, row = some k → ∃ o : Obj, W.heap[k]? = some o ∧ o.isCells = false) : BoxQ W' b r :=
  ⟨cell_kept h.c0 hg hr, cell_kept h.c1 hg hr, cell_kept h.c2 hg hr, cell_kept h.c3 hg hr, cell_kept h.c4 hg hr, cell_kept h.c5 hg hr, cell_kept h.c6 hg hr, cell_kept h.c7 hg hr, cell_kept h.c8 hg hr⟩
theorem round_any {n m l l' : Nat} {P : Program} {f : FuncId} {tmps : Array Value} {assign body : Code} {w : World} {R : Ending → World → Prop} (h : RoundIn Fence.wide n P l f tmps assign body w R) : RoundIn (Fence.wide.inRound l') m P l f tmps assign body w R := ⟨h.1, fun c cs _ => h.2 c cs (room_wide _)⟩
theorem fil_ag {L : List Rq} {i k : Nat} {x : Rq} {conv : Bool} (hx : atR L i = x) (hc : cvP L x = conv) : (fil (fun r => clP r x) L k).filter (fun j => (atR L j).gr || (decide (j < i) && !conv)) = fbk L i k := by
  subst hx hc
  exact fbk_fil L i k
set_option maxRecDepth 100000 in
set_option maxHeartbeats 4000000 in
/-- against's closure. -/
theorem against1_in {w : World} {t Bt Ba : Nat} {most : Int} {ao : Option Addr} {cap : Nat} {L : List Rq} (hQ : QTab w t most ao cap L) (hL : LibW w) (hlen : L.length ≤ 100000) {i : Nat} (hi : i < L.length) (hbt : w.cell? ⟨Bt, 0, none⟩ = some (.pointer (some ⟨t, 0, none⟩))) (hba : w.cell? ⟨Ba, 0, none⟩ = some (.int .i64 i)) (n : Nat) (hn : 6 ≤ n) :
    SeqM Fence.wide n Tryd.prog 63 #[.pointer (some ⟨Bt, 0, none⟩), .pointer (some ⟨Ba, 0, none⟩)] (fun k => #[.int .i64 (atR L k).tx]) (fun _ W => Below w.heap.size w W) (fun ys => ys = fbk L i L.length) (fun pre => ∃ k, k ≤ L.length ∧ pre = fbk L i k) 100000 w := by
  intro l J Jx W hW hJ hJx hRd hY h0
  have hmf : ∀ (fn : Fn) (first cap : Array Value) (w : World), (Instr.makeFunc fn first cap).run Tryd.prog w = .ok (.func fn first cap) w := fun _ _ _ _ => rfl
  refine callsIn_of_wp_marks Tryd.func63 rfl trivial ?_ rfl
  simp only [Tryd.ntmps63, List.size_toArray, List.length_cons, List.length_nil, Nat.reduceAdd, Nat.reduceSub, Array.replicate_succ, Array.replicate_zero, List.push_toArray, List.append_toArray, List.nil_append, List.cons_append]
  have hyb : Below W.heap.size W (W.alloc (.cells #[.func (.yield l) #[] #[]] 47)) := (Below.refl _ _).alloc (Nat.le_refl _) _
  have hwy := keepA hW hyb
  have c0 := cell_keep hwy hbt
  have c1 := cell_keep hwy hba
  have hQy := hQ.keep hwy
  have hLy := hL.keep hwy
  have cy := (cell_new_l W (.func (.yield l) #[] #[]) 47).1
  obtain ⟨g, rfl, hq⟩ := hQy.at_ hi
  rw [← atR_lt hi] at hq
  have cl := hQy.l
  have hle := hQy.le
  have hi2 : (i : Int) < (L.length : Int) := by omega
  have HC : Hid (∀ W', Below (W.alloc (.cells #[.func (.yield l) #[] #[]] 47)).heap.size (W.alloc (.cells #[.func (.yield l) #[] #[]] 47)) W' → Calls Tryd.prog 64 #[.pointer (some ⟨t, 0, none⟩), .int .i64 i] W' fun e w' => e = .returned (.bool (cvP L (atR L i))) ∧ Below W'.heap.size W' w') := fun W' hb => pconv_any (hQy.keep hb) hlen hi
  have HK : Hid (∀ W', Below (W.alloc (.cells #[.func (.yield l) #[] #[]] 47)).heap.size (W.alloc (.cells #[.func (.yield l) #[] #[]] 47)) W' → Below (W.alloc (.cells #[.func (.yield l) #[] #[]] 47)).heap.size (W.alloc (.cells #[.func (.yield l) #[] #[]] 47)) W' ∧ W'.cell? ⟨Bt, 0, none⟩ = some (.pointer (some ⟨t, 0, none⟩)) ∧ W'.cell? ⟨Ba, 0, none⟩ = some (.int .i64 i) ∧ W'.cell? ⟨t, 1, none⟩ = some (.slice (some ⟨g, 0, none⟩) L.length cap) ∧ RqAt W' g i (atR L i)) := fun W' hb => ⟨hb, cell_keep hb c0, cell_keep hb c1, cell_keep hb cl, hq.keep hb⟩
  generalize hx : atR L i = x at *
  generalize hcv : cvP L x = conv at *
  generalize hWy : W.alloc (.cells #[.func (.yield l) #[] #[]] 47) = Wy at *
  have hsy : Wy.heap.size = W.heap.size + 1 := by rw [← hWy]; simp
  gi_wp2_with fail
  clear hWy
  gi_cut [4, 5] from 10 (fun v4 v5 wc => ∃ b4 b5, v4 = .pointer (some ⟨b4, 0, none⟩) ∧ v5 = .pointer (some ⟨b5, 0, none⟩) ∧ BoxQ wc b4 x ∧ wc.cell? ⟨b5, 0, none⟩ = some (.bool conv) ∧ Wy.heap.size ≤ b4 ∧ Wy.heap.size ≤ b5 ∧ Below Wy.heap.size Wy wc)
  case first =>
    refine wpIn_wide.2 ?_
    obtain ⟨xt, ⟨sa, ta, la, ua, na⟩, xm, xg, xs⟩ := x
    obtain ⟨q0, q1, q2, q3, q4, q5, q6, q7, q8⟩ := hq
    simp only at q0 q1 q2 q3 q4 q5 q6 q7 q8
    clear hJ hJx hRd hY h0 hQ hL hW hyb hwy hQy hLy cy hbt hba hsy
    have hkK : ∀ W', Below Wy.heap.size Wy W' → Below Wy.heap.size Wy W' ∧ W'.cell? ⟨Bt, 0, none⟩ = some (.pointer (some ⟨t, 0, none⟩)) ∧ W'.cell? ⟨Ba, 0, none⟩ = some (.int .i64 i) ∧ W'.cell? ⟨t, 1, none⟩ = some (.slice (some ⟨g, 0, none⟩) L.length cap) ∧ W'.cell? ⟨g, i * 9, none⟩ = some (.int .i64 xt) ∧ W'.cell? ⟨g, i * 9 + 1, none⟩ = some (.int .i64 sa) ∧ W'.cell? ⟨g, i * 9 + 2, none⟩ = some (.string ta) ∧ W'.cell? ⟨g, i * 9 + 3, none⟩ = some (.string la) ∧ W'.cell? ⟨g, i * 9 + 4, none⟩ = some (.string ua) ∧ W'.cell? ⟨g, i * 9 + 5, none⟩ = some (.bool na) ∧ W'.cell? ⟨g, i * 9 + 6, none⟩ = some (.int .i64 xm) ∧ W'.cell? ⟨g, i * 9 + 7, none⟩ = some (.bool xg) ∧ W'.cell? ⟨g, i * 9 + 8, none⟩ = some (.bool xs) := fun W' hb => ⟨hb, cell_keep hb c0, cell_keep hb c1, cell_keep hb cl, cell_keep hb q0, cell_keep hb q1, cell_keep hb q2, cell_keep hb q3, cell_keep hb q4, cell_keep hb q5, cell_keep hb q6, cell_keep hb q7, cell_keep hb q8⟩
    have HKK := Hid.mk' hkK
    clear hkK HK
    go_region_held3 (fun W' => Below Wy.heap.size Wy W' ∧ W'.cell? ⟨Bt, 0, none⟩ = some (.pointer (some ⟨t, 0, none⟩)) ∧ W'.cell? ⟨Ba, 0, none⟩ = some (.int .i64 i) ∧ W'.cell? ⟨t, 1, none⟩ = some (.slice (some ⟨g, 0, none⟩) L.length cap) ∧ W'.cell? ⟨g, i * 9, none⟩ = some (.int .i64 xt) ∧ W'.cell? ⟨g, i * 9 + 1, none⟩ = some (.int .i64 sa) ∧ W'.cell? ⟨g, i * 9 + 2, none⟩ = some (.string ta) ∧ W'.cell? ⟨g, i * 9 + 3, none⟩ = some (.string la) ∧ W'.cell? ⟨g, i * 9 + 4, none⟩ = some (.string ua) ∧ W'.cell? ⟨g, i * 9 + 5, none⟩ = some (.bool na) ∧ W'.cell? ⟨g, i * 9 + 6, none⟩ = some (.int .i64 xm) ∧ W'.cell? ⟨g, i * 9 + 7, none⟩ = some (.bool xg) ∧ W'.cell? ⟨g, i * 9 + 8, none⟩ = some (.bool xs))
      ((refine HKK.out _ ?_; first | with_reducible assumption | with_reducible exact (Below.refl _ _).drew | with_reducible exact Below.refl _ _ | with_reducible exact (keepA1 (Below.refl _ _) _).drew | with_reducible exact (keepA2 (Below.refl _ _) _ _).drew | with_reducible exact keepAl (by with_reducible assumption) _ | with_reducible exact keepA2 hk' _ _ | with_reducible exact keepA1 hk' _ | with_reducible exact keep9 (keepA1 hk' _) (Nat.le_refl _) | with_reducible exact keep9 hk' (Nat.le_refl _) | with_reducible exact keep9 hk' (Nat.le_succ _) | with_reducible exact keep1 (keep9 (keepA1 hk' _) (Nat.le_refl _)) hsz | with_reducible exact keep1 (keepA1 hk' _) (Nat.le_refl _) | with_reducible exact keep1 (keep9 hk' (Nat.le_refl _)) (Nat.le_succ _) | with_reducible exact keep1 (keep9 hk' (Nat.le_succ _)) (Nat.le_refl _)))
      ((go_at_call 64; refine (HC.out _ (And.left (by assumption))).mono ?_; rintro e w' ⟨rfl, hb⟩; have hk' := keepF11 (by assumption) hb; have hsz := hk'.size; have hsz2 := hb.size; first | (have hb1 : Below ((Wy.alloc zq.box).drew).heap.size ((Wy.alloc zq.box).drew) w' := (by with_reducible exact hb); have Z := all9 (z9_keep2 hb1 (b := Wy.heap.size) (World.alloc_heap_new Wy _)); obtain ⟨z0, z1, z2, z3, z4, z5, z6, z7, z8, zf⟩ := Z; clear hb1; have hne := (ne_size hsz2).1; have hne2 := (ne_size hsz2).2) | (have hb1 : Below ((Wy.alloc (.cells #[.bool false] 4)).drew).heap.size ((Wy.alloc (.cells #[.bool false] 4)).drew) w' := (by with_reducible exact hb); have Y := all1 (f1_keep2 hb1 (b := Wy.heap.size) (World.alloc_heap_new Wy _)); obtain ⟨y0, yf⟩ := Y; clear hb1; have hne := (ne_size hsz2).1; have hne2 := (ne_size hsz2).2) | (have hb1 : Below (((Wy.alloc zq.box).alloc (.cells #[.bool false] 4)).drew).heap.size (((Wy.alloc zq.box).alloc (.cells #[.bool false] 4)).drew) w' := (by with_reducible exact hb); have Z := z9_keep hb1 (b := Wy.heap.size) ((Below.heap_alloc (Wy.alloc zq.box) _ _ (by simp)).trans (World.alloc_heap_new Wy _)); obtain ⟨z0, z1, z2, z3, z4, z5, z6, z7, z8, zf⟩ := Z; have Y := f1_keep hb1 (b := Wy.heap.size + 1) (new_at1 Wy _ _); obtain ⟨y0, yf⟩ := Y; clear hb1) | (have hb1 : Below (((Wy.alloc (.cells #[.bool false] 4)).alloc zq.box).drew).heap.size (((Wy.alloc (.cells #[.bool false] 4)).alloc zq.box).drew) w' := (by with_reducible exact hb); have Y := f1_keep hb1 (b := Wy.heap.size) ((Below.heap_alloc (Wy.alloc (.cells #[.bool false] 4)) _ _ (by simp)).trans (World.alloc_heap_new Wy _)); obtain ⟨y0, yf⟩ := Y; have Z := z9_keep hb1 (b := Wy.heap.size + 1) (new_at1 Wy _ _); obtain ⟨z0, z1, z2, z3, z4, z5, z6, z7, z8, zf⟩ := Z; clear hb1) | skip; clear hb))
    all_goals (try refine NoPanic.normal ?_)
    all_goals gi_wp2
    all_goals
      gi_meet
      case rel =>
        refine ⟨_, _, rfl, rfl, ⟨by go_simp, by go_simp, by go_simp, by go_simp, by go_simp, by go_simp, by go_simp, by go_simp, by go_simp⟩, by go_simp, ?_, ?_, ?_⟩
        · first | exact hsz | exact Nat.le_refl _ | exact Nat.le_succ _ | omega
        · first | exact hsz | exact Nat.le_refl _ | exact Nat.le_succ _ | omega
        · first | with_reducible assumption | with_reducible exact (Below.refl _ _).drew | with_reducible exact Below.refl _ _ | with_reducible exact (keepA1 (Below.refl _ _) _).drew | with_reducible exact (keepA2 (Below.refl _ _) _ _).drew | with_reducible exact keepAl (by with_reducible assumption) _ | with_reducible exact keepA2 hk' _ _ | with_reducible exact keepA1 hk' _ | with_reducible exact keep9 (keepA1 hk' _) (Nat.le_refl _) | with_reducible exact keep9 hk' (Nat.le_refl _) | with_reducible exact keep9 hk' (Nat.le_succ _) | with_reducible exact keep1 (keep9 (keepA1 hk' _) (Nat.le_refl _)) hsz | with_reducible exact keep1 (keepA1 hk' _) (Nat.le_refl _) | with_reducible exact keep1 (keep9 hk' (Nat.le_refl _)) (Nat.le_succ _) | with_reducible exact keep1 (keep9 hk' (Nat.le_succ _)) (Nat.le_refl _)
  case rest =>
    obtain ⟨b4, b5, rfl, rfl, hbx, hbv, h4, h5, hby⟩ := hcut
    have hmf : ∀ (fn : Fn) (first cap : Array Value) (w : World), (Instr.makeFunc fn first cap).run Tryd.prog w = .ok (.func fn first cap) w := fun _ _ _ _ => rfl
    have c2 := cell_keep hby c0
    clear HC HK
    gi_wp2_with fail
    refine ⟨trivial, fun _ => by omega, (callsIn_wide.2 (those_any _ _ _ _)).mono ?_⟩
    rintro e w2 ⟨rfl, hw2⟩
    obtain ⟨d1, d2, hb1⟩ := box_two wc (.pointer (some ⟨t, 0, none⟩)) (.func (.func 65) #[] #[.pointer (some ⟨b4, 0, none⟩)]) 23 69
    rw [← hw2] at d1 d2 hb1
    have hs2 : w2.heap.size = wc.heap.size + 2 := by rw [hw2]; simp
    clear hw2
    gi_wp2_with fail
    have hyW : Wy.heap.size = W.heap.size + 1 := hsy
    have hbW : Below W.heap.size W w2 := hyb.trans ((keepA hby hb1).mono (by omega))
    have hsz : W.heap.size + 1 ≤ wc.heap.size := by have := hby.size; omega
    have hbx2 := hbx.keep hb1
    have hbv2 := cell_keep hb1 hbv
    have cy2 := cell_keep (keepA hby hb1) cy
    have hb4 : b4 < w2.heap.size := World.block_lt_of_cell? w2 _ hbx2.c0
    have hb5 : b5 < w2.heap.size := World.block_lt_of_cell? w2 _ hbv2
    have HX : Hid (atR L i = x) := hx
    have HCV : Hid (cvP L x = conv) := hcv
    have hAgI : ∀ V (pre : List Nat), AgI (J w2.heap.size) (fun j => (atR L j).gr || (decide (j < i) && !conv)) W.heap.size w2 pre V → ThRd V wc.heap.size (wc.heap.size + 1) t (some ⟨g, 0, none⟩) L (fun r => clP r x) 65 #[.pointer (some ⟨b4, 0, none⟩)] pre := fun V pre hA => by
      have hbV : Below w.heap.size w V := hRd _ _ _ hA.j
      refine ⟨(World.cell?_of_block (a := ⟨wc.heap.size, 0, none⟩) (hA.pv wc.heap.size (by omega) (by omega))).trans d1, (World.cell?_of_block (a := ⟨wc.heap.size + 1, 0, none⟩) (hA.pv (wc.heap.size + 1) (by omega) (by omega))).trans d2, fun k hk _ => ?_, fun r => ?_⟩
      · obtain ⟨g', e', hq'⟩ := (hQ.keep hbV).at_ hk
        exact ⟨g', e', by rw [atR_lt hk]; exact hq'⟩
      · exact blocks_fn r x (hbx2.of_block (hA.pv b4 (by omega) hb4)) (hL.keep hbV)
    refine wpIn_rangeX (F := Fence.wide) (n := n) rfl (by omega) (gf := 60) (lb := #[.pointer (some ⟨wc.heap.size, 0, none⟩), .pointer (some ⟨wc.heap.size + 1, 0, none⟩)]) rfl trivial enters_those1
      (those_seq (n - 1) (by omega) wc.heap.size (wc.heap.size + 1) t hQy.le hlen (fun r => clP r x) 65 #[.pointer (some ⟨b4, 0, none⟩)] enters_b1 w2 (cell_keep (keepA hby hb1) cl)) (Below.refl _ _) (fun _ => rfl)
      (AgI (J w2.heap.size) (fun j => (atR L j).gr || (decide (j < i) && !conv)) W.heap.size w2)
      (fun c (pre : List Nat) V => c = .ret ∧ Jx (pre.filter fun j => (atR L j).gr || (decide (j < i) && !conv)) V)
      (AgI.own (hJ _) (by omega))
      (fun c s A C row hs hg' hr => ⟨hs.1, hJx _ A C row hs.2 hg' (fun r e => ⟨by have := (hr r e).1; omega, (hr r e).2⟩)⟩)
      (fun pre V hA => hAgI V pre hA)
      ⟨h0 _ w2 hbW (by omega) (Nat.le_refl _), fun _ _ _ => rfl, Nat.le_refl _⟩
      (fun (k : Nat) a' V => ∃ b8, BoxQ V b8 (atR L k) ∧ a' = { tmps := #[.func (.yield l) #[] #[], .pointer (some ⟨Bt, 0, none⟩), .pointer (some ⟨Ba, 0, none⟩), .pointer (some ⟨W.heap.size, 0, none⟩), .pointer (some ⟨b4, 0, none⟩), .pointer (some ⟨b5, 0, none⟩), .func (.func 65) #[] #[.pointer (some ⟨b4, 0, none⟩)], .int .i64 (k : Int), .pointer (some ⟨b8, 0, none⟩), undef, u10, u11, u12, u13, u14, u15, u16, u17, u18, u19, .func (.func 65) #[] #[.pointer (some ⟨b4, 0, none⟩)], .pointer (some ⟨t, 0, none⟩), .func (.func 65) #[] #[.pointer (some ⟨b4, 0, none⟩)], .func (.func 60) #[] #[.pointer (some ⟨wc.heap.size, 0, none⟩), .pointer (some ⟨wc.heap.size + 1, 0, none⟩)], .int .i64 (k : Int), (atR L k).v, u26, u27, u28, u29, u30, u31, u32, u33, u34, u35, u36, u37, u38, u39, u40, u41, u42, u43, u44], defers := [] })
      (fun k a' => Own.from (fun s A C row hs hg' hr => by obtain ⟨b8, hq8, ha⟩ := hs; exact ⟨b8, hq8.kept hg' hr, ha⟩) _)
      ?assign ?body ?done ?stop
    case assign =>
      intro l' pre k V K hI hK
      have hbq := BoxQ.new V (atR L k)
      have hI2 := (AgI.own (hJ w2.heap.size) (show W.heap.size ≤ w2.heap.size by omega)).alloc (atR L k).box hI
      have hk2 := fun a' h => hK a' (V.alloc (atR L k).box) ((KeepsOthers.alloc V _).from _) hI2 h
      clear hK
      show Code.wpIn _ _ _ _ _ _ _
      unfold encR
      generalize atR L k = r at *
      obtain ⟨xt, ⟨sa, ta, la, ua, na⟩, xm, xg, xs⟩ := r
      gi_wp2
    case body =>
      rintro l' pre k a' V _ hI ⟨b8, hq8, rfl⟩ hlt
      have hTh := hAgI V pre hI
      have cyV := (World.cell?_of_block (a := ⟨W.heap.size, 0, none⟩) (hI.pv W.heap.size (Nat.le_refl _) (by omega))).trans cy2
      have cbV := (World.cell?_of_block (a := ⟨b5, 0, none⟩) (hI.pv b5 (by omega) hb5)).trans hbv2
      have caV := cell_keep (hRd _ _ _ hI.j) hba
      have hfl : (pre.filter fun j => (atR L j).gr || (decide (j < i) && !conv)).length < 100000 := Nat.lt_of_le_of_lt (List.length_filter_le _ _) hlt
      have hYk := hY w2.heap.size _ k V (by omega) hI.sz hI.j hfl
      have hpyes : ((atR L k).gr || (decide (k < i) && !conv)) = true → (pre ++ [k]).filter (fun j => (atR L j).gr || (decide (j < i) && !conv)) = pre.filter (fun j => (atR L j).gr || (decide (j < i) && !conv)) ++ [k] := fun h => by rw [List.filter_append, List.filter_cons_of_pos (by simpa using h), List.filter_nil]
      have hpno : ((atR L k).gr || (decide (k < i) && !conv)) = false → (pre ++ [k]).filter (fun j => (atR L j).gr || (decide (j < i) && !conv)) = pre.filter (fun j => (atR L j).gr || (decide (j < i) && !conv)) := fun h => by rw [List.filter_append, List.filter_cons_of_neg (by simpa using h), List.filter_nil, List.append_nil]
      have hend : ∀ V', J w2.heap.size ((pre ++ [k]).filter (fun j => (atR L j).gr || (decide (j < i) && !conv))) V' → KeepsFrom W.heap.size V V' → (∀ b, W.heap.size ≤ b → b < w2.heap.size → V'.heap[b]? = V.heap[b]?) → KeepsFrom w2.heap.size V V' ∧ AgI (J w2.heap.size) (fun j => (atR L j).gr || (decide (j < i) && !conv)) W.heap.size w2 (pre ++ [k]) V' := fun V' h1 h2 h3 => ⟨⟨h2.size, fun b o hb ho hc => h2.same b o (by omega) ho hc⟩, h1, fun b hb1 hb2 => (h3 b hb1 hb2).trans (hI.pv b hb1 hb2), Nat.le_trans hI.sz h2.size⟩
      have HE := Hid.mk' hend
      have hIJ := hI.j
      clear hend hTh hAgI hI hY h0 hlt hfl
      generalize hF : (pre ++ [k]).filter (fun j => (atR L j).gr || (decide (j < i) && !conv)) = F1 at *
      generalize pre.filter (fun j => (atR L j).gr || (decide (j < i) && !conv)) = F0 at *
      generalize atR L k = r at *
      obtain ⟨q0, q1, q2, q3, q4, q5, q6, q7, q8⟩ := hq8
      obtain ⟨xt, ⟨sa, ta, la, ua, na⟩, xm, xg, xs⟩ := r
      simp only at q0 q1 q2 q3 q4 q5 q6 q7 q8 hpyes hpno hYk
      have hyes : F1 = F0 ++ [k] → (YieldAt Fence.wide (n - 1) Tryd.prog l #[.int .i64 xt] V fun e W' => (e = .returned (.bool true) ∧ J w2.heap.size F1 W' ∧ KeepsFrom W.heap.size V W' ∧ ∀ b, W.heap.size ≤ b → b < w2.heap.size → W'.heap[b]? = V.heap[b]?) ∨ (e = .returned (.bool false) ∧ Jx F1 W' ∧ KeepsFrom W.heap.size V W')) := fun e => by rw [e]; exact hYk
      clear hYk
      cases xg with
      | true =>
        have hF1 := hpyes rfl
        obtain ⟨fn, tmps, assign, body, hy, hR⟩ := hyes hF1
        clear hyes hpyes hpno
        gi_wp2_with fail
        refine ⟨fun _ => by omega, (round_any hR).mono ?_⟩
        rintro e W3 hor
        obtain ⟨bb, rfl, hb3⟩ := yield_bool hor
        clear hor hR hy
        rcases hb3.out with ⟨rfl, hJ3, hk3, hk4⟩ | ⟨rfl, hJx3, hk3⟩
        · gi_wp2
          exact ⟨(HE.out _ hJ3 hk3 hk4).1, trivial, (HE.out _ hJ3 hk3 hk4).2⟩
        · gi_wp2
          exact ⟨⟨hk3.size, fun b o hb ho hc => hk3.same b o (by omega) ho hc⟩, rfl, by rw [hF]; exact hJx3⟩
      | false =>
        by_cases hki : k < i
        · have hki2 : (k : Int) < (i : Int) := by omega
          cases conv with
          | false =>
            have hF1 := hpyes (by simp [hki])
            obtain ⟨fn, tmps, assign, body, hy, hR⟩ := hyes hF1
            clear hyes hpyes hpno
            gi_wp2_with fail
            refine ⟨fun _ => by omega, (round_any hR).mono ?_⟩
            rintro e W3 hor
            obtain ⟨bb, rfl, hb3⟩ := yield_bool hor
            clear hor hR hy
            rcases hb3.out with ⟨rfl, hJ3, hk3, hk4⟩ | ⟨rfl, hJx3, hk3⟩
            · gi_wp2
              exact ⟨(HE.out _ hJ3 hk3 hk4).1, trivial, (HE.out _ hJ3 hk3 hk4).2⟩
            · gi_wp2
              exact ⟨⟨hk3.size, fun b o hb ho hc => hk3.same b o (by omega) ho hc⟩, rfl, by rw [hF]; exact hJx3⟩
          | true =>
            have hF1 := hpno (by simp)
            clear hyes hpyes hpno
            gi_wp2
            refine ⟨fun f e => (by cases e), ?_⟩
            gi_wp2
            exact ⟨(HE.out V (hF1 ▸ hIJ) (KeepsFrom.refl _ _) (fun _ _ _ => rfl)).1, trivial, (HE.out V (hF1 ▸ hIJ) (KeepsFrom.refl _ _) (fun _ _ _ => rfl)).2⟩
        · have hki2 : ¬ (k : Int) < (i : Int) := by omega
          have hF1 := hpno (by simp [hki])
          clear hyes hpyes hpno
          gi_wp2
          refine ⟨fun f e => (by cases e), ?_⟩
          gi_wp2
          exact ⟨(HE.out V (hF1 ▸ hIJ) (KeepsFrom.refl _ _) (fun _ _ _ => rfl)).1, trivial, (HE.out V (hF1 ▸ hIJ) (KeepsFrom.refl _ _) (fun _ _ _ => rfl)).2⟩
    case done =>
      rintro D ys V hD hys hI hK
      have hJe := hI.j
      rw [hys, fil_ag HX.out HCV.out] at hJe
      gi_wp2
      refine ⟨by simp, .inl ⟨_, _, rfl, run_takeDeferred hK, ?_⟩⟩
      exact ⟨_, results_none rfl _ _ _, ⟨_, rfl⟩, .inl ⟨_, _, rfl, (hJ _).putObj _ hJe (by omega) hK rfl⟩⟩
    case stop =>
      rintro D c pre V hD ⟨k, hk, hpre⟩ ⟨rfl, hJe⟩ hK
      rw [hpre, fil_ag HX.out HCV.out] at hJe
      gi_wp2
      refine ⟨by simp, .inl ⟨_, _, rfl, run_takeDeferred hK, ?_⟩⟩
      exact ⟨_, results_none rfl _ _ _, ⟨_, rfl⟩, .inr ⟨_, ⟨k, hk, rfl⟩, hJx.putObj _ hJe (by omega) hK rfl⟩⟩
end Go.Proofs.YtmldpbgdjlblmaaDoor
