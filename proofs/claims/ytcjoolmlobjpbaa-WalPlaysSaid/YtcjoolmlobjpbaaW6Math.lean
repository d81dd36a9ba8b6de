/- The mathematics of layer 6: frames, regions that are read, writes that are left. -/
import Derived.Test.YtcjoolmlobjpbaaD5F
namespace Go.Proofs.Ytcjoolmlobjpbaa
open Go.RowKit Go.Maps
set_option linter.unusedVariables false
set_option linter.unusedSimpArgs false

/-- A number's bytes, the lowest first; and back. -/
def leN : Nat → Nat → List UInt8
  | 0, _ => []
  | k + 1, u => UInt8.ofNat u :: leN k (u / 256)
def leV : List UInt8 → Nat
  | [] => 0
  | c :: l => c.toNat + 256 * leV l
theorem leN_len (k u : Nat) : (leN k u).length = k := by
  induction k generalizing u with
  | zero => rfl
  | succ k ih => simp [leN, ih]
theorem leN_leV (l : List UInt8) : leN l.length (leV l) = l := by
  induction l with
  | nil => rfl
  | cons c l ih =>
    have h := c.toNat_lt
    rw [leV, List.length_cons, leN]
    have e1 : UInt8.ofNat (c.toNat + 256 * leV l) = c := by
      apply UInt8.toNat_inj.1
      rw [UInt8.toNat_ofNat']; omega
    have e2 : (c.toNat + 256 * leV l) / 256 = leV l := by omega
    rw [e1, e2, ih]
theorem leV_leN (k u : Nat) : leV (leN k u) = u % 256 ^ k := by
  induction k generalizing u with
  | zero => simp [leN, leV, Nat.mod_one]
  | succ k ih =>
    rw [leN, leV, ih, UInt8.toNat_ofNat', show (256 : Nat) ^ (k + 1) = 256 * 256 ^ k by rw [Nat.pow_succ, Nat.mul_comm], Nat.mod_mul]
theorem leN_take (k u i : Nat) (h : i < k) : (leN k u).take (i + 1) = (leN k u).take i ++ [UInt8.ofNat (u / 256 ^ i)] := by
  induction k generalizing u i with
  | zero => omega
  | succ k ih =>
    cases i with
    | zero => simp [leN]
    | succ i =>
      simp only [leN, List.take_succ_cons, List.cons_append]
      rw [ih (u / 256) i (by omega), Nat.div_div_eq_div_mul, Nat.pow_succ, Nat.mul_comm 256]
theorem leN_inj {k u v : Nat} (hu : u < 256 ^ k) (hv : v < 256 ^ k) (h : leN k u = leN k v) : u = v := by
  have := congrArg leV h
  rwa [leV_leN, leV_leN, Nat.mod_eq_of_lt hu, Nat.mod_eq_of_lt hv] at this

/-- The CRC, bit by bit. -/
def bitS (c : Nat) : Nat := if c % 2 = 1 then (c / 2) ^^^ 3988292384 else c / 2
def bitN : Nat → Nat → Nat
  | 0, c => c
  | k + 1, c => bitS (bitN k c)
def byteS (c : Nat) (b : UInt8) : Nat := bitN 8 (c ^^^ b.toNat)
def crcN (xs : List UInt8) : Nat := xs.foldl byteS 4294967295
def crcL (xs : List UInt8) : Nat := 4294967295 ^^^ crcN xs
theorem xor32 {a b : Nat} (ha : a < 4294967296) (hb : b < 4294967296) : a ^^^ b < 4294967296 := by
  have := Nat.xor_lt_two_pow (x := a) (y := b) (n := 32) (by simpa using ha) (by simpa using hb)
  simpa using this
theorem bitS_lt {c : Nat} (h : c < 4294967296) : bitS c < 4294967296 := by
  unfold bitS; split
  · exact xor32 (by omega) (by decide)
  · omega
theorem bitN_lt (k : Nat) {c : Nat} (h : c < 4294967296) : bitN k c < 4294967296 := by
  induction k with
  | zero => exact h
  | succ k ih => exact bitS_lt ih
theorem byteS_lt {c : Nat} (h : c < 4294967296) (b : UInt8) : byteS c b < 4294967296 := bitN_lt _ (xor32 h (by have := b.toNat_lt; omega))
theorem crcN_lt (xs : List UInt8) : crcN xs < 4294967296 := by
  unfold crcN
  suffices h : ∀ c, c < 4294967296 → xs.foldl byteS c < 4294967296 from h _ (by decide)
  induction xs with
  | nil => intro c h; exact h
  | cons x xs ih => intro c h; exact ih _ (byteS_lt h x)
theorem crcL_lt (xs : List UInt8) : crcL xs < 4294967296 := xor32 (by decide) (crcN_lt xs)
theorem crcN_snoc (xs : List UInt8) (k : Nat) (h : k < xs.length) : crcN (xs.take (k + 1)) = byteS (crcN (xs.take k)) xs[k] := by
  unfold crcN; rw [List.take_succ_eq_append_getElem h, List.foldl_append]; rfl

/-- The next multiple of 8; a frame; frames. -/
def rnd (n : Nat) : Nat := (n + 7) / 8 * 8
theorem rnd_ge (n : Nat) : n ≤ rnd n ∧ rnd n < n + 8 ∧ rnd n % 8 = 0 := by unfold rnd; omega
def frame (r : List UInt8) : List UInt8 := leN 4 r.length ++ (leN 4 (crcL r) ++ (r ++ List.replicate (rnd r.length - r.length) 0))
def frames (l : List (List UInt8)) : List UInt8 := l.flatMap frame
def OkR (r : List UInt8) : Prop := 1 ≤ r.length ∧ r.length ≤ 8192
theorem frame_len (r : List UInt8) : (frame r).length = 8 + rnd r.length := by
  have := rnd_ge r.length
  simp [frame, leN_len]; omega
theorem frames_nil : frames [] = [] := rfl
theorem frames_cons (r : List UInt8) (l : List (List UInt8)) : frames (r :: l) = frame r ++ frames l := by simp [frames]
theorem frames_app (a b : List (List UInt8)) : frames (a ++ b) = frames a ++ frames b := by simp [frames]
theorem frames_snoc (a : List (List UInt8)) (r : List UInt8) : frames (a ++ [r]) = frames a ++ frame r := by simp [frames]
theorem frames_mod (l : List (List UInt8)) : (frames l).length % 8 = 0 := by
  induction l with
  | nil => rfl
  | cons r l ih => rw [frames_cons, List.length_append, frame_len]; have := rnd_ge r.length; omega
/-- The sum of what they have. -/
def sizeL (l : List (List UInt8)) : Nat := (frames l).length
theorem sizeL_snoc (l : List (List UInt8)) (r : List UInt8) : sizeL (l ++ [r]) = sizeL l + 8 + rnd r.length := by
  unfold sizeL; rw [frames_snoc, List.length_append, frame_len]; omega
theorem sizeL_cons (l : List (List UInt8)) (r : List UInt8) : sizeL (r :: l) = 8 + rnd r.length + sizeL l := by
  unfold sizeL; rw [frames_cons, List.length_append, frame_len]
theorem sizeL_take (l : List (List UInt8)) (k : Nat) (h : k < l.length) : sizeL (l.take (k + 1)) = sizeL (l.take k) + 8 + rnd l[k].length := by
  rw [List.take_succ_eq_append_getElem h, sizeL_snoc]
theorem sizeL_len (l : List (List UInt8)) (h : ∀ r ∈ l, OkR r) : 16 * l.length ≤ sizeL l := by
  induction l with
  | nil => simp
  | cons r l ih =>
    have h1 := ih (fun x hx => h x (by simp [hx]))
    have h2 := (h r (by simp)).1
    have h3 := rnd_ge r.length
    rw [sizeL_cons, List.length_cons]; omega
theorem sizeL_le (l : List (List UInt8)) (k : Nat) : sizeL (l.take k) ≤ sizeL l := by
  have h := congrArg List.length (frames_app (l.take k) (l.drop k))
  rw [List.take_append_drop, List.length_append] at h
  unfold sizeL; omega

theorem frame_inj {r r' s s' : List UInt8} (h1 : OkR r) (h2 : OkR r') (h : frame r ++ s = frame r' ++ s') : r = r' ∧ s = s' := by
  have h0 := h
  unfold frame at h0
  simp only [List.append_assoc] at h0
  obtain ⟨e1, e2⟩ := List.append_inj h0 (by simp [leN_len])
  have hl : r.length = r'.length := leN_inj (by have := h1.2; omega) (by have := h2.2; omega) e1
  obtain ⟨e3, e4⟩ := List.append_inj e2 (by simp [leN_len])
  obtain ⟨e5, e6⟩ := List.append_inj e4 hl
  subst e5
  exact ⟨rfl, List.append_cancel_left e6⟩
def NoFrame (b : List UInt8) : Prop := ∀ r s, OkR r → b ≠ frame r ++ s
def Parses (b : List UInt8) (l : List (List UInt8)) : Prop := ∃ rest, b = frames l ++ rest ∧ (∀ r ∈ l, OkR r) ∧ NoFrame rest
theorem parses_unique {b : List UInt8} {l l' : List (List UInt8)} (h : Parses b l) (h' : Parses b l') : l = l' := by
  induction l generalizing b l' with
  | nil =>
    obtain ⟨rest, rfl, h2, h3⟩ := h
    obtain ⟨rest', h1', h2', h3'⟩ := h'
    cases l' with
    | nil => rfl
    | cons r l' =>
      exfalso
      rw [frames_cons, List.append_assoc] at h1'
      exact h3 _ _ (h2' r (by simp)) h1'
  | cons r l ih =>
    obtain ⟨rest, rfl, h2, h3⟩ := h
    obtain ⟨rest', h1', h2', h3'⟩ := h'
    cases l' with
    | nil =>
      exfalso
      rw [frames_nil, List.nil_append, frames_cons, List.append_assoc] at h1'
      exact h3' _ _ (h2 r (by simp)) h1'.symm
    | cons r' l' =>
      rw [frames_cons, frames_cons, List.append_assoc, List.append_assoc] at h1'
      obtain ⟨rfl, e⟩ := frame_inj (h2 r (by simp)) (h2' r' (by simp)) h1'
      rw [ih ⟨rest, rfl, fun x hx => h2 x (by simp [hx]), h3⟩ ⟨rest', e, fun x hx => h2' x (by simp [hx]), h3'⟩]
theorem noFrame_short {b : List UInt8} (h : b.length < 8) : NoFrame b := by
  intro r s _ e
  rw [e, List.length_append, frame_len] at h; omega
/-- What a text tells that begins with a frame. -/
structure FrameFacts (b r s : List UInt8) : Prop where
  len : 8 + rnd r.length ≤ b.length
  n : leV (b.take 4) = r.length
  crc : leV ((b.drop 4).take 4) = crcL r
  rec_ : (b.drop 8).take r.length = r
  blank : (b.drop (8 + r.length)).take (rnd r.length - r.length) = List.replicate (rnd r.length - r.length) 0
  rest : b.drop (8 + rnd r.length) = s
theorem frame_facts {b r s : List UInt8} (h1 : OkR r) (h : b = frame r ++ s) : FrameFacts b r s := by
  have hr := rnd_ge r.length
  have hl := h1.2
  have hc := crcL_lt r
  have hb : b = leN 4 r.length ++ (leN 4 (crcL r) ++ (r ++ (List.replicate (rnd r.length - r.length) 0 ++ s))) := by
    rw [h]; simp [frame]
  have d4 : b.drop 4 = leN 4 (crcL r) ++ (r ++ (List.replicate (rnd r.length - r.length) 0 ++ s)) := by
    rw [hb, List.drop_left' (leN_len _ _)]
  have d8 : b.drop 8 = r ++ (List.replicate (rnd r.length - r.length) 0 ++ s) := by
    rw [show (8 : Nat) = 4 + 4 from rfl, ← List.drop_drop, d4, List.drop_left' (leN_len _ _)]
  have dn : b.drop (8 + r.length) = List.replicate (rnd r.length - r.length) 0 ++ s := by
    rw [← List.drop_drop, d8, List.drop_left' rfl]
  refine ⟨by rw [h, List.length_append, frame_len]; omega, ?_, ?_, ?_, ?_, ?_⟩
  · rw [hb, List.take_left' (leN_len _ _), leV_leN, Nat.mod_eq_of_lt (by omega)]
  · rw [d4, List.take_left' (leN_len _ _), leV_leN, Nat.mod_eq_of_lt (by omega)]
  · rw [d8, List.take_left' rfl]
  · rw [dn, List.take_left' (by simp)]
  · rw [h, List.drop_left' (frame_len r)]
theorem noFrame_zero {b : List UInt8} (h : b.take 4 = [0, 0, 0, 0]) : NoFrame b := by
  intro r s h1 e
  have := (frame_facts h1 e).n
  rw [h] at this
  have := h1.1
  simp [leV] at *
  omega
/-- A frame that the tests have found. -/
theorem frame_of {b : List UInt8} {n : Nat} (hlen : 8 + rnd n ≤ b.length) (hn : leV (b.take 4) = n) (hn2 : n ≤ 8192) (hc : leV ((b.drop 4).take 4) = crcL ((b.drop 8).take n)) (hb : (b.drop (8 + n)).take (rnd n - n) = List.replicate (rnd n - n) 0) :
    b = frame ((b.drop 8).take n) ++ b.drop (8 + rnd n) ∧ ((b.drop 8).take n).length = n := by
  have hr := rnd_ge n
  have e0 : ((b.drop 8).take n).length = n := by rw [List.length_take, List.length_drop]; omega
  refine ⟨?_, e0⟩
  have e1 : leN 4 n = b.take 4 := by
    have := leN_leV (b.take 4)
    rwa [hn, List.length_take, Nat.min_eq_left (by omega)] at this
  have e2 : leN 4 (crcL ((b.drop 8).take n)) = (b.drop 4).take 4 := by
    have := leN_leV ((b.drop 4).take 4)
    rwa [hc, List.length_take, List.length_drop, Nat.min_eq_left (by omega)] at this
  unfold frame
  rw [e0, e1, e2, ← hb]
  have s1 : b = b.take 4 ++ b.drop 4 := (List.take_append_drop 4 b).symm
  have s2 : b.drop 4 = (b.drop 4).take 4 ++ b.drop 8 := by
    have := (List.take_append_drop 4 (b.drop 4)).symm
    rwa [List.drop_drop] at this
  have s3 : b.drop 8 = (b.drop 8).take n ++ b.drop (8 + n) := by
    have := (List.take_append_drop n (b.drop 8)).symm
    rwa [List.drop_drop] at this
  have s4 : b.drop (8 + n) = (b.drop (8 + n)).take (rnd n - n) ++ b.drop (8 + rnd n) := by
    have := (List.take_append_drop (rnd n - n) (b.drop (8 + n))).symm
    rwa [List.drop_drop, show 8 + n + (rnd n - n) = 8 + rnd n by omega] at this
  conv => lhs; rw [s1, s2, s3, s4]
  simp only [List.append_assoc]
theorem parses_snoc {b rest s : List UInt8} {l : List (List UInt8)} {r : List UInt8} (h : b = frames l ++ rest) (hr : rest = frame r ++ s) : b = frames (l ++ [r]) ++ s := by
  rw [h, hr, frames_snoc, List.append_assoc]

/-- The sectors of a text; a region's bytes. -/
def secOf (fr : List UInt8) (i : Nat) : List UInt8 := full ((fr.drop (128 * i)).take 128)
theorem secOf_len (fr : List UInt8) (i : Nat) : (secOf fr i).length = 128 := full_len _
theorem getD_full (xs : List UInt8) (t : Nat) (h : t < 128) : (full xs).getD t 0 = xs.getD t 0 := by
  unfold full
  simp only [List.getD_eq_getElem?_getD]
  by_cases h1 : t < xs.length
  · rw [List.getElem?_append_left (by simp; omega), List.getElem?_take, if_pos h]
  · rw [List.getElem?_append_right (by simp; omega), List.getElem?_eq_none (l := xs) (by omega), List.getElem?_replicate]
    split <;> rfl
theorem getD_sec (fr : List UInt8) (i t : Nat) (h : t < 128) : (secOf fr i).getD t 0 = fr.getD (128 * i + t) 0 := by
  unfold secOf
  rw [getD_full _ _ h]
  simp only [List.getD_eq_getElem?_getD]
  rw [List.getElem?_take, if_pos h, List.getElem?_drop]
theorem ext_getD {a b : List UInt8} (hl : a.length = b.length) (h : ∀ j, j < a.length → a.getD j 0 = b.getD j 0) : a = b := by
  refine List.ext_getElem hl fun j h1 h2 => ?_
  have := h j h1
  simpa [List.getD_eq_getElem?_getD, h1, h2] using this
theorem sec_ext {s : List UInt8} {fr : List UInt8} {i : Nat} (hs : s.length = 128) (h : ∀ t, t < 128 → s.getD t 0 = fr.getD (128 * i + t) 0) : s = secOf fr i :=
  ext_getD (by rw [hs, secOf_len]) fun j hj => by rw [h j (by omega), getD_sec _ _ _ (by omega)]
theorem secOf_congr {a b : List UInt8} {i : Nat} (h : ∀ t, t < 128 → a.getD (128 * i + t) 0 = b.getD (128 * i + t) 0) : secOf a i = secOf b i :=
  sec_ext (secOf_len _ _) fun t ht => by rw [getD_sec _ _ _ ht]; exact h t ht
def reg (g : Int → List UInt8) (first : Int) (n : Nat) : List UInt8 := (List.range n).flatMap fun i => g (first + (i : Nat))
theorem reg_zero (g : Int → List UInt8) (first : Int) : reg g first 0 = [] := rfl
theorem reg_succ (g : Int → List UInt8) (first : Int) (n : Nat) : reg g first (n + 1) = reg g first n ++ g (first + n) := by
  simp [reg, List.range_succ]
theorem reg_len {g : Int → List UInt8} (hg : ∀ i, (g i).length = 128) (first : Int) (n : Nat) : (reg g first n).length = 128 * n := by
  induction n with
  | zero => rfl
  | succ n ih => rw [reg_succ, List.length_append, ih, hg]; omega
theorem reg_getD {g : Int → List UInt8} (hg : ∀ i, (g i).length = 128) (first : Int) (n i t : Nat) (hi : i < n) (ht : t < 128) : (reg g first n).getD (128 * i + t) 0 = (g (first + i)).getD t 0 := by
  have h := flat_at (fun i : Nat => g (first + (i : Nat))) 128 (List.range n) (fun x _ => hg _) i (by simpa using hi) t ht
  simp only [List.getElem_range] at h
  simp only [List.getD_eq_getElem?_getD]
  unfold reg
  rw [Nat.mul_comm, h]
/-- How a region is read that has frames, and noughts right behind them. -/
theorem parses_of_reads {g : Int → List UInt8} (hg : ∀ i, (g i).length = 128) {first : Int} {n : Nat} {l : List (List UInt8)} (hl : ∀ r ∈ l, OkR r) (hle : sizeL l ≤ 128 * n)
    (h : ∀ i, i < n → ∀ t, t < 128 → 128 * i + t < sizeL l + 8 → (g (first + i)).getD t 0 = (frames l).getD (128 * i + t) 0) : Parses (reg g first n) l := by
  have hrl := reg_len hg first n
  have hget : ∀ j, j < 128 * n → j < sizeL l + 8 → (reg g first n).getD j 0 = (frames l).getD j 0 := by
    intro j hj hj2
    have e : 128 * (j / 128) + j % 128 = j := by omega
    have := reg_getD hg first n (j / 128) (j % 128) (by omega) (by omega)
    rw [e] at this
    rw [this, h (j / 128) (by omega) (j % 128) (by omega) (by omega), e]
  refine ⟨(reg g first n).drop (sizeL l), ?_, hl, ?_⟩
  · have e : (reg g first n).take (sizeL l) = frames l := by
      refine ext_getD (by rw [List.length_take, hrl]; unfold sizeL at *; omega) fun j hj => ?_
      rw [List.length_take] at hj
      rw [← hget j (by omega) (by omega)]
      simp only [List.getD_eq_getElem?_getD]
      rw [List.getElem?_take, if_pos (by omega)]
    conv => lhs; rw [← List.take_append_drop (sizeL l) (reg g first n), e]
  · by_cases h8 : ((reg g first n).drop (sizeL l)).length < 8
    · exact noFrame_short h8
    · refine noFrame_zero ?_
      rw [List.length_drop, hrl] at h8
      refine ext_getD (by rw [List.length_take, List.length_drop, hrl]; simp; omega) fun j hj => ?_
      rw [List.length_take, List.length_drop, hrl] at hj
      have h1 := hget (sizeL l + j) (by omega) (by omega)
      have h2 : (frames l).getD (sizeL l + j) 0 = 0 := by
        rw [List.getD_eq_getElem?_getD, List.getElem?_eq_none (by unfold sizeL; omega)]; rfl
      have h3 : ([0, 0, 0, 0] : List UInt8).getD j 0 = 0 := by
        rcases (by omega : j = 0 ∨ j = 1 ∨ j = 2 ∨ j = 3) with rfl | rfl | rfl | rfl <;> rfl
      rw [h3]
      refine Eq.trans ?_ (h1.trans h2)
      simp only [List.getD_eq_getElem?_getD]
      rw [List.getElem?_take, if_pos (by omega), List.getElem?_drop]
/-- A region that holds a text and noughts behind it. -/
def Clean (g : Int → List UInt8) (first : Int) (n : Nat) (fr : List UInt8) : Prop := ∀ i : Nat, i < n → g (first + i) = secOf fr i
theorem Clean.parses {g : Int → List UInt8} (hg : ∀ i, (g i).length = 128) {first : Int} {n : Nat} {l : List (List UInt8)} (h : Clean g first n (frames l)) (hl : ∀ r ∈ l, OkR r) (hle : sizeL l ≤ 128 * n) : Parses (reg g first n) l :=
  parses_of_reads hg hl hle fun i hi t ht _ => by rw [h i hi, getD_sec _ _ _ ht]
theorem Clean.reg {g : Int → List UInt8} (hg : ∀ i, (g i).length = 128) {first : Int} {n : Nat} {fr : List UInt8} (h : Clean g first n fr) (hle : fr.length ≤ 128 * n) : reg g first n = fr ++ List.replicate (128 * n - fr.length) 0 := by
  have hrl := reg_len hg first n
  refine ext_getD (by rw [hrl]; simp; omega) fun j hj => ?_
  rw [hrl] at hj
  have e : 128 * (j / 128) + j % 128 = j := by omega
  have := reg_getD hg first n (j / 128) (j % 128) (by omega) (by omega)
  rw [e] at this
  rw [this, h (j / 128) (by omega), getD_sec _ _ _ (by omega), e]
  simp only [List.getD_eq_getElem?_getD]
  by_cases hj2 : j < fr.length
  · rw [List.getElem?_append_left hj2]
  · rw [List.getElem?_append_right (by omega), List.getElem?_eq_none (l := fr) (by omega), List.getElem?_replicate]
    split <;> rfl
/-- What is known of the sectors of a region that is read. -/
theorem Parses.bytes {g : Int → List UInt8} (hg : ∀ i, (g i).length = 128) {first : Int} {n : Nat} {l : List (List UInt8)} (h : Parses (reg g first n) l) :
    sizeL l ≤ 128 * n ∧ ∀ i, i < n → ∀ t, t < 128 → 128 * i + t < sizeL l → (g (first + i)).getD t 0 = (frames l).getD (128 * i + t) 0 := by
  obtain ⟨rest, h1, _, _⟩ := h
  have hrl := reg_len hg first n
  refine ⟨by have := congrArg List.length h1; rw [hrl, List.length_append] at this; unfold sizeL; omega, fun i hi t ht hlt => ?_⟩
  rw [← reg_getD hg first n i t hi ht, h1]
  simp only [List.getD_eq_getElem?_getD]
  rw [List.getElem?_append_left hlt]
theorem Parses.oks {b : List UInt8} {l : List (List UInt8)} (h : Parses b l) : ∀ r ∈ l, OkR r := by
  obtain ⟨rest, _, h, _⟩ := h; exact h
end Go.Proofs.Ytcjoolmlobjpbaa
