/- Plain lists: a byte of a payload changed. -/
import Derived.Test.YthomdgafaffphaaJO
namespace Go.Proofs.Ythomdgafaffphaa
open Go.RowKit
theorem mul_back (a b : BitVec 32) (h : a * 16777619#32 = b * 16777619#32) : a = b := by
  have e : ∀ x : BitVec 32, x * 16777619#32 * 899433627#32 = x := fun x => by
    rw [BitVec.mul_assoc, show (16777619#32 * 899433627#32 : BitVec 32) = 1#32 by decide]
    simp
  rw [← e a, h, e b]
theorem xor_left (s a b : BitVec 32) (h : s ^^^ a = s ^^^ b) : a = b := by
  have := congrArg (s ^^^ ·) h
  simpa [← BitVec.xor_assoc] using this
theorem xor_right (s t a : BitVec 32) (h : s ^^^ a = t ^^^ a) : s = t := by
  have := congrArg (· ^^^ a) h
  simpa [BitVec.xor_assoc] using this
theorem fold_inj : ∀ (v : List Int) (s t : BitVec 32), s ≠ t → v.foldl (fun s x => (s ^^^ BitVec.ofInt 32 x) * 16777619#32) s ≠ v.foldl (fun s x => (s ^^^ BitVec.ofInt 32 x) * 16777619#32) t
  | [], _, _, h => h
  | _ :: v, _, _, h => fold_inj v _ _ fun e => h (xor_right _ _ _ (mul_back _ _ e))
theorem ofInt_byte {x y : Int} (hx : Byte x) (hy : Byte y) (h : BitVec.ofInt 32 x = BitVec.ofInt 32 y) : x = y := by
  obtain ⟨x0, x1⟩ := hx
  obtain ⟨y0, y1⟩ := hy
  have := congrArg BitVec.toNat h
  simp only [BitVec.toNat_ofInt] at this
  omega
theorem sum_ne {u v : List Int} {x y : Int} (hx : Byte x) (hy : Byte y) (h : x ≠ y) : sumB (u ++ x :: v) ≠ sumB (u ++ y :: v) := by
  unfold sumB
  rw [List.foldl_append, List.foldl_append, List.foldl_cons, List.foldl_cons]
  exact fold_inj v _ _ fun e => h (ofInt_byte hx hy (xor_left _ _ _ (mul_back _ _ e)))
theorem sum_set {p : List Int} {r : Nat} {y : Int} (hr : r < p.length) (hp : ∀ x ∈ p, Byte x) (hy : Byte y) (h : p[r] ≠ y) : sumB (p.set r y) ≠ sumB p := by
  have e1 : p.set r y = p.take r ++ y :: p.drop (r + 1) := List.set_eq_take_append_cons_drop.trans (if_pos hr)
  have e2 : p = p.take r ++ p[r] :: p.drop (r + 1) := by rw [List.getElem_cons_drop, List.take_append_drop]
  rw [e1]
  conv => rhs; rw [e2]
  exact sum_ne hy (hp _ (List.getElem_mem _)) (Ne.symm h)
theorem hurt_no {p q : List Int} (hl : q.length = p.length) (hs : sumB q ≠ sumB p) : okI (fourI p.length ++ (fourI (sumB p).toNat ++ q)) = false := by
  obtain ⟨h1, h2, h3⟩ := len_head p.length (sumB p).toNat q
  have hp : payI (fourI p.length ++ (fourI (sumB p).toNat ++ q)) = q := by
    unfold payI
    rw [h3, h1, Int.toNat_natCast, ← hl, List.take_of_length_le (Nat.le_refl _)]
  unfold okI
  rw [hp, h2]
  have : ¬ ((sumB q).toNat : Int) = ((sumB p).toNat : Int) := fun e => hs (BitVec.eq_of_toNat_eq (by omega))
  simp [this]
/-- Read of records of which the last one's payload is hurt. -/
theorem hurt_recs {ps : List (List Int)} {p : List Int} {r : Nat} {y : Int} (hps : ∀ q ∈ ps, q.length ≤ 131072) (hr : r < p.length) (hp : ∀ x ∈ p, Byte x) (hy : Byte y) (h : p[r] ≠ y) :
    recs 0 ((whole (ps ++ [p])).set ((whole ps).length + 8 + r) y) = ends 0 ps := by
  have e1 : (whole (ps ++ [p])).set ((whole ps).length + 8 + r) y = whole ps ++ (fourI p.length ++ (fourI (sumB p).toNat ++ p.set r y)) := by
    rw [whole_append, whole_one, List.set_append_right _ _ (by omega), recI, List.set_append_right _ _ (by rw [List.length_append, fourI_len, fourI_len]; omega), List.length_append, fourI_len, fourI_len, List.append_assoc]
    congr 4
    omega
  rw [e1, recs_whole 0 ps _ hps, recs_no (hurt_no (by simp) (sum_set hr hp hy h)), List.append_nil]
theorem xor_byte (x b : Int) : Byte (bits .xor .u8 x b) := by
  show Byte (IntKind.u8.wrap _)
  simp [IntKind.wrap, IntKind.bits, IntKind.signed, Byte]
  omega
theorem xor_change {x b : Int} (hx : Byte x) (hb : Byte b) (h : b ≠ 0) : x ≠ bits .xor .u8 x b := by
  intro e
  obtain ⟨x0, x1⟩ := hx
  obtain ⟨b0, b1⟩ := hb
  have e1 : bits .xor .u8 x b = ((BitVec.ofInt 8 x ^^^ BitVec.ofInt 8 b).toNat : Int) := by
    show IntKind.u8.wrap ((BitVec.ofInt 8 x ^^^ BitVec.ofInt 8 b).toNat : Int) = _
    generalize BitVec.ofInt 8 x ^^^ BitVec.ofInt 8 b = z
    have := z.isLt
    simp [IntKind.wrap, IntKind.bits, IntKind.signed]
    omega
  rw [e1] at e
  have e2 : BitVec.ofInt 8 x = BitVec.ofInt 8 x ^^^ BitVec.ofInt 8 b := by
    apply BitVec.eq_of_toNat_eq
    have h1 : (BitVec.ofInt 8 x).toNat = x.toNat := by
      rw [BitVec.toNat_ofInt]; omega
    omega
  have e3 : BitVec.ofInt 8 b = 0#8 := by
    have := congrArg (BitVec.ofInt 8 x ^^^ ·) e2
    simpa [← BitVec.xor_assoc] using this.symm
  have := congrArg BitVec.toNat e3
  rw [BitVec.toNat_ofInt] at this
  simp at this
  omega
theorem Row.set {w : World} {B g n c : Nat} {zs : List Int} (h : Row w B 5 (some ⟨g, 0, none⟩) n c (u8s zs)) {k : Nat} (y : Int) : Row (w.setCell ⟨g, k, none⟩ (.int .u8 y)) B 5 (some ⟨g, 0, none⟩) n c (u8s (zs.set k y)) := by
  rcases h.mem with ⟨e, _⟩ | ⟨g', cu, e, h2, h3, h4, h5⟩
  · cases e
  · cases e
    refine ⟨by rw [← h.len]; simp [u8s], h.cap, h.max, .inr ⟨g, _, rfl, h2, heap_setCell_same w g k cu 5 _ h3, by simpa using h4, ?_⟩⟩
    have : u8s (zs.set k y) = (u8s zs).set k (.int .u8 y) := by simp [u8s, List.map_set]
    rw [this, ← h5, Array.toList_setIfInBounds, List.take_set]
theorem whole_len (ps : List (List Int)) : (whole ps).length = (ps.map List.length).sum + ps.length * 8 := by
  induction ps with
  | nil => rfl
  | cons p ps ih => rw [whole_cons, List.length_append, recI_length, ih, List.map_cons, List.sum_cons, List.length_cons]; omega
end Go.Proofs.Ythomdgafaffphaa
