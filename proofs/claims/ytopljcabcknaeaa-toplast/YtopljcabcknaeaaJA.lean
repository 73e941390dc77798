/- Bytes in memory; contracts of the sums and of the words of a record. -/
import Derived.Test.YtopljcabcknaeaaRows
import Derived.WalkKit
import Derived.WalkSpells
import Derived.WalkLawsBesides
import Derived.Deep.QuietTactic
import Derived.BigQuiet
import Derived.Deep.RegionHeld3
import Derived.Deep.RegionLaw
import Derived.Deep.DrawnRows
import Derived.Deep.AppendLies
import Derived.Deep.MidRow
import Derived.Test.YtopljcabcknaeaaJR
namespace Go.Proofs.Ytopljcabcknaeaa
open Go.RowKit
def u8s (xs : List Int) : List Value := xs.map (.int .u8 ·)
theorem u8s_one (xs : List Int) : ∀ u ∈ u8s xs, u.oneCell' = true := fun u hu => by
  obtain ⟨x, _, rfl⟩ := List.mem_map.1 hu
  rfl
theorem u8s_len (xs : List Int) : (u8s xs).length = xs.length * 1 := by simp [u8s]
theorem u8s_append (xs ys : List Int) : u8s (xs ++ ys) = u8s xs ++ u8s ys := by simp [u8s]
def Byte (x : Int) : Prop := 0 ≤ x ∧ x < 256
/-- The bytes of a slice. -/
structure By (w : World) (a : Option Addr) (n c : Nat) (xs : List Int) : Prop where
  len : xs.length = n
  cap : n ≤ c
  nil : a = none → c = 0
  rng : ∀ x ∈ xs, Byte x
  mem : n = 0 ∨ ∃ b o, a = some ⟨b, o, none⟩ ∧ b < w.heap.size ∧ w.rangeAt b o (u8s xs)
theorem By.below {w w' : World} {a : Option Addr} {n c : Nat} {xs : List Int} (h : By w a n c xs) (hb : Below w.heap.size w w') : By w' a n c xs :=
  ⟨h.len, h.cap, h.nil, h.rng, by
    rcases h.mem with e | ⟨b, o, e, hl, hr⟩
    · exact .inl e
    · exact .inr ⟨b, o, e, Nat.lt_of_lt_of_le hl hb.size, fun j u hu => (hb.cell (p := ⟨b, o + j, none⟩) hl).trans (hr j u hu)⟩⟩
theorem By.nul (w : World) : By w none 0 0 [] := ⟨rfl, Nat.le_refl _, fun _ => rfl, by simp, .inl rfl⟩
theorem By.at {w : World} {a : Option Addr} {n c : Nat} {xs : List Int} (h : By w a n c xs) {k : Nat} (hk : k < n) :
    ∃ b o, a = some ⟨b, o, none⟩ ∧ w.cell? ⟨b, o + k, none⟩ = some (.int .u8 (xs[k]'(by rw [h.len]; exact hk))) ∧ Byte (xs[k]'(by rw [h.len]; exact hk)) := by
  have hl := h.len
  rcases h.mem with e | ⟨b, o, e, hlt, hr⟩
  · omega
  · exact ⟨b, o, e, hr k _ (by rw [u8s, List.getElem?_map, List.getElem?_eq_getElem (by omega)]; rfl), h.rng _ (List.getElem_mem _)⟩
theorem ret_int {k : IntKind} {a b : Int} (h : a = b) : Ending.returned (.int k a) = .returned (.int k b) := by rw [h]
/-- The sum of bytes. -/
def sumB (xs : List Int) : BitVec 32 := xs.foldl (fun s x => (s ^^^ BitVec.ofInt 32 x) * 16777619#32) 2166136261#32
theorem sumB_snoc (xs : List Int) (x : Int) : sumB (xs ++ [x]) = (sumB xs ^^^ BitVec.ofInt 32 x) * 16777619#32 := by simp [sumB]
theorem take_snoc {α : Type} (xs : List α) (k : Nat) (h : k < xs.length) : xs.take (k + 1) = xs.take k ++ [xs[k]] := List.take_succ_eq_append_getElem h
theorem sum_step (s : BitVec 32) (x : Int) : bits .xor .u32 (s.toNat : Int) x * 16777619 % 4294967296 = (((s ^^^ BitVec.ofInt 32 x) * 16777619#32).toNat : Int) := by
  have h1 : BitVec.ofInt 32 (s.toNat : Int) = s := by simp
  have h : bits .xor .u32 (s.toNat : Int) x = ((s ^^^ BitVec.ofInt 32 x).toNat : Int) := by
    show IntKind.u32.wrap (((BitVec.ofInt 32 (s.toNat : Int)) ^^^ BitVec.ofInt 32 x).toNat : Int) = _
    rw [h1]
    generalize s ^^^ BitVec.ofInt 32 x = y
    have := y.isLt
    simp [IntKind.wrap, IntKind.bits, IntKind.signed]
    omega
  rw [h, BitVec.toNat_mul]
  simp
set_option maxRecDepth 100000 in
set_option maxHeartbeats 1000000 in
theorem j16 (a : Option Addr) (n c : Nat) (xs : List Int) (w : World) (h : By w a n c xs) (hn : n ≤ 140737488355328) :
    Calls Try.prog 29 #[.slice a n c] w fun e w' => e = .returned (.int .u32 (sumB xs).toNat) ∧ w' = w := by
  have HB : Hid (By w a n c xs) := h
  have HL : Hid (xs.length = n) := h.len
  clear h
  go_enter Try.func29, Try.ntmps29
  go_wp2_with fail
  go_loop [3, 5, 8] (fun s _ i => ∃ k : Nat, k ≤ n ∧ i = .int .i64 k ∧ s = .int .u32 (sumB (xs.take k)).toNat) (fun _ _ i => n - (intOf i).toNat)
  case atStart => exact ⟨0, Nat.zero_le _, rfl, rfl⟩
  case round =>
    obtain ⟨k, hk, rfl, rfl⟩ := hrel
    by_cases hlt : k < n
    · have hlt1 : (k : Int) < (n : Int) := by omega
      have hk0 : (0 : Int) ≤ (k : Int) := by omega
      obtain ⟨b, o, rfl, hc, hx⟩ := HB.out.at hlt
      obtain ⟨hx0, hx1⟩ := hx
      have HT : Hid (xs.take (k + 1) = xs.take k ++ [xs[k]'(by rw [HL.out]; exact hlt)]) := take_snoc xs k (by rw [HL.out]; exact hlt)
      generalize xs[k]'(by rw [HL.out]; exact hlt) = x at *
      go_wp2_with fail
      go_round
      case rel => exact ⟨k + 1, by omega, by go_num, by rw [HT.out, sumB_snoc, sum_step]⟩
      case measure => simp [intOf]; omega
    · go_wp2_with fail
      go_ret
      exact ⟨ret_int (by rw [List.take_of_length_le (by rw [HL.out]; omega)]), rfl⟩
/-- The number of bytes, the highest first. -/
def wordI (xs : List Int) : Int := xs.foldl (fun n c => n * 256 + c) 0
theorem wordI_snoc (xs : List Int) (x : Int) : wordI (xs ++ [x]) = wordI xs * 256 + x := by simp [wordI]
theorem wordI_four (a b c d : Int) : wordI [a, b, c, d] = a * 16777216 + b * 65536 + c * 256 + d := by simp [wordI]; omega
theorem or_part (i k : Nat) (hik : i + k = 32) (m x : Int) (h0 : 0 ≤ m) (h1 : m < 2 ^ k) (hx0 : 0 ≤ x) (hx1 : x < 2 ^ i) : bits .or .u32 (m * 2 ^ i) x = m * 2 ^ i + x := by
  obtain ⟨M, rfl⟩ := Int.eq_ofNat_of_zero_le h0
  obtain ⟨X, rfl⟩ := Int.eq_ofNat_of_zero_le hx0
  have hX : X < 2 ^ i := by
    have : ((X : Nat) : Int) < ((2 ^ i : Nat) : Int) := by simpa using hx1
    omega
  have hM : M < 2 ^ k := by
    have : ((M : Nat) : Int) < ((2 ^ k : Nat) : Int) := by simpa using h1
    omega
  have e0 : ((M : Int) * 2 ^ i) = ((M * 2 ^ i : Nat) : Int) := by simp
  have h32 : 2 ^ k * 2 ^ i = 4294967296 := by rw [← Nat.pow_add, show k + i = 32 by omega]
  have h4 : (M + 1) * 2 ^ i ≤ 2 ^ k * 2 ^ i := Nat.mul_le_mul_right _ hM
  rw [Nat.add_mul, Nat.one_mul, h32] at h4
  have e2 : M * 2 ^ i ||| X = M * 2 ^ i + X := by
    have := Nat.shiftLeft_add_eq_or_of_lt hX M
    rw [Nat.shiftLeft_eq] at this
    exact this.symm
  rw [e0]
  show IntKind.u32.wrap ((BitVec.ofInt 32 ((M * 2 ^ i : Nat) : Int) ||| BitVec.ofInt 32 (X : Int)).toNat : Int) = _
  rw [BitVec.ofInt_natCast, BitVec.ofInt_natCast, BitVec.toNat_or, BitVec.toNat_ofNat, BitVec.toNat_ofNat, Nat.mod_eq_of_lt (by omega), Nat.mod_eq_of_lt (by omega), e2]
  generalize M * 2 ^ i = Z at *
  simp [IntKind.wrap, IntKind.bits, IntKind.signed]
  omega
theorem or_low (m x : Int) (h0 : 0 ≤ m) (h1 : m < 16777216) (hx : Byte x) : bits .or .u32 (m * 256) x = m * 256 + x := or_part 8 24 rfl m x h0 h1 hx.1 hx.2
theorem or_mid (m x : Int) (h0 : 0 ≤ m) (h1 : m < 65536) (hx0 : 0 ≤ x) (hx1 : x < 65536) : bits .or .u32 (m * 65536) x = m * 65536 + x := or_part 16 16 rfl m x h0 h1 hx0 hx1
theorem or_high (m x : Int) (h0 : 0 ≤ m) (h1 : m < 256) (hx0 : 0 ≤ x) (hx1 : x < 16777216) : bits .or .u32 (m * 16777216) x = m * 16777216 + x := or_part 24 8 rfl m x h0 h1 hx0 hx1
set_option maxRecDepth 100000 in
set_option maxHeartbeats 1000000 in
theorem j62 (a : Option Addr) (c : Nat) (xs : List Int) (w : World) (h : By w a 4 c xs) :
    Calls Try.prog 32 #[.slice a 4 c] w fun e w' => e = .returned (.int .u32 (wordI xs)) ∧ w' = w := by
  have HB : Hid (By w a 4 c xs) := h
  have HL : Hid (xs.length = 4) := h.len
  clear h
  go_enter Try.func32, Try.ntmps32
  go_wp2_with fail
  go_loop [3, 5, 8] (fun s _ i => ∃ k : Nat, k ≤ 4 ∧ i = .int .i64 k ∧ s = .int .u32 (wordI (xs.take k)) ∧ 0 ≤ wordI (xs.take k) ∧ wordI (xs.take k) < 256 ^ k) (fun _ _ i => 4 - (intOf i).toNat)
  case atStart => exact ⟨0, Nat.zero_le _, rfl, rfl, by simp [wordI], by simp [wordI]⟩
  case round =>
    obtain ⟨k, hk, rfl, rfl, hw0, hw1⟩ := hrel
    by_cases hlt : k < 4
    · have hlt1 : (k : Int) < 4 := by omega
      have hk0 : (0 : Int) ≤ (k : Int) := by omega
      obtain ⟨b, o, rfl, hc, hx⟩ := HB.out.at hlt
      have HX : Hid (Byte (xs[k]'(by rw [HL.out]; exact hlt))) := hx
      obtain ⟨hx0, hx1⟩ := hx
      have HT : Hid (xs.take (k + 1) = xs.take k ++ [xs[k]'(by rw [HL.out]; exact hlt)]) := take_snoc xs k (by rw [HL.out]; exact hlt)
      generalize xs[k]'(by rw [HL.out]; exact hlt) = x at *
      have hw2 : wordI (xs.take k) < 16777216 := by
        have : (256 : Int) ^ k ≤ 16777216 := by
          rcases (show k = 0 ∨ k = 1 ∨ k = 2 ∨ k = 3 by omega) with rfl | rfl | rfl | rfl <;> decide
        omega
      have HP : Hid (wordI (xs.take k) < 256 ^ k) := hw1
      clear hw1
      obtain ⟨m, hm⟩ : ∃ m, wordI (xs.take k) = m := ⟨_, rfl⟩
      rw [hm] at hw0 hw2 HP ⊢
      have HM : Hid (wordI (xs.take k) = m) := hm
      clear hm
      go_wp2_with fail
      go_round
      case rel => exact ⟨k + 1, by omega, by go_num, by rw [HT.out, wordI_snoc, HM.out, or_low m x hw0 hw2 HX.out], by rw [HT.out, wordI_snoc, HM.out]; omega, by
        rw [HT.out, wordI_snoc, HM.out, Int.pow_succ]; have := HP.out; omega⟩
      case measure => simp [intOf]; omega
    · go_wp2_with fail
      go_ret
      exact ⟨ret_int (by rw [List.take_of_length_le (by rw [HL.out]; omega)]), rfl⟩
/-- A number's four bytes. -/
def fourI (m : Int) : List Int := [m / 16777216, m / 65536 % 256, m / 256 % 256, m % 256]
theorem fourI_byte {m : Int} (h0 : 0 ≤ m) (h1 : m < 4294967296) : ∀ x ∈ fourI m, Byte x := by
  intro x hx
  simp only [fourI, List.mem_cons, List.not_mem_nil, or_false] at hx
  unfold Byte
  omega
theorem word_four {m : Int} : wordI (fourI m) = m := by rw [fourI, wordI_four]; omega
theorem By.reads {w : World} {a : Option Addr} {n c : Nat} {xs : List Int} (h : By w a n c xs) : Reads w a n (u8s xs) := by
  refine ⟨by simp [u8s, h.len], ?_⟩
  rcases h.mem with e | ⟨b, o, e, _, hr⟩
  · exact .inl e
  · exact .inr ⟨_, e, fun j u hu => by rw [Addr.add_mid]; exact hr j u hu⟩
theorem By.nil0 {w : World} {a : Option Addr} {n c : Nat} {xs : List Int} (h : By w a n c xs) (ha : a = none) : n = 0 := by have := h.nil ha; have := h.cap; omega
theorem Row.by {w : World} {B : Nat} {a : Option Addr} {n c : Nat} {xs : List Int} (h : Row w B 5 a n c (u8s xs)) (hb : ∀ x ∈ xs, Byte x) : By w a n c xs := by
  refine ⟨by simpa [u8s] using h.len, h.cap, ?_, hb, ?_⟩
  · rintro rfl
    rcases h.mem with h1 | ⟨g, cur, e, _⟩
    · exact h1.2
    · cases e
  · rcases h.mem with ⟨rfl, h1⟩ | ⟨g, cur, rfl, h2, h3, h4, h5⟩
    · exact .inl (by have := h.cap; omega)
    · refine .inr ⟨g, 0, rfl, (Array.getElem?_eq_some_iff.1 h3).1, fun j u hu => ?_⟩
      rcases h.reads.2 with e | ⟨ad, e1, e2⟩
      · have hl : (u8s xs).length = 0 := by rw [h.len, e]
        rw [List.eq_nil_of_length_eq_zero hl] at hu; simp at hu
      · cases e1
        have := e2 j u hu
        rw [Addr.add_mid] at this
        simpa using this
theorem infoU8 : ∃ i, Try.prog.info? 5 = some i ∧ i.zero = some (.int .u8 0) ∧ i.size = 1 ∧ i.bytes = 1 := by
  have h : (Try.prog.info? 5).map (fun i => (i.zero, i.size, i.bytes)) = some (some (.int .u8 0), 1, 1) := by kernel_rfl
  cases hq : Try.prog.info? 5 with
  | none => rw [hq] at h; cases h
  | some i =>
    rw [hq] at h
    simp only [Option.map_some, Option.some.injEq, Prod.mk.injEq] at h
    exact ⟨i, rfl, h.1, h.2.1, h.2.2⟩
theorem reads_block {w : World} {B : Nat} {cs : Array Value} {t : TypeId} {fr : Nat × Nat} (hb : w.heap[B]? = some (.cells cs t fr)) : Reads w (some ⟨B, 0, none⟩) cs.size cs.toList :=
  ⟨by simp, .inr ⟨_, rfl, World.news_of_block hb⟩⟩
set_option maxRecDepth 100000 in
set_option maxHeartbeats 1000000 in
theorem j37 (a : Option Addr) (n c B : Nat) (xs : List Int) (m : Int) (w : World) (h : Row w B 5 a n c (u8s xs)) (hex : Ex w 5 a c) (hB : B ≤ w.heap.size) (hn : n + 4 ≤ 140737488355328) (h0 : 0 ≤ m) (h1 : m < 4294967296) :
    Calls Try.prog 28 #[.slice a n c, .int .u32 m] w fun e w' => ∃ a' c', e = .returned (.slice a' (n + 4) c') ∧ Row w' B 5 a' (n + 4) c' (u8s (xs ++ fourI m)) ∧ Below B w w' ∧ Ex w' 5 a' c' := by
  obtain ⟨i0, hi, hz, hs, hb⟩ := infoU8
  have HR : Hid (Row w B 5 a n c (u8s xs)) := h
  have HE : Hid (∀ o : Obj, Ex (w.alloc o) 5 a c) := fun o => hex.keeps fun g hg => heap_alloc_old w o (h.lt hg).2
  clear h hex
  go_enter Try.func28, Try.ntmps28
  go_wp2_with (at_builtin; refine wpList_append_row_ex _ rfl _ _ 29 rfl B 5 i0 (.int .u8 0) 1 Try.underlying29 hi hz hs hb rfl a n c (u8s xs) rfl (HR.out.alloc _) (HE.out _) (some ⟨w.heap.size, 0, none⟩) 4 4 (u8s (fourI m)) rfl (reads_block (cs := #[.int .u8 (m / 16777216), .int .u8 (m / 65536 % 256), .int .u8 (m / 256 % 256), .int .u8 (m % 256)]) (heap_alloc_new w _)) (u8s_one _) (fun e => by cases e) (by unfold maxLen; omega) (by omega) (by simp; omega) ?_)
  intro a' c' w' hr' hg' ho' hx'
  have HF : Hid (Row w' B 5 a' (n + 4) c' (u8s (xs ++ fourI m)) ∧ Below B w w' ∧ Ex w' 5 a' c') := ⟨by rw [u8s_append]; exact hr', ((Below.refl B w).alloc hB _).grown hg' (by simp; omega) (fun g hg => (HR.out.lt hg).1), hx'⟩
  clear hr' hg' ho' hx'
  go_wp2_with fail
  go_ret
  exact ⟨_, _, rfl, HF.out⟩
end Go.Proofs.Ytopljcabcknaeaa
