/- Contracts of the small functions on bytes, of Run, IndexByte, HasPrefix. -/
import Derived.Test.YtiemngihndbobaaDoorRows
import Derived.WalkKit
import Derived.WalkSpells
import Derived.WalkLawsBesides
import Derived.Deep.QuietTactic
import Derived.BigQuiet
import Derived.Lib.Bytealg
import Derived.Lib.IndexAny
namespace Go.Proofs.YtiemngihndbobaaDoor.Lx
open Go.RowKit
def smallB (c : UInt8) : Bool := decide (97 ≤ (c.toNat : Int)) && decide ((c.toNat : Int) ≤ 122)
def capitalB (c : UInt8) : Bool := decide (65 ≤ (c.toNat : Int)) && decide ((c.toNat : Int) ≤ 90)
def digitB (c : UInt8) : Bool := decide (48 ≤ (c.toNat : Int)) && decide ((c.toNat : Int) ≤ 57)
def innerB (c : UInt8) : Bool := smallB c || capitalB c || digitB c || ((c.toNat : Int) == 95)
def lineB (c : UInt8) : Bool := (c.toNat : Int) != 10
set_option maxHeartbeats 400000 in
theorem c38 (c : UInt8) (w : World) :
    Calls Tryd.prog 13 #[.int .u8 (c.toNat : Int)] w fun e w' => e = .returned (.bool (smallB c)) ∧ w' = w := by
  by_cases h : 97 ≤ (c.toNat : Int)
  · have hb : smallB c = decide ((c.toNat : Int) ≤ 122) := by simp [smallB, h]
    rw [hb]; clear hb
    go_enter Tryd.func13, Tryd.ntmps13
    go_wp2
    go_ret
    exact ⟨rfl, rfl⟩
  · have hb : smallB c = false := by unfold smallB; rw [decide_eq_false h]; rfl
    rw [hb]; clear hb
    go_enter Tryd.func13, Tryd.ntmps13
    go_wp2
    go_ret
    exact ⟨rfl, rfl⟩
set_option maxHeartbeats 400000 in
theorem c37 (c : UInt8) (w : World) :
    Calls Tryd.prog 23 #[.int .u8 (c.toNat : Int)] w fun e w' => e = .returned (.bool (capitalB c)) ∧ w' = w := by
  by_cases h : 65 ≤ (c.toNat : Int)
  · have hb : capitalB c = decide ((c.toNat : Int) ≤ 90) := by simp [capitalB, h]
    rw [hb]; clear hb
    go_enter Tryd.func23, Tryd.ntmps23
    go_wp2
    go_ret
    exact ⟨rfl, rfl⟩
  · have hb : capitalB c = false := by unfold capitalB; rw [decide_eq_false h]; rfl
    rw [hb]; clear hb
    go_enter Tryd.func23, Tryd.ntmps23
    go_wp2
    go_ret
    exact ⟨rfl, rfl⟩
set_option maxHeartbeats 400000 in
theorem c40 (c : UInt8) (w : World) :
    Calls Tryd.prog 24 #[.int .u8 (c.toNat : Int)] w fun e w' => e = .returned (.bool (digitB c)) ∧ w' = w := by
  by_cases h : 48 ≤ (c.toNat : Int)
  · have hb : digitB c = decide ((c.toNat : Int) ≤ 57) := by simp [digitB, h]
    rw [hb]; clear hb
    go_enter Tryd.func24, Tryd.ntmps24
    go_wp2
    go_ret
    exact ⟨rfl, rfl⟩
  · have hb : digitB c = false := by unfold digitB; rw [decide_eq_false h]; rfl
    rw [hb]; clear hb
    go_enter Tryd.func24, Tryd.ntmps24
    go_wp2
    go_ret
    exact ⟨rfl, rfl⟩
set_option maxHeartbeats 400000 in
theorem c36 (c : UInt8) (w : World) :
    Calls Tryd.prog 47 #[.int .u8 (c.toNat : Int)] w fun e w' => e = .returned (.bool (lineB c)) ∧ w' = w := by
  unfold lineB
  go_enter Tryd.func47, Tryd.ntmps47
  go_wp2
  go_ret
  exact ⟨rfl, rfl⟩
set_option maxHeartbeats 400000 in
theorem c54 (c : UInt8) (w : World) :
    Calls Tryd.prog 15 #[.int .u8 (c.toNat : Int)] w fun e w' => e = .returned (.bool (innerB c)) ∧ w' = w := by
  have hb : innerB c = (smallB c || capitalB c || digitB c || ((c.toNat : Int) == 95)) := rfl
  rw [hb]; clear hb
  have H58 := c38 c
  have H66 := c37 c
  have H67 := c40 c
  generalize smallB c = s at *
  generalize capitalB c = k at *
  generalize digitB c = d at *
  have H58 : Hid (∀ w, Calls Tryd.prog 13 #[.int .u8 (c.toNat : Int)] w fun e w' => e = .returned (.bool s) ∧ w' = w) := H58
  have H66 : Hid (∀ w, Calls Tryd.prog 23 #[.int .u8 (c.toNat : Int)] w fun e w' => e = .returned (.bool k) ∧ w' = w) := H66
  have H67 : Hid (∀ w, Calls Tryd.prog 24 #[.int .u8 (c.toNat : Int)] w fun e w' => e = .returned (.bool d) ∧ w' = w) := H67
  cases s <;> cases k <;> cases d
  all_goals
    go_enter Tryd.func15, Tryd.ntmps15
    go_wp2_with (first | (go_at_call 13; refine (H58.out _).mono ?_; rintro e w' ⟨rfl, rfl⟩) | (go_at_call 23; refine (H66.out _).mono ?_; rintro e w' ⟨rfl, rfl⟩) | (go_at_call 24; refine (H67.out _).mono ?_; rintro e w' ⟨rfl, rfl⟩))
    go_ret
    exact ⟨rfl, rfl⟩
/-- How many bytes at the beginning are of a kind. -/
def runP (p : UInt8 → Bool) (l : List UInt8) : Nat := (l.takeWhile p).length
theorem runP_stop (p : UInt8 → Bool) (l : List UInt8) (k : Nat) (hk : k < l.length) (h : (l.take k).all p = true) (hn : p l[k] = false) : runP p l = k := by
  unfold runP
  induction l generalizing k with
  | nil => simp at hk
  | cons a r ih =>
    cases k with
    | zero => simp at hn; simp [hn]
    | succ k =>
      simp at h hk hn
      have := ih k hk (by simpa using h.2) hn
      simp [h.1, this]
theorem runP_all (p : UInt8 → Bool) (l : List UInt8) (h : l.all p = true) : runP p l = l.length := by
  unfold runP
  induction l with
  | nil => rfl
  | cons a r ih => simp at h; simp [h.1]; exact ih (by simpa using h.2)
theorem all_snocP (p : UInt8 → Bool) (s : ByteArray) (k : Nat) (hk : k < s.size) (h : (s.data.toList.take k).all p = true) (hi : p s[k] = true) : (s.data.toList.take (k + 1)).all p = true := by
  have e : s.data.toList.take (k + 1) = s.data.toList.take k ++ [s[k]] := by
    rw [List.take_succ_eq_append_getElem (by simpa using hk)]; rfl
  rw [e, List.all_append, h]
  simp [hi]
set_option maxHeartbeats 400000 in
theorem c35_54 (s : ByteArray) (w : World) (hs : s.size ≤ maxLen) :
    Calls Tryd.prog 14 #[.string s, .func (.func 15) #[] #[]] w fun e w' => e = .returned (.int .i64 (runP innerB s.data.toList)) ∧ w' = w := by
  unfold maxLen at hs
  go_enter Tryd.func14, Tryd.ntmps14
  go_wp2
  go_loop [8] (fun i => ∃ k : Nat, k ≤ s.size ∧ i = .int .i64 k ∧ (s.data.toList.take k).all innerB = true) (fun i => s.size - (intOf i).toNat)
  case atStart => exact ⟨0, Nat.zero_le _, rfl, rfl⟩
  case round =>
    obtain ⟨k, hk, rfl, hall⟩ := hrel
    have HA : Hid ((s.data.toList.take k).all innerB = true) := hall
    clear hall
    by_cases hlt : k < s.size
    · have H60 : Hid (∀ w, Calls Tryd.prog 15 #[.int .u8 (s[k].toNat : Int)] w fun e w' => e = .returned (.bool (innerB s[k])) ∧ w' = w) := c54 s[k]
      cases hi : innerB s[k]
      · have hrun : Hid (runP innerB s.data.toList = k) := runP_stop _ _ k (by simpa using hlt) HA.out hi
        rw [hi] at H60
        clear hi
        go_wp2_with (first | (go_at_call 15; refine (H60.out _).mono ?_; rintro e w' ⟨rfl, rfl⟩))
        go_ret
        exact ⟨by rw [hrun.out]; rfl, rfl⟩
      · have hA := all_snocP innerB s k hlt HA.out hi
        rw [hi] at H60
        clear hi
        go_wp2_with (first | (go_at_call 15; refine (H60.out _).mono ?_; rintro e w' ⟨rfl, rfl⟩))
        go_round
        case rel => exact ⟨k + 1, by omega, by go_num, hA⟩
        case measure => simp [intOf]; omega
    · have hrun : Hid (runP innerB s.data.toList = s.size) := by
        show runP innerB s.data.toList = s.size
        have h1 := HA.out
        rw [List.take_of_length_le (by simp; omega)] at h1
        have h2 := runP_all _ _ h1
        exact by simpa using h2
      go_wp2
      go_ret
      exact ⟨by rw [hrun.out]; rfl, rfl⟩
set_option maxHeartbeats 400000 in
theorem c35_40 (s : ByteArray) (w : World) (hs : s.size ≤ maxLen) :
    Calls Tryd.prog 14 #[.string s, .func (.func 24) #[] #[]] w fun e w' => e = .returned (.int .i64 (runP digitB s.data.toList)) ∧ w' = w := by
  unfold maxLen at hs
  go_enter Tryd.func14, Tryd.ntmps14
  go_wp2
  go_loop [8] (fun i => ∃ k : Nat, k ≤ s.size ∧ i = .int .i64 k ∧ (s.data.toList.take k).all digitB = true) (fun i => s.size - (intOf i).toNat)
  case atStart => exact ⟨0, Nat.zero_le _, rfl, rfl⟩
  case round =>
    obtain ⟨k, hk, rfl, hall⟩ := hrel
    have HA : Hid ((s.data.toList.take k).all digitB = true) := hall
    clear hall
    by_cases hlt : k < s.size
    · have H60 : Hid (∀ w, Calls Tryd.prog 24 #[.int .u8 (s[k].toNat : Int)] w fun e w' => e = .returned (.bool (digitB s[k])) ∧ w' = w) := c40 s[k]
      cases hi : digitB s[k]
      · have hrun : Hid (runP digitB s.data.toList = k) := runP_stop _ _ k (by simpa using hlt) HA.out hi
        rw [hi] at H60
        clear hi
        go_wp2_with (first | (go_at_call 24; refine (H60.out _).mono ?_; rintro e w' ⟨rfl, rfl⟩))
        go_ret
        exact ⟨by rw [hrun.out]; rfl, rfl⟩
      · have hA := all_snocP digitB s k hlt HA.out hi
        rw [hi] at H60
        clear hi
        go_wp2_with (first | (go_at_call 24; refine (H60.out _).mono ?_; rintro e w' ⟨rfl, rfl⟩))
        go_round
        case rel => exact ⟨k + 1, by omega, by go_num, hA⟩
        case measure => simp [intOf]; omega
    · have hrun : Hid (runP digitB s.data.toList = s.size) := by
        show runP digitB s.data.toList = s.size
        have h1 := HA.out
        rw [List.take_of_length_le (by simp; omega)] at h1
        have h2 := runP_all _ _ h1
        exact by simpa using h2
      go_wp2
      go_ret
      exact ⟨by rw [hrun.out]; rfl, rfl⟩
set_option maxHeartbeats 400000 in
theorem c35_36 (s : ByteArray) (w : World) (hs : s.size ≤ maxLen) :
    Calls Tryd.prog 14 #[.string s, .func (.func 47) #[] #[]] w fun e w' => e = .returned (.int .i64 (runP lineB s.data.toList)) ∧ w' = w := by
  unfold maxLen at hs
  go_enter Tryd.func14, Tryd.ntmps14
  go_wp2
  go_loop [8] (fun i => ∃ k : Nat, k ≤ s.size ∧ i = .int .i64 k ∧ (s.data.toList.take k).all lineB = true) (fun i => s.size - (intOf i).toNat)
  case atStart => exact ⟨0, Nat.zero_le _, rfl, rfl⟩
  case round =>
    obtain ⟨k, hk, rfl, hall⟩ := hrel
    have HA : Hid ((s.data.toList.take k).all lineB = true) := hall
    clear hall
    by_cases hlt : k < s.size
    · have H60 : Hid (∀ w, Calls Tryd.prog 47 #[.int .u8 (s[k].toNat : Int)] w fun e w' => e = .returned (.bool (lineB s[k])) ∧ w' = w) := c36 s[k]
      cases hi : lineB s[k]
      · have hrun : Hid (runP lineB s.data.toList = k) := runP_stop _ _ k (by simpa using hlt) HA.out hi
        rw [hi] at H60
        clear hi
        go_wp2_with (first | (go_at_call 47; refine (H60.out _).mono ?_; rintro e w' ⟨rfl, rfl⟩))
        go_ret
        exact ⟨by rw [hrun.out]; rfl, rfl⟩
      · have hA := all_snocP lineB s k hlt HA.out hi
        rw [hi] at H60
        clear hi
        go_wp2_with (first | (go_at_call 47; refine (H60.out _).mono ?_; rintro e w' ⟨rfl, rfl⟩))
        go_round
        case rel => exact ⟨k + 1, by omega, by go_num, hA⟩
        case measure => simp [intOf]; omega
    · have hrun : Hid (runP lineB s.data.toList = s.size) := by
        show runP lineB s.data.toList = s.size
        have h1 := HA.out
        rw [List.take_of_length_le (by simp; omega)] at h1
        have h2 := runP_all _ _ h1
        exact by simpa using h2
      go_wp2
      go_ret
      exact ⟨by rw [hrun.out]; rfl, rfl⟩
def blankB (c : UInt8) : Bool := [32, 9, 13, 10].contains c
set_option maxHeartbeats 1000000 in
set_option maxRecDepth 100000 in
theorem c53 (s : ByteArray) (c : Int) (w : World) :
    Calls Tryd.prog 53 #[.string s, .int .u8 c] w fun e w' => e = .returned (.int .i64 (Lib.indexByte s.data.toList c.toNat.toUInt8)) ∧ w' = w := by
  go_enter Tryd.func53, Tryd.ntmps53
  go_wp2
  rw [run_callFunc_extern Tryd.func56 (by kernel_rfl) (by kernel_rfl) (by kernel_rfl) (e := Extern.BytealgIndexByte.indexByte) (by kernel_rfl), Lib.run_indexByteString]
  simp only [Result.andThen]
  rw [Oper.upon_value]
  go_wp2
  go_ret
  exact ⟨rfl, rfl⟩
set_option maxHeartbeats 400000 in
theorem c34 (s : ByteArray) (c : UInt8) (w : World) :
    Calls Tryd.prog 46 #[.string s, .int .u8 (c.toNat : Int)] w fun e w' => e = .returned (.int .i64 (Lib.indexByte s.data.toList c)) ∧ w' = w := by
  have H53 := c53 s (c.toNat : Int)
  have e1 : ((c.toNat : Int)).toNat.toUInt8 = c := by simp
  rw [e1] at H53
  clear e1
  generalize Lib.indexByte s.data.toList c = n at *
  go_enter Tryd.func46, Tryd.ntmps46
  go_wp2_with (go_at_call 53; refine (H53 _).mono ?_; rintro e w' ⟨rfl, rfl⟩)
  go_ret
  exact ⟨rfl, rfl⟩
theorem ext_list (s : ByteArray) (a b : Nat) : (s.extract a b).data.toList = (s.data.toList.take b).drop a := by
  rw [ByteArray.data_extract, Array.toList_extract, List.extract_eq_take_drop, List.drop_take]
theorem byte_ext {s t : ByteArray} (h : s.data.toList = t.data.toList) : s = t := by
  obtain ⟨⟨l⟩⟩ := s
  obtain ⟨⟨m⟩⟩ := t
  simp at h
  rw [h]
theorem beq_list (s t : ByteArray) : (s.toList == t.toList) = decide (s.data.toList = t.data.toList) := by
  rw [ByteArray.toList_eq, ByteArray.toList_eq, Bool.eq_iff_iff]; simp
theorem len_list (s : ByteArray) : s.data.toList.length = s.size := by simp
/-- Does a text begin with another one? -/
def prefB (s t : List UInt8) : Bool := decide (t <+: s)
set_option maxHeartbeats 400000 in
theorem c61 (s t : ByteArray) (w : World) (_hs : s.size ≤ maxLen) (_ht : t.size ≤ maxLen) :
    Calls Tryd.prog 57 #[.string s, .string t] w fun e w' => e = .returned (.bool (prefB s.data.toList t.data.toList)) ∧ w' = w := by
  unfold maxLen at _hs _ht
  by_cases h : (t.size : Int) ≤ (s.size : Int)
  · have e1 : ((s.extract 0 t.size).toList == t.toList) = prefB s.data.toList t.data.toList := by
      rw [beq_list, ext_list, List.drop_zero]
      unfold prefB
      rw [decide_eq_decide]
      rw [List.prefix_iff_eq_take, len_list]
      exact ⟨fun h => h.symm, fun h => h.symm⟩
    have E1 : Hid _ := e1
    clear e1
    go_enter Tryd.func57, Tryd.ntmps57
    go_wp2
    go_ret
    exact ⟨by rw [E1.out]; rfl, rfl⟩
  · have e1 : prefB s.data.toList t.data.toList = false := by
      unfold prefB
      rw [decide_eq_false_iff_not]
      intro h2
      have := h2.length_le
      rw [len_list, len_list] at this
      omega
    rw [e1]
    clear e1
    go_enter Tryd.func57, Tryd.ntmps57
    go_wp2
    go_ret
    exact ⟨rfl, rfl⟩
set_option maxHeartbeats 400000 in
theorem c56 (s t : ByteArray) (w : World) (hs : s.size ≤ maxLen) (ht : t.size ≤ maxLen) :
    Calls Tryd.prog 55 #[.string s, .string t] w fun e w' => e = .returned (.bool (prefB s.data.toList t.data.toList)) ∧ w' = w := by
  have H61 := fun w => c61 s t w hs ht
  generalize prefB s.data.toList t.data.toList = b at *
  go_enter Tryd.func55, Tryd.ntmps55
  go_wp2_with (go_at_call 57; refine (H61 _).mono ?_; rintro e w' ⟨rfl, rfl⟩)
  go_ret
  exact ⟨rfl, rfl⟩
/-- How many bytes of blanks and remarks a text begins with. -/
def gapN : Nat → List UInt8 → Nat
  | 0, _ => 0
  | _ + 1, [] => 0
  | f + 1, c :: r => if blankB c then 1 + gapN f r else if (c.toNat : Int) == 37 then (1 + runP lineB r) + gapN f (r.drop (runP lineB r)) else 0
def gapL (l : List UInt8) : Nat := gapN l.length l
theorem gapN_more : ∀ (n : Nat) (l : List UInt8), l.length ≤ n → ∀ f, l.length ≤ f → gapN f l = gapN l.length l
  | 0, l, h, f, _ => by
    have : l = [] := List.eq_nil_of_length_eq_zero (by omega)
    subst this
    cases f <;> rfl
  | n + 1, [], _, f, _ => by cases f <;> rfl
  | n + 1, c :: r, h, f, hf => by
    simp at h hf
    obtain ⟨f, rfl⟩ : ∃ f', f = f' + 1 := ⟨f - 1, by omega⟩
    simp only [List.length_cons, gapN]
    split
    · rw [gapN_more n r h f (by omega)]
    · split
      · have hl : (r.drop (runP lineB r)).length ≤ r.length := by simp
        rw [gapN_more n (r.drop (runP lineB r)) (by omega) f (by omega), gapN_more n (r.drop (runP lineB r)) (by omega) r.length hl]
      · rfl
theorem gap_blank (c : UInt8) (r : List UInt8) (h : blankB c = true) : gapL (c :: r) = 1 + gapL r := by
  unfold gapL; simp only [List.length_cons, gapN]; rw [if_pos h]
theorem gap_rem (c : UInt8) (r : List UInt8) (h : blankB c = false) (h2 : ((c.toNat : Int) == 37) = true) : gapL (c :: r) = (1 + runP lineB r) + gapL (r.drop (runP lineB r)) := by
  unfold gapL; simp only [List.length_cons, gapN]; rw [if_neg (by simp [h]), if_pos h2]
  rw [gapN_more r.length (r.drop (runP lineB r)) (by simp) r.length (by simp)]
theorem gap_stop (c : UInt8) (r : List UInt8) (h : blankB c = false) (h2 : ((c.toNat : Int) == 37) = false) : gapL (c :: r) = 0 := by
  unfold gapL; simp only [List.length_cons, gapN]; rw [if_neg (by simp [h]), if_neg (by simp [h2])]
theorem runP_le (p : UInt8 → Bool) (l : List UInt8) : runP p l ≤ l.length := by
  unfold runP
  exact (List.takeWhile_prefix p).length_le
theorem drop_consB (s : ByteArray) (k : Nat) (h : k < s.size) : s.data.toList.drop k = s[k] :: s.data.toList.drop (k + 1) := by
  rw [List.drop_eq_getElem_cons (by rw [len_list]; exact h)]; rfl
theorem rem_line (c : UInt8) (r : List UInt8) (h2 : ((c.toNat : Int) == 37) = true) : runP lineB (c :: r) = 1 + runP lineB r := by
  have : lineB c = true := by unfold lineB; simp at h2 ⊢; omega
  unfold runP
  rw [List.takeWhile_cons, if_pos this, List.length_cons]; omega
theorem take_all (s : ByteArray) : s.data.toList.take s.size = s.data.toList := List.take_of_length_le (by rw [len_list]; omega)
set_option maxHeartbeats 1000000 in
theorem c20 (s : ByteArray) (w : World) (hs : s.size ≤ maxLen) :
    Calls Tryd.prog 32 #[.string s] w fun e w' => e = .returned (.int .i64 (gapL s.data.toList)) ∧ w' = w := by
  have hs' := hs
  unfold maxLen at hs
  go_enter Tryd.func32, Tryd.ntmps32
  go_wp2
  go_loop [3] (fun i => ∃ k : Nat, k ≤ s.size ∧ i = .int .i64 k ∧ Hid (gapL s.data.toList = k + gapL (s.data.toList.drop k))) (fun i => s.size - (intOf i).toNat)
  case atStart => exact ⟨0, Nat.zero_le _, rfl, by show _ = _; simp⟩
  case round =>
    obtain ⟨k, hk, rfl, HG⟩ := hrel
    by_cases hlt : k < s.size
    · have hlt' : (k : Int) < (s.size : Int) := by omega
      have H34 := fun w => c34 ⟨#[32, 9, 13, 10]⟩ s[k] w
      have hcon := Lib.contains_iff_indexByte [32, 9, 13, 10] s[k]
      have hcon : blankB s[k] = decide (0 ≤ Lib.indexByte [32, 9, 13, 10] s[k]) := hcon
      have H34 : ∀ w, Calls Tryd.prog 46 #[.string ⟨#[32, 9, 13, 10]⟩, .int .u8 (s[k].toNat : Int)] w fun e w' => e = .returned (.int .i64 (Lib.indexByte [32, 9, 13, 10] s[k])) ∧ w' = w := H34
      rw [drop_consB s k hlt] at HG
      generalize Lib.indexByte [32, 9, 13, 10] s[k] = n at *
      cases hbl : blankB s[k]
      · rw [hbl] at hcon
        have hn : ¬ (0 ≤ n) := by simpa using hcon.symm
        cases h37 : ((s[k].toNat : Int) == 37)
        · have hE : Hid (gapL s.data.toList = k) := by
            show gapL s.data.toList = k
            rw [HG.out, gap_stop _ _ hbl h37]; rfl
          clear hcon hbl HG
          go_wp2_with (go_at_call 46; refine (H34 _).mono ?_; rintro e w' ⟨rfl, rfl⟩)
          go_ret
          exact ⟨by rw [hE.out]; rfl, rfl⟩
        · have hE : gapL s.data.toList = (k + (1 + runP lineB (s.data.toList.drop (k + 1)))) + gapL (s.data.toList.drop (k + (1 + runP lineB (s.data.toList.drop (k + 1))))) := by
            rw [HG.out, gap_rem _ _ hbl h37, List.drop_drop]
            rw [show k + 1 + runP lineB (s.data.toList.drop (k + 1)) = k + (1 + runP lineB (s.data.toList.drop (k + 1))) by omega]
            omega
          have hr := runP_le lineB (s.data.toList.drop (k + 1))
          rw [List.length_drop, len_list] at hr
          have H35 := fun w => c35_36 (s.extract k s.size) w (by rw [ByteArray.size_extract]; unfold maxLen; omega)
          have e1 : runP lineB (s.extract k s.size).data.toList = 1 + runP lineB (s.data.toList.drop (k + 1)) := by
            rw [ext_list, take_all, drop_consB s k hlt]; exact rem_line _ _ h37
          rw [e1] at H35
          have hm0 : k + (1 + runP lineB (s.data.toList.drop (k + 1))) ≤ s.size ∧ 0 < 1 + runP lineB (s.data.toList.drop (k + 1)) := by omega
          clear e1 hcon hbl HG hr
          generalize 1 + runP lineB (s.data.toList.drop (k + 1)) = m at *
          have HE : Hid (gapL s.data.toList = (k + m) + gapL (s.data.toList.drop (k + m))) := hE
          clear hE
          obtain ⟨hm, hm1⟩ := hm0
          go_wp2_with (first | (go_at_call 46; refine (H34 _).mono ?_; rintro e w' ⟨rfl, rfl⟩) | (go_at_call 14; refine (H35 _).mono ?_; rintro e w' ⟨rfl, rfl⟩))
          go_round
          case rel => exact ⟨k + m, by omega, by go_num, HE⟩
          case measure => simp [intOf]; omega
      · rw [hbl] at hcon
        have hn : 0 ≤ n := by simpa using hcon.symm
        have hE : Hid (gapL s.data.toList = (k + 1) + gapL (s.data.toList.drop (k + 1))) := by
          show _ = _
          rw [HG.out, gap_blank _ _ hbl]; omega
        clear hcon hbl HG
        go_wp2_with (go_at_call 46; refine (H34 _).mono ?_; rintro e w' ⟨rfl, rfl⟩)
        go_round
        case rel => exact ⟨k + 1, by omega, by go_num, hE⟩
        case measure => simp [intOf]; omega
    · have hE : Hid (gapL s.data.toList = k) := by
        show gapL s.data.toList = k
        rw [HG.out, List.drop_of_length_le (by rw [len_list]; omega)]; rfl
      have hlt' : ¬ ((k : Int) < (s.size : Int)) := by omega
      go_wp2
      go_ret
      exact ⟨by rw [hE.out]; rfl, rfl⟩
end Go.Proofs.YtiemngihndbobaaDoor.Lx
