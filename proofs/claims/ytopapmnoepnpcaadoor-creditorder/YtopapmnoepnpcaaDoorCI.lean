/- Contract of Bits that are carried. -/
import Derived.Test.YtopapmnoepnpcaaDoorCF
import Derived.Test.YtopapmnoepnpcaaDoorCP
namespace Go.Proofs.YtopapmnoepnpcaaDoor
open Go.RowKit
attribute [local go_sem ↓] Go.wp_at_zero Go.wp_at_succ
def lenOf : Value → Nat
  | .slice _ n _ => n
  | _ => 0
def upP : Int → List Int → Prop
  | _, [] => True
  | p, b :: l => p ≤ b ∧ b ≤ 1048576 ∧ upP b l
theorem Row.shrink {w : World} {B : Nat} {a : Option Addr} {m c : Nat} {xs : List Value} {x : Value} (h : Row w B 3 a (m + 1) c (xs ++ [x])) : Row w B 3 a m c xs := by
  have hl : xs.length = m := by have := h.len; simp at this; exact this
  refine ⟨hl, by have := h.cap; omega, h.max, ?_⟩
  rcases h.mem with e | ⟨g, cur, e, h1, h2, h3, h4⟩
  · exact .inl e
  · refine .inr ⟨g, cur, e, h1, h2, h3, ?_⟩
    have := congrArg (List.take m) h4
    rw [List.take_take, Nat.min_eq_left (by omega), List.take_append_of_le_length (by omega)] at this
    rw [this]
    exact List.take_of_length_le (by omega)
theorem fall_strict {r b : Int} {R : List Int} (h : fallP (r :: R) b) (hne : ¬ r = b) : fallP (r :: R) (b - 1) := ⟨h.1, by have := h.2.1; omega, h.2.2⟩
/-- Behind so many Bits. -/
def Cy (w0 w : World) (Bs rest R : List Int) (u p : Int) (k : Nat) (ra : Option Addr) (rc : Nat) : Prop :=
  Row w w0.heap.size 3 ra R.length rc (i64s R.reverse) ∧ Below w0.heap.size w0 w ∧ (∀ N : Nat, 1048576 ≤ N → vl N R + u * pw N 0 + vl N rest = vl N Bs) ∧ fallP R p ∧ (0 ≤ p ∧ p ≤ 1048576) ∧ upP p rest ∧ (0 ≤ u ∧ u ≤ k)
/-- Within one Bit. -/
def Cx (w0 w : World) (R0 R : List Int) (b0 b : Int) (ra : Option Addr) (rc : Nat) : Prop :=
  Row w w0.heap.size 3 ra R.length rc (i64s R.reverse) ∧ Below w0.heap.size w0 w ∧ (∀ N : Nat, 1048576 ≤ N → vl N R + pw N b = vl N R0 + pw N b0) ∧ fallP R b ∧ (0 ≤ b ∧ b ≤ b0 ∧ b0 ≤ 1048576)
theorem cy_zero {w0 wr wr' : World} {Bs T R R' : List Int} {u p y : Int} {k : Nat} {ra ra' : Option Addr} {rc rc' : Nat} (h : Cy w0 wr Bs (y :: T) R u p k ra rc) (hx : Cx w0 wr' R R' y 0 ra' rc') : Cy w0 wr' Bs T R' (u + 1) y (k + 1) ra' rc' := by
  obtain ⟨q1, q2, q3, q4, q5, q6, q7⟩ := h
  obtain ⟨x1, x2, x3, x4, x5⟩ := hx
  obtain ⟨v1, v2, v3⟩ := q6
  refine ⟨x1, x2, fun N hN => ?_, fallP_mono _ _ _ (by omega) x4, by omega, v3, by omega⟩
  have e1 := q3 N hN
  have e2 := x3 N hN
  simp only [vl] at e1
  rw [Int.add_mul, Int.one_mul]
  omega
theorem cy_put {w0 wr wr' w2 : World} {Bs T R R' : List Int} {u p y b : Int} {k : Nat} {ra ra' ra2 : Option Addr} {rc rc' rc2 : Nat} (h : Cy w0 wr Bs (y :: T) R u p k ra rc) (hx : Cx w0 wr' R R' y b ra' rc') (hb : 1 ≤ b) (hs : fallP R' (b - 1)) (hr : Row w2 w0.heap.size 3 ra2 (R'.length + 1) rc2 (i64s R'.reverse ++ i64s [b])) (hw : Below w0.heap.size w0 w2) : Cy w0 w2 Bs T (b :: R') u y (k + 1) ra2 rc2 := by
  obtain ⟨q1, q2, q3, q4, q5, q6, q7⟩ := h
  obtain ⟨x1, x2, x3, x4, x5⟩ := hx
  obtain ⟨v1, v2, v3⟩ := q6
  refine ⟨?_, hw, fun N hN => ?_, ⟨hb, by omega, hs⟩, by omega, v3, by omega⟩
  · have : i64s (b :: R').reverse = i64s R'.reverse ++ i64s [b] := by simp [i64s]
    rw [this]; exact hr
  · have e1 := q3 N hN
    have e2 := x3 N hN
    simp only [vl] at e1 ⊢
    omega
theorem cx_pop {w0 wr : World} {R R' : List Int} {y r : Int} {ra : Option Addr} {rc : Nat} (h : Cx w0 wr R (r :: R') y r ra rc) : Cx w0 wr R R' y (r - 1) ra rc := by
  obtain ⟨x1, x2, x3, ⟨f1, f2, f3⟩, x5⟩ := h
  refine ⟨?_, x2, fun N hN => ?_, f3, by omega⟩
  · have e : i64s (r :: R').reverse = i64s R'.reverse ++ [.int .i64 r] := by simp [i64s]
    rw [e] at x1
    exact x1.shrink
  · have e1 := x3 N hN
    have d := pw_double N r f1 (by omega)
    simp only [vl] at e1
    omega
def CarE (e : Ending) (w w' : World) (Bs : List Int) (n : Nat) : Prop :=
  ∃ u R ra rc, e = .returned (.tuple #[.int .i64 u, .slice ra R.length rc]) ∧ Row w' w.heap.size 3 ra R.length rc (i64s R.reverse) ∧ Below w.heap.size w w' ∧ (∀ N : Nat, 1048576 ≤ N → vl N R + u * pw N 0 = vl N Bs) ∧ riseB 0 R.reverse = true ∧ (0 ≤ u ∧ u ≤ n)
set_option maxRecDepth 100000 in
set_option maxHeartbeats 8000000 in
theorem d20 (a : Option Addr) (n c : Nat) (Bs : List Int) (w : World) (h : In w a n Bs) (hn : n ≤ 1000000000) (hup : upP 0 Bs) : Calls Tryd.prog 20 #[.slice a n c] w fun e w' => CarE e w w' Bs n := by
  obtain ⟨i0, hi, hz, hsz, hby⟩ := infoI64
  have HI : Hid (Tryd.prog.info? 3 = some i0 ∧ i0.zero = some (.int .i64 0) ∧ i0.size = 1 ∧ i0.bytes = 8) := ⟨hi, hz, hsz, hby⟩
  have HN : Hid (In w a n Bs) := h
  have HS : Hid (Cy w w Bs (Bs.drop 0) [] 0 0 0 none 0) := ⟨row_nil _ _ _, Below.refl _ _, fun N _ => by simp [vl], trivial, by omega, hup, by omega⟩
  clear h hi hz hsz hby hup
  go_enter Tryd.func20, Tryd.ntmps20
  go_wp2_with fail
  go_loopw [2, 3, 5, 6, 9] (fun su sr _ _ i wr => ∃ (k : Nat) (R : List Int) (u p : Int) (ra : Option Addr) (rc : Nat), k ≤ n ∧ su = .int .i64 u ∧ sr = .slice ra R.length rc ∧ i = .int .i64 k ∧ 0 ≤ u ∧ u ≤ k ∧ Hid (Cy w wr Bs (Bs.drop k) R u p k ra rc) ∧ R.length ≤ k) (fun _ _ _ _ i _ => n - (intOf i).toNat)
  case atStart => exact ⟨0, [], 0, 0, none, 0, Nat.zero_le _, rfl, rfl, rfl, by omega, by omega, HS, by simp⟩
  case round =>
    clear HS
    obtain ⟨k, R, u, p, ra, rc, hk, rfl, rfl, rfl, hu0, hu1, HC, hRk⟩ := hrel
    by_cases hlt : k < n
    · have hltI : (k : Int) < (n : Int) := by omega
      have hk0 : (0 : Int) ≤ (k : Int) := by omega
      obtain ⟨b, o, hx, rfl, p0⟩ := (HN.out.below HC.out.2.1).at hlt
      have HD : Hid (Bs.drop k = Bs[k] :: Bs.drop (k + 1)) := List.drop_eq_getElem_cons hx
      generalize Bs[k] = y at *
      have HU : Hid (p ≤ y ∧ y ≤ 1048576 ∧ upP y (Bs.drop (k + 1))) := by
        have := HC.out.2.2.2.2.2.1
        rw [HD.out] at this
        exact this
      have HX : Hid (Cx w wr R R y y ra rc) := by
        obtain ⟨q1, q2, q3, q4, q5, q6, q7⟩ := HC.out
        obtain ⟨v1, v2, v3⟩ := HU.out
        exact ⟨q1, q2, fun N _ => rfl, fallP_mono _ _ _ v1 q4, by omega⟩
      have hRn : (R.length : Int) ≤ 1000000000 := by omega
      have hRl : Hid (R.length ≤ k) := hRk
      clear hRk
      go_wp2_with fail
      go_loopw [3, 5, 6] (fun sr sb sl wr => ∃ (R' : List Int) (b' : Int), sr = .slice ra R'.length rc ∧ sb = .int .i64 b' ∧ sl = .int .i64 ((R'.length : Int) - 1) ∧ R'.length ≤ R.length ∧ 0 ≤ b' ∧ b' ≤ 1048576 ∧ Hid (Cx w wr R R' y b' ra rc)) (fun sr _ _ _ => lenOf sr)
      case atStart => exact ⟨R, y, rfl, rfl, by go_num, Nat.le_refl _, by have := HX.out.2.2.2.2; omega, by have := HX.out.2.2.2.2; omega, HX⟩
      case round =>
        clear HX
        obtain ⟨R', b', rfl, rfl, rfl, hle, hb0, hb1, HX⟩ := hrel
        cases R' with
        | nil =>
          by_cases hz : b' = 0
          · subst hz
            have H5 : Hid (Cy w wr Bs (Bs.drop (k + 1)) [] (u + 1) y (k + 1) ra rc) := by
              have hc := HC.out
              rw [HD.out] at hc
              exact cy_zero hc HX.out
            go_wp2_with fail
            go_roundw
            case rel => exact ⟨k + 1, [], u + 1, y, ra, rc, by omega, rfl, rfl, by go_num, by omega, by omega, H5, by simp⟩
            case measure => simp [intOf]; omega
          · have hput : Hid (fallP ([] : List Int) (b' - 1) ∧ 1 ≤ b') := ⟨trivial, by omega⟩
            obtain ⟨W, hW⟩ : ∃ W, wr.alloc (.cells #[.int .i64 b'] 3) = W := ⟨_, rfl⟩
            have HR : Hid (Row W w.heap.size 3 ra 0 rc (i64s ([] : List Int).reverse) ∧ Below w.heap.size w W ∧ In W (some ⟨wr.heap.size, 0, none⟩) 1 [b']) := by
              rw [← hW]
              exact ⟨HX.out.1.alloc _, HX.out.2.1.alloc HX.out.2.1.size _, in_one wr b'⟩
            go_wp2_with (at_builtin; refine wpList_append_row _ rfl _ _ 22 rfl w.heap.size 3 i0 (.int .i64 0) 8 Tryd.underlying22 HI.out.1 HI.out.2.1 HI.out.2.2.1 HI.out.2.2.2 rfl ra 0 rc (i64s ([] : List Int).reverse) rfl HR.out.1 _ 1 1 (i64s [b']) rfl HR.out.2.2.reads (i64s_one _) (fun e => by cases e) (by unfold maxLen; omega) (by omega) HR.out.2.1.size ?_)
            intro ra2 rc2 w5 r1 r2 r3 _ _
            have H5 : Hid (Cy w w5 Bs (Bs.drop (k + 1)) (b' :: ([] : List Int)) u y (k + 1) ra2 rc2) := by
              have hc := HC.out
              rw [HD.out] at hc
              refine cy_put hc HX.out hput.out.2 hput.out.1 (by simpa using r1) (HR.out.2.1.trans ⟨r2.os, r2.tape, r2.output, r2.size, fun j hj => r2.block j (Nat.lt_of_lt_of_le hj HR.out.2.1.size) fun e => ?_⟩)
              have := (HR.out.1.lt e.symm).1
              omega
            clear r1 r2 r3 HR hW
            go_wp2_with fail
            go_roundw
            case rel => exact ⟨k + 1, b' :: ([] : List Int), u, y, ra2, rc2, by omega, rfl, by go_num, by go_num, by omega, by omega, H5, by simp⟩
            case measure => simp [intOf]; omega
        | cons r R'' =>
          have hm : R''.length ≤ 1000000000 := by simp at hle; omega
          have hmI : (R''.length : Int) ≤ 1000000000 := by omega
          have HV : Hid (In wr ra (R''.length + 1) ((r :: R'').reverse)) := HX.out.1.in
          obtain ⟨g, o, hx2, hra, p1⟩ := HV.out.at (show R''.length < R''.length + 1 by omega)
          have e1 : (r :: R'').reverse[R''.length] = r := by simp
          rw [e1] at p1
          have hcap : R''.length + 1 ≤ rc := by have := HX.out.1.cap; simpa using this
          subst hra
          have hsl := run_head (some ⟨g, o, none⟩) (R''.length + 1) rc R''.length (by omega)
          clear hx2 e1 HV
          by_cases hrb : r = b'
          · subst hrb
            have H5 := cx_pop HX.out
            have HX2 : Hid (Cx w wr R R'' y (r - 1) (some ⟨g, o, none⟩) rc) := H5
            have hr1 : 1 ≤ r := HX.out.2.2.2.1.1
            clear H5
            go_wp2_with fail
            go_roundw
            case rel => exact ⟨R'', r - 1, rfl, by go_num, by go_num, by simp at hle; omega, by omega, by omega, HX2⟩
            case measure => simp [lenOf]
          · have hfs : Hid (fallP (r :: R'') (b' - 1)) := fall_strict HX.out.2.2.2.1 hrb
            by_cases hz : b' = 0
            · exfalso
              have := HX.out.2.2.2.1.1
              have := HX.out.2.2.2.1.2.1
              omega
            · have hput : Hid (fallP (r :: R'') (b' - 1) ∧ 1 ≤ b') := ⟨hfs.out, by omega⟩
              obtain ⟨W, hW⟩ : ∃ W, wr.alloc (.cells #[.int .i64 b'] 3) = W := ⟨_, rfl⟩
              have HR : Hid (Row W w.heap.size 3 (some ⟨g, o, none⟩) (R''.length + 1) rc (i64s (r :: R'').reverse) ∧ Below w.heap.size w W ∧ In W (some ⟨wr.heap.size, 0, none⟩) 1 [b']) := by
                rw [← hW]
                exact ⟨HX.out.1.alloc _, HX.out.2.1.alloc HX.out.2.1.size _, in_one wr b'⟩
              go_wp2_with (at_builtin; refine wpList_append_row _ rfl _ _ 22 rfl w.heap.size 3 i0 (.int .i64 0) 8 Tryd.underlying22 HI.out.1 HI.out.2.1 HI.out.2.2.1 HI.out.2.2.2 rfl (some ⟨g, o, none⟩) (R''.length + 1) rc (i64s (r :: R'').reverse) rfl HR.out.1 _ 1 1 (i64s [b']) rfl HR.out.2.2.reads (i64s_one _) (fun e => by cases e) (by unfold maxLen; omega) (by omega) HR.out.2.1.size ?_)
              intro ra2 rc2 w5 r1 r2 r3 _
              have H5 : Hid (Cy w w5 Bs (Bs.drop (k + 1)) (b' :: (r :: R'')) u y (k + 1) ra2 rc2) := by
                have hc := HC.out
                rw [HD.out] at hc
                refine cy_put hc HX.out hput.out.2 hput.out.1 (by simpa using r1) (HR.out.2.1.trans ⟨r2.os, r2.tape, r2.output, r2.size, fun j hj => r2.block j (Nat.lt_of_lt_of_le hj HR.out.2.1.size) fun e => ?_⟩)
                have := (HR.out.1.lt e.symm).1
                omega
              clear r1 r2 r3 HR hW
              go_wp2_with fail
              go_roundw
              case rel => exact ⟨k + 1, b' :: (r :: R''), u, y, ra2, rc2, by omega, rfl, by go_num, by go_num, by omega, by omega, H5, by have := hRl.out; simp at hle ⊢; omega⟩
              case measure => simp [intOf]; omega
    · have HE : Hid (CarE (.returned (.tuple #[.int .i64 u, .slice ra R.length rc])) w wr Bs n) := by
        obtain ⟨q1, q2, q3, q4, q5, q6, q7⟩ := HC.out
        have hd : Bs.drop k = [] := List.drop_of_length_le (by rw [HN.out.len]; omega)
        refine ⟨u, R, ra, rc, rfl, q1, q2, fun N hN => ?_, fall_right R p q5.2 q4, by omega⟩
        have := q3 N hN
        rw [hd] at this
        simpa [vl] using this
      go_wp2_with fail
      go_ret2
      exact HE.out
end Go.Proofs.YtopapmnoepnpcaaDoor
