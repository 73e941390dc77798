/- Contract of Reckon. -/
import Derived.Test.YtaehhophaaipdaaGreatDoorAR4p
import Derived.Laws.EntriesVeiled
namespace Go.Proofs.YtaehhophaaipdaaGreatDoor
open Go.RowKit
def opT : Nat → ByteArray
  | 0 => ⟨#[43]⟩
  | 1 => ⟨#[45]⟩
  | 2 => ⟨#[42]⟩
  | 3 => ⟨#[100, 105, 118]⟩
  | 4 => ⟨#[109, 111, 100]⟩
  | 5 => ⟨#[109, 105, 110]⟩
  | 6 => ⟨#[109, 97, 120]⟩
  | _ => ⟨#[97, 98, 115]⟩
def opA : Nat → Int
  | 7 => 1
  | _ => 2
def cloV (B : Nat) : Nat → Value
  | 0 => .func (Fn.func 139) #[] #[.pointer (some ⟨B + 0, 0, none⟩)]
  | 1 => .func (Fn.func 139) #[] #[.pointer (some ⟨B + 1, 0, none⟩)]
  | 2 => .func (Fn.func 139) #[] #[.pointer (some ⟨B + 2, 0, none⟩)]
  | 3 => .func (Fn.func 140) #[] #[.pointer (some ⟨B + 3, 0, none⟩)]
  | 4 => .func (Fn.func 140) #[] #[.pointer (some ⟨B + 4, 0, none⟩)]
  | 5 => .func (Fn.func 139) #[] #[.pointer (some ⟨B + 5, 0, none⟩)]
  | 6 => .func (Fn.func 139) #[] #[.pointer (some ⟨B + 6, 0, none⟩)]
  | _ => .func (Fn.func 101) #[] #[]
theorem OpsAt.at {w : World} {B g : Nat} (h : OpsAt w B g) (k : Nat) (hk : k < 8) : w.cell? ⟨g, k * 3, none⟩ = some (.string (opT k)) ∧ w.cell? ⟨g, k * 3 + 1, none⟩ = some (.int .i64 (opA k)) ∧ w.cell? ⟨g, k * 3 + 2, none⟩ = some (cloV B k) := by
  match k, hk with
  | 0, _ => exact ⟨by rw [cell_of_row w g _ _ 113 (0, 0) h.row]; rfl, by rw [cell_of_row w g _ _ 113 (0, 0) h.row]; rfl, by rw [cell_of_row w g _ _ 113 (0, 0) h.row]; rfl⟩
  | 1, _ => exact ⟨by rw [cell_of_row w g _ _ 113 (0, 0) h.row]; rfl, by rw [cell_of_row w g _ _ 113 (0, 0) h.row]; rfl, by rw [cell_of_row w g _ _ 113 (0, 0) h.row]; rfl⟩
  | 2, _ => exact ⟨by rw [cell_of_row w g _ _ 113 (0, 0) h.row]; rfl, by rw [cell_of_row w g _ _ 113 (0, 0) h.row]; rfl, by rw [cell_of_row w g _ _ 113 (0, 0) h.row]; rfl⟩
  | 3, _ => exact ⟨by rw [cell_of_row w g _ _ 113 (0, 0) h.row]; rfl, by rw [cell_of_row w g _ _ 113 (0, 0) h.row]; rfl, by rw [cell_of_row w g _ _ 113 (0, 0) h.row]; rfl⟩
  | 4, _ => exact ⟨by rw [cell_of_row w g _ _ 113 (0, 0) h.row]; rfl, by rw [cell_of_row w g _ _ 113 (0, 0) h.row]; rfl, by rw [cell_of_row w g _ _ 113 (0, 0) h.row]; rfl⟩
  | 5, _ => exact ⟨by rw [cell_of_row w g _ _ 113 (0, 0) h.row]; rfl, by rw [cell_of_row w g _ _ 113 (0, 0) h.row]; rfl, by rw [cell_of_row w g _ _ 113 (0, 0) h.row]; rfl⟩
  | 6, _ => exact ⟨by rw [cell_of_row w g _ _ 113 (0, 0) h.row]; rfl, by rw [cell_of_row w g _ _ 113 (0, 0) h.row]; rfl, by rw [cell_of_row w g _ _ 113 (0, 0) h.row]; rfl⟩
  | 7, _ => exact ⟨by rw [cell_of_row w g _ _ 113 (0, 0) h.row]; rfl, by rw [cell_of_row w g _ _ 113 (0, 0) h.row]; rfl, by rw [cell_of_row w g _ _ 113 (0, 0) h.row]; rfl⟩
/-- What an operator makes of numbers, ahead of the last look. -/
def rawR : Nat → List Int → Int × Bool
  | 0, [x, y] => (x + y, true)
  | 1, [x, y] => (x - y, true)
  | 2, [x, y] => (x * y, true)
  | 3, [x, y] => if y = 0 then (0, false) else (divF x y, true)
  | 4, [x, y] => if y = 0 then (0, false) else (modF x y, true)
  | 5, [x, y] => (if y < x then y else x, true)
  | 6, [x, y] => (if x < y then y else x, true)
  | 7, [x] => (absF x, true)
  | _, _ => (0, false)
def resR (k : Nat) (ns : List Int) : Int × Bool := (finN (rawR k ns).1 (rawR k ns).2, finB (rawR k ns).1 (rawR k ns).2)
theorem two_of {ns : List Int} (h : (ns.length : Int) = 2) : ∃ x y, ns = [x, y] := by
  match ns, h with
  | [x, y], _ => exact ⟨x, y, rfl⟩
  | [], h => simp at h
  | [_], h => simp at h
  | _ :: _ :: _ :: _, h => simp at h; omega
theorem one_of {ns : List Int} (h : (ns.length : Int) = 1) : ∃ x, ns = [x] := by
  match ns, h with
  | [x], _ => exact ⟨x, rfl⟩
  | [], h => simp at h
  | _ :: _ :: _, h => simp at h; omega
theorem box_cell {w W : World} {B g k : Nat} (h : OpsAt w B g) (hW : Below w.heap.size w W) (hk : k < 7) : W.cell? ⟨B + k, 0, none⟩ = some (.func (Fn.func (opFn k)) #[] #[]) := by
  rw [cell_of_row W _ 0 _ 139 (0, 0) ((h.below hW).box k hk)]; rfl
theorem pair_cells {w : World} {v : Value} {x y : Int} (h : IntsR w v [x, y]) : ∃ b o cap, v = .slice (some ⟨b, o, none⟩) 2 cap ∧ ∀ W, Below w.heap.size w W → W.cell? ⟨b, o, none⟩ = some (.int .i64 x) ∧ W.cell? ⟨b, o + 1, none⟩ = some (.int .i64 y) := by
  rcases h.2 with ⟨e, _⟩ | ⟨b, o, cap, h1, h2, h3⟩
  · cases e
  · refine ⟨b, o, cap, h1, fun W hW => ⟨(hW.cell (p := ⟨b, o, none⟩) h2).trans (h3 0 _ rfl), (hW.cell (p := ⟨b, o + 1, none⟩) h2).trans (h3 1 _ rfl)⟩⟩
set_option maxRecDepth 100000 in
theorem h37 (k : Nat) (hk : k < 8) (ns : List Int) (B g : Nat) (v : Value) (w : World) (hO : OpsAt w B g) (hI : IntsR w v ns) (hl : (ns.length : Int) = opA k) (hok : ∀ x ∈ ns, okI x) :
    Calls Tryz.prog 74 #[.agg #[.string (opT k), .int .i64 (opA k), cloV B k], v] w fun e w' => e = .returned (.tuple #[.int .i64 (resR k ns).1, .bool (resR k ns).2]) ∧ Below w.heap.size w w' := by
  match k, hk with
  | 0, _ =>
    obtain ⟨x, y, rfl⟩ := two_of hl
    obtain ⟨b, o, cap, rfl, hc⟩ := pair_cells hI
    have hx := hok x (by simp)
    have hy := hok y (by simp)
    exact h37_72 _ 2 (B + 0) _ 2 cap (x + y) true w (fun W hW => h72_52 (B + 0) b o cap x y _ W ⟨box_cell hO hW (by omega), (hc W hW).1, (hc W hW).2⟩ (fun W' => h52 x y W' hx hy))
  | 1, _ =>
    obtain ⟨x, y, rfl⟩ := two_of hl
    obtain ⟨b, o, cap, rfl, hc⟩ := pair_cells hI
    have hx := hok x (by simp)
    have hy := hok y (by simp)
    exact h37_72 _ 2 (B + 1) _ 2 cap (x - y) true w (fun W hW => h72_53 (B + 1) b o cap x y _ W ⟨box_cell hO hW (by omega), (hc W hW).1, (hc W hW).2⟩ (fun W' => h53 x y W' hx hy))
  | 2, _ =>
    obtain ⟨x, y, rfl⟩ := two_of hl
    obtain ⟨b, o, cap, rfl, hc⟩ := pair_cells hI
    have hx := hok x (by simp)
    have hy := hok y (by simp)
    exact h37_72 _ 2 (B + 2) _ 2 cap (x * y) true w (fun W hW => h72_54 (B + 2) b o cap x y _ W ⟨box_cell hO hW (by omega), (hc W hW).1, (hc W hW).2⟩ (fun W' => h54 x y W' hx hy))
  | 3, _ =>
    obtain ⟨x, y, rfl⟩ := two_of hl
    obtain ⟨b, o, cap, rfl, hc⟩ := pair_cells hI
    have hx := hok x (by simp)
    have hy := hok y (by simp)
    by_cases h0 : y = 0
    · have e : rawR 3 [x, y] = (0, false) := by show (if y = 0 then ((0 : Int), false) else _) = _; rw [if_pos h0]
      unfold resR
      rw [e]
      exact h37_73 _ 2 (B + 3) _ 2 cap 0 false w (fun W hW => h73n (B + 3) b o cap W (by rw [← h0]; exact (hc W hW).2))
    · have e : rawR 3 [x, y] = (divF x y, true) := by show (if y = 0 then ((0 : Int), false) else _) = _; rw [if_neg h0]
      unfold resR
      rw [e]
      exact h37_73 _ 2 (B + 3) _ 2 cap (divF x y) true w (fun W hW => h73_56 (B + 3) b o cap x y _ W ⟨box_cell hO hW (by omega), (hc W hW).1, (hc W hW).2⟩ h0 (fun W' => h56 x y W' hx h0))
  | 4, _ =>
    obtain ⟨x, y, rfl⟩ := two_of hl
    obtain ⟨b, o, cap, rfl, hc⟩ := pair_cells hI
    have hx := hok x (by simp)
    have hy := hok y (by simp)
    by_cases h0 : y = 0
    · have e : rawR 4 [x, y] = (0, false) := by show (if y = 0 then ((0 : Int), false) else _) = _; rw [if_pos h0]
      unfold resR
      rw [e]
      exact h37_73 _ 2 (B + 4) _ 2 cap 0 false w (fun W hW => h73n (B + 4) b o cap W (by rw [← h0]; exact (hc W hW).2))
    · have e : rawR 4 [x, y] = (modF x y, true) := by show (if y = 0 then ((0 : Int), false) else _) = _; rw [if_neg h0]
      unfold resR
      rw [e]
      exact h37_73 _ 2 (B + 4) _ 2 cap (modF x y) true w (fun W hW => h73_57 (B + 4) b o cap x y _ W ⟨box_cell hO hW (by omega), (hc W hW).1, (hc W hW).2⟩ h0 (fun W' => h57 x y W' hx hy h0))
  | 5, _ =>
    obtain ⟨x, y, rfl⟩ := two_of hl
    obtain ⟨b, o, cap, rfl, hc⟩ := pair_cells hI
    have hx := hok x (by simp)
    have hy := hok y (by simp)
    exact h37_72 _ 2 (B + 5) _ 2 cap (if y < x then y else x) true w (fun W hW => h72_58 (B + 5) b o cap x y _ W ⟨box_cell hO hW (by omega), (hc W hW).1, (hc W hW).2⟩ (fun W' => h58 x y W' ))
  | 6, _ =>
    obtain ⟨x, y, rfl⟩ := two_of hl
    obtain ⟨b, o, cap, rfl, hc⟩ := pair_cells hI
    have hx := hok x (by simp)
    have hy := hok y (by simp)
    exact h37_72 _ 2 (B + 6) _ 2 cap (if x < y then y else x) true w (fun W hW => h72_59 (B + 6) b o cap x y _ W ⟨box_cell hO hW (by omega), (hc W hW).1, (hc W hW).2⟩ (fun W' => h59 x y W' ))
  | 7, _ =>
    obtain ⟨x, rfl⟩ := one_of hl
    have hx := hok x (by simp)
    rcases hI.2 with ⟨e, _⟩ | ⟨b, o, cap, rfl, h2, h3⟩
    · cases e
    · exact h37_60 _ 1 _ 1 cap (absF x) true w (fun W hW => h60 b o cap x W ((hW.cell (p := ⟨b, o, none⟩) h2).trans (h3 0 _ rfl)) hx)
def matchB (op : ByteArray) (n : Int) (k : Nat) : Bool := (opT k).toList == op.toList && opA k == n
def reckS (op : ByteArray) (ns : List Int) : Int × Bool :=
  if ns.any greatB then (0, false) else match (List.range 8).find? (matchB op ns.length) with | some k => resR k ns | none => (0, false)
theorem find_range {f : Nat → Bool} {n k : Nat} (hk : k < n) (h : f k = true) (hb : ∀ j, j < k → f j = false) : (List.range n).find? f = some k := by
  rw [List.find?_eq_some_iff_getElem]
  refine ⟨h, k, by simpa using hk, by simp, fun j hj => ?_⟩
  simp [hb j hj]
theorem find_none {f : Nat → Bool} {n : Nat} (hb : ∀ j, j < n → f j = false) : (List.range n).find? f = none := by
  rw [List.find?_eq_none]
  intro x hx
  simp [hb x (List.mem_range.1 hx)]
theorem cloV_one (B k : Nat) : ∃ f cs, cloV B k = .func (Fn.func f) #[] cs := by
  match k with
  | 0 => exact ⟨_, _, rfl⟩
  | 1 => exact ⟨_, _, rfl⟩
  | 2 => exact ⟨_, _, rfl⟩
  | 3 => exact ⟨_, _, rfl⟩
  | 4 => exact ⟨_, _, rfl⟩
  | 5 => exact ⟨_, _, rfl⟩
  | 6 => exact ⟨_, _, rfl⟩
  | _ + 7 => exact ⟨_, _, rfl⟩
end Go.Proofs.YtaehhophaaipdaaGreatDoor
