/- The iterator over a network's row: what it yields. -/
import Derived.Test.YthpbfaddojcohaaNK
import Derived.RangeFuncNested
import Derived.RangeFuncBound
import Derived.RangeFuncCalls
import Derived.RangeFuncLeaves
import Derived.Shelf.Abstract
import Derived.Shelf.RegionOpen
import Derived.OwnWalkIn
import Derived.TacticsInMore
import Derived.LoopNIn
import Derived.LoopIn
import Derived.Sort.EveryDepth
import Derived.Maps.OwnIn
namespace Go.Proofs.Ythpbfaddojcohaa
open Go.RowKit Go.Shelf
attribute [local go_sem] Oper.semAt_some
/-- Datagrams with their numbers. -/
def enum (l : List Dg) : List (Nat × Dg) := l.zipIdx.map fun x => (x.2, x.1)
theorem enum_length (l : List Dg) : (enum l).length = l.length := by simp [enum]
theorem enum_get (l : List Dg) (k : Nat) (hk : k < (enum l).length) : (enum l)[k] = (k, l[k]'(by rw [enum_length] at hk; exact hk)) := by simp [enum]
abbrev encD (x : Nat × Dg) : Array Value := #[.int .i64 x.1, .agg #[.int .i64 x.2.fr, .int .i64 x.2.to, .bool x.2.ak, .int .i64 x.2.sq, .slice x.2.ba x.2.bn x.2.bc]]
theorem abides_alloc {β : Type} {B : Nat} {J : β → World → Prop} (h : AbidesFrom B J) {s : β} {W : World} (o : Obj) (hs : J s W) : J s (W.alloc o) :=
  h s W _ none hs (World.grownBy_alloc W o none) (fun r e => by cases e)
set_option maxRecDepth 100000 in
set_option maxHeartbeats 2000000 in
theorem all_in (n : Nat) (hn : 1 ≤ n) (l Bs : Nat) (w0 : World) (B0 : Nat) (J Jx : List (Nat × Dg) → World → Prop) (hJ : AbidesFrom B0 J) (ds : List Dg) (ad : Option Addr) (cap : Nat) (hl : ds.length ≤ maxLen)
    (hr : ds.length = 0 ∨ ∃ g, ad = some ⟨g, 0, none⟩ ∧ g < w0.heap.size ∧ w0.rangeAt g 0 (flatD ds))
    (hY : ∀ pre x W, J pre W → pre ++ [x] <+: enum ds → YieldAt Fence.wide (n - 1) Try.prog l (encD x) W fun e W' =>
      (e = .returned (.bool true) ∧ J (pre ++ [x]) W' ∧ Below w0.heap.size W W') ∨ (e = .returned (.bool false) ∧ Jx (pre ++ [x]) W'))
    (W : World) (hBs : W.cell? ⟨Bs, 0, none⟩ = some (.slice ad ds.length cap)) (hW : Below w0.heap.size w0 W) (h0 : J [] W) :
    CallsIn Fence.wide n Try.prog 65 #[.func (.yield l) #[] #[], .pointer (some ⟨Bs, 0, none⟩)] W fun e W' => (∃ v, e = .returned v) ∧
      ((∃ ys, ys = enum ds ∧ J ys W') ∨ (∃ pre, pre <+: enum ds ∧ Jx pre W')) := by
  unfold maxLen at hl
  have HR : Hid (ds.length = 0 ∨ ∃ g, ad = some ⟨g, 0, none⟩ ∧ g < w0.heap.size ∧ w0.rangeAt g 0 (flatD ds)) := hr
  have HY : Hid (∀ pre x W, J pre W → pre ++ [x] <+: enum ds → YieldAt Fence.wide (n - 1) Try.prog l (encD x) W fun e W' =>
      (e = .returned (.bool true) ∧ J (pre ++ [x]) W' ∧ Below w0.heap.size W W') ∨ (e = .returned (.bool false) ∧ Jx (pre ++ [x]) W')) := hY
  have HJ : Hid (AbidesFrom B0 J) := hJ
  clear hr hY hJ
  refine callsIn_of_wp Try.func65 rfl trivial ?_ rfl
  simp only [Try.ntmps65, List.size_toArray, List.length_cons, List.length_nil, Nat.reduceAdd, Nat.reduceSub, Array.replicate_succ, Array.replicate_zero, List.push_toArray, List.append_toArray, List.nil_append, List.cons_append]
  gi_wp2
  gi_loopw [7] (fun i wr => ∃ k : Nat, k ≤ ds.length ∧ i = .int .i64 k ∧ Hid (J ((enum ds).take k) wr) ∧ Below w0.heap.size w0 wr) (fun i _ => ds.length - (intOf i).toNat)
  case atStart => exact ⟨0, Nat.zero_le _, rfl, h0, hW⟩
  case round =>
    obtain ⟨k, hk, rfl, hJs, hbr⟩ := hrel
    by_cases hlt : k < ds.length
    · have hlt' : (k : Int) < (ds.length : Int) := by omega
      have hk0 : (0 : Int) ≤ (k : Int) := by omega
      obtain ⟨g, hadg, hg, hrg⟩ : ∃ g, ad = some ⟨g, 0, none⟩ ∧ g < w0.heap.size ∧ w0.rangeAt g 0 (flatD ds) := by
        rcases HR.out with e | h
        · omega
        · exact h
      subst hadg
      have hrw : wr.rangeAt g 0 (flatD ds) := fun j u hu => (hbr.cell (p := ⟨g, 0 + j, none⟩) hg).trans (hrg j u hu)
      obtain ⟨p0, p1, p2, p3, p4⟩ := dg_cells hrw k hlt
      simp only [Nat.zero_add] at p0 p1 p2 p3 p4
      have hke : k < (enum ds).length := by rw [enum_length]; exact hlt
      have HT : Hid ((enum ds).take (k + 1) = (enum ds).take k ++ [(k, ds[k])]) := by
        show (enum ds).take (k + 1) = (enum ds).take k ++ [(k, ds[k])]
        rw [List.take_succ_eq_append_getElem hke, enum_get ds k hke]
      have HP : Hid ((enum ds).take k ++ [(k, ds[k])] <+: enum ds) := by
        show (enum ds).take k ++ [(k, ds[k])] <+: enum ds
        rw [← HT.out]; exact List.take_prefix _ _
      have HB3 : Hid (Below w0.heap.size w0 (wr.alloc (.cells #[.int .i64 ds[k].fr, .int .i64 ds[k].to, .bool ds[k].ak, .int .i64 ds[k].sq, .slice ds[k].ba ds[k].bn ds[k].bc] 46))) := hbr.alloc hbr.size _
      obtain ⟨fn, tmps, assign, body, hy, hR⟩ := HY.out ((enum ds).take k) (k, ds[k]) (wr.alloc (.cells #[.int .i64 ds[k].fr, .int .i64 ds[k].to, .bool ds[k].ak, .int .i64 ds[k].sq, .slice ds[k].ba ds[k].bn ds[k].bc] 46)) (abides_alloc HJ.out _ hJs.out) HP.out
      dsimp only [encD] at hy
      generalize ds[k] = d at *
      clear hrw hrg
      gi_wp2
      refine hR.mono ?_
      rintro e W3 (⟨rfl, hJ3, hk3⟩ | ⟨rfl, hJx3⟩)
      · have HB4 : Hid (Below w0.heap.size w0 W3) := HB3.out.trans hk3
        gi_wp2
        go_roundw
        case rel => exact ⟨k + 1, by omega, by go_num, by
          show J ((enum ds).take (k + 1)) _
          rw [HT.out]; exact hJ3, HB4.out⟩
        case measure => simp [intOf]; omega
      · gi_wp2
        refine bodyPost_ret (results_none rfl _ _ _) rfl ?_
        exact ⟨⟨_, rfl⟩, .inr ⟨_, HP.out, hJx3⟩⟩
    · have hlt' : ¬ ((k : Int) < (ds.length : Int)) := by omega
      have hkl : (enum ds).take k = enum ds := List.take_of_length_le (by rw [enum_length]; omega)
      gi_wp2
      go_end0
      exact ⟨⟨_, rfl⟩, .inl (by have h := hJs.out; rw [hkl] at h; first | exact h | exact ⟨enum ds, rfl, h⟩)⟩
theorem all_stops (n : Nat) (hn : 1 ≤ n) (Bs : Nat) (ds : List Dg) (ad : Option Addr) (cap : Nat) (w0 w : World) (hBs : Bs < w.heap.size) (hw : Below w0.heap.size w0 w) (hc : w.cell? ⟨Bs, 0, none⟩ = some (.slice ad ds.length cap)) (hl : ds.length ≤ maxLen)
    (hr : ds.length = 0 ∨ ∃ g, ad = some ⟨g, 0, none⟩ ∧ g < w0.heap.size ∧ w0.rangeAt g 0 (flatD ds)) :
    SeqStopsK Fence.wide n Try.prog 65 #[.pointer (some ⟨Bs, 0, none⟩)] encD (Below w0.heap.size) (fun ys => ys = enum ds) (fun pre => pre <+: enum ds) ds.length w := by
  intro l J Jx W hW hJ hJx hY h0
  exact all_in n hn l Bs w0 W.heap.size J Jx hJ ds ad cap hl hr (fun pre x W1 hJ1 hp => hY pre x W1 hJ1 (by have := hp.length_le; rw [enum_length] at this; simp at this; omega)) W ((hW.cell (p := ⟨Bs, 0, none⟩) hBs).trans hc) (hw.trans (hW.mono hw.size)) h0
set_option maxRecDepth 100000 in
theorem n59 (a : Option Addr) (k c : Nat) (w : World) :
    Calls Try.prog 59 #[.slice a k c] w fun e w' => e = .returned (.func (.func 65) #[] #[.pointer (some ⟨w.heap.size, 0, none⟩)]) ∧ w' = w.alloc (.cells #[.slice a k c] 34) := by
  go_enter Try.func59, Try.ntmps59
  go_wp2_with fail
  go_ret
  exact ⟨rfl, rfl⟩
set_option maxRecDepth 100000 in
theorem n40 (nb : Nat) (a : Option Addr) (k c : Nat) (w : World) (hc : w.cell? ⟨nb, 0, none⟩ = some (.slice a k c)) :
    Calls Try.prog 40 #[.pointer (some ⟨nb, 0, none⟩)] w fun e w' => e = .returned (.func (.func 65) #[] #[.pointer (some ⟨w.heap.size, 0, none⟩)]) ∧ w' = w.alloc (.cells #[.slice a k c] 34) := by
  go_enter Try.func40, Try.ntmps40
  go_wp2_with fail
  refine (n59 a k c w).mono ?_
  rintro e w1 ⟨rfl, hw⟩
  obtain rfl := hw.symm
  go_wp2_with fail
  go_ret
  exact ⟨rfl, rfl⟩
end Go.Proofs.Ythpbfaddojcohaa
