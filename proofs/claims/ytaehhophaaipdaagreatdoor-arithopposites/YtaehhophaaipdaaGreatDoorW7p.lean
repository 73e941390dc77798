/- When two cells are equal: all five fields are. -/
import Derived.Test.YtaehhophaaipdaaGreatDoorW6p
namespace Go.Proofs.YtaehhophaaipdaaGreatDoor
open Go.RowKit
def eqCells (k : Int) (t : ByteArray) (n vn vk : Int) (k' : Int) (t' : ByteArray) (n' vn' vk' : Int) : Bool :=
  (k == k') && (t.toList == t'.toList) && (n == n') && (vn == vn') && (vk == vk')
set_option maxHeartbeats 1000000 in
theorem eql60 (k : Int) (t : ByteArray) (n vn vk : Int) (k' : Int) (t' : ByteArray) (n' vn' vk' : Int) (w : World) :
    (binOp .eql 69 (.agg #[.int .u8 k, .string t, .int .i64 n, .int .i64 vn, .int .i64 vk]) (.agg #[.int .u8 k', .string t', .int .i64 n', .int .i64 vn', .int .i64 vk'])).run Tryz.prog w = .ok (.bool (eqCells k t n vn vk k' t' n' vn' vk')) w := by
  unfold eqCells
  cases h1 : (k == k') <;> cases h2 : (t.toList == t'.toList) <;> cases h3 : (n == n') <;> cases h4 : (vn == vn') <;> cases h5 : (vk == vk') <;> go_simp
theorem bcell {W w1 : World} (hb : Below W.heap.size W w1) : (∀ b o, b < W.heap.size → w1.cell? ⟨b, o, none⟩ = W.cell? ⟨b, o, none⟩) ∧ (∀ b o, b < W.heap.size → w1.frozen? ⟨b, o, none⟩ = W.frozen? ⟨b, o, none⟩) :=
  ⟨fun b o h => hb.cell (p := ⟨b, o, none⟩) h, fun b o h => hb.frozen (p := ⟨b, o, none⟩) h⟩
end Go.Proofs.YtaehhophaaipdaaGreatDoor
