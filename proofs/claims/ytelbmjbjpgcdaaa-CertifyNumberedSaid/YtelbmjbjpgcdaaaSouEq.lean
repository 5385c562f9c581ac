/- Layer 8: triangles and edges compared with == and !=. -/
import Derived.Test.YtelbmjbjpgcdaaaSouMem
import Derived.ChangeKeysEq
import Derived.Laws.StructEq
namespace Go.Proofs.Ytelbmjbjpgcdaaa
open Go.RowKit

theorem cells_int : Try.prog.cellsOf 3 = 1 := by kernel_rfl
theorem part_int (w : World) (xs : Array Value) (k : Nat) (x : Int) (h : xs[k]? = some (.int .i64 x)) : (part 3 xs k).run Try.prog w = .ok (.int .i64 x) w := by
  have a3 := Try.isAgg3
  simp [part, h, a3]
theorem items3 (w : World) (d : Nat) (x0 x1 x2 y0 y1 y2 : Int) : (Op.eqItems (d + 1) 3 (Try.prog.cellsOf 3) #[.int .i64 x0, .int .i64 x1, .int .i64 x2] #[.int .i64 y0, .int .i64 y1, .int .i64 y2] (List.range 3)).run Try.prog w = .ok (x0 == y0 && (x1 == y1 && x2 == y2)) w := by
  have u3 := Try.underlying3
  have p0 := part_int w #[.int .i64 x0, .int .i64 x1, .int .i64 x2] 0 x0 rfl
  have r0 := part_int w #[.int .i64 y0, .int .i64 y1, .int .i64 y2] 0 y0 rfl
  have s0 := run_equalIn_int (P := Try.prog) w d 3 .i64 .i64 x0 y0 u3
  have p1 := part_int w #[.int .i64 x0, .int .i64 x1, .int .i64 x2] 1 x1 rfl
  have r1 := part_int w #[.int .i64 y0, .int .i64 y1, .int .i64 y2] 1 y1 rfl
  have s1 := run_equalIn_int (P := Try.prog) w d 3 .i64 .i64 x1 y1 u3
  have p2 := part_int w #[.int .i64 x0, .int .i64 x1, .int .i64 x2] 2 x2 rfl
  have r2 := part_int w #[.int .i64 y0, .int .i64 y1, .int .i64 y2] 2 y2 rfl
  have s2 := run_equalIn_int (P := Try.prog) w d 3 .i64 .i64 x2 y2 u3
  rw [cells_int, show List.range 3 = [0, 1, 2] from rfl]
  simp only [Op.eqItems, Sem.run_bind, Nat.mul_one, p0, r0, s0, Result.andThen_ok]
  cases h0 : (x0 == y0) <;> cases h1 : (x1 == y1) <;> cases h2 : (x2 == y2) <;> simp [p1, r1, s1, h1, p2, r2, s2, h2]
theorem items2 (w : World) (d : Nat) (x0 x1 y0 y1 : Int) : (Op.eqItems (d + 1) 3 (Try.prog.cellsOf 3) #[.int .i64 x0, .int .i64 x1] #[.int .i64 y0, .int .i64 y1] (List.range 2)).run Try.prog w = .ok (x0 == y0 && x1 == y1) w := by
  have u3 := Try.underlying3
  have p0 := part_int w #[.int .i64 x0, .int .i64 x1] 0 x0 rfl
  have r0 := part_int w #[.int .i64 y0, .int .i64 y1] 0 y0 rfl
  have s0 := run_equalIn_int (P := Try.prog) w d 3 .i64 .i64 x0 y0 u3
  have p1 := part_int w #[.int .i64 x0, .int .i64 x1] 1 x1 rfl
  have r1 := part_int w #[.int .i64 y0, .int .i64 y1] 1 y1 rfl
  have s1 := run_equalIn_int (P := Try.prog) w d 3 .i64 .i64 x1 y1 u3
  rw [cells_int, show List.range 2 = [0, 1] from rfl]
  simp only [Op.eqItems, Sem.run_bind, Nat.mul_one, p0, r0, s0, Result.andThen_ok]
  cases h0 : (x0 == y0) <;> cases h1 : (x1 == y1) <;> simp [p1, r1, s1, h1]
theorem neq3 (w : World) (x0 x1 x2 y0 y1 y2 : Int) : (binOp .neq 41 (.agg #[.int .i64 x0, .int .i64 x1, .int .i64 x2]) (.agg #[.int .i64 y0, .int .i64 y1, .int .i64 y2])).run Try.prog w = .ok (.bool (!(x0 == y0 && (x1 == y1 && x2 == y2)))) w := by
  obtain ⟨i0, hi, _⟩ := info_parts Try.infoInt
  rw [run_neq_struct, show (10000 : Nat) = 9998 + 1 + 1 from rfl, run_equalIn_array w (9998 + 1) _ _ Try.underlying41 hi, items3]
  rfl
theorem eql3 (w : World) (x0 x1 x2 y0 y1 y2 : Int) : (binOp .eql 41 (.agg #[.int .i64 x0, .int .i64 x1, .int .i64 x2]) (.agg #[.int .i64 y0, .int .i64 y1, .int .i64 y2])).run Try.prog w = .ok (.bool (x0 == y0 && (x1 == y1 && x2 == y2))) w := by
  obtain ⟨i0, hi, _⟩ := info_parts Try.infoInt
  rw [run_eql_struct, show (10000 : Nat) = 9998 + 1 + 1 from rfl, run_equalIn_array w (9998 + 1) _ _ Try.underlying41 hi, items3]
  rfl
theorem neq2 (w : World) (x0 x1 y0 y1 : Int) : (binOp .neq 66 (.agg #[.int .i64 x0, .int .i64 x1]) (.agg #[.int .i64 y0, .int .i64 y1])).run Try.prog w = .ok (.bool (!(x0 == y0 && x1 == y1))) w := by
  obtain ⟨i0, hi, _⟩ := info_parts Try.infoInt
  rw [run_neq_struct, show (10000 : Nat) = 9998 + 1 + 1 from rfl, run_equalIn_array w (9998 + 1) _ _ Try.underlying66 hi, items2]
  rfl
theorem eql2 (w : World) (x0 x1 y0 y1 : Int) : (binOp .eql 66 (.agg #[.int .i64 x0, .int .i64 x1]) (.agg #[.int .i64 y0, .int .i64 y1])).run Try.prog w = .ok (.bool (x0 == y0 && x1 == y1)) w := by
  obtain ⟨i0, hi, _⟩ := info_parts Try.infoInt
  rw [run_eql_struct, show (10000 : Nat) = 9998 + 1 + 1 from rfl, run_equalIn_array w (9998 + 1) _ _ Try.underlying66 hi, items2]
  rfl
theorem eqIn3 (w : World) (x0 x1 x2 y0 y1 y2 : Int) : (Op.equalIn 10000 41 (.agg #[.int .i64 x0, .int .i64 x1, .int .i64 x2]) (.agg #[.int .i64 y0, .int .i64 y1, .int .i64 y2])).run Try.prog w = .ok (x0 == y0 && (x1 == y1 && x2 == y2)) w := by
  obtain ⟨i0, hi, _⟩ := info_parts Try.infoInt
  rw [show (10000 : Nat) = 9998 + 1 + 1 from rfl, run_equalIn_array w (9998 + 1) _ _ Try.underlying41 hi, items3]
theorem eqIn2 (w : World) (x0 x1 y0 y1 : Int) : (Op.equalIn 10000 66 (.agg #[.int .i64 x0, .int .i64 x1]) (.agg #[.int .i64 y0, .int .i64 y1])).run Try.prog w = .ok (x0 == y0 && x1 == y1) w := by
  obtain ⟨i0, hi, _⟩ := info_parts Try.infoInt
  rw [show (10000 : Nat) = 9998 + 1 + 1 from rfl, run_equalIn_array w (9998 + 1) _ _ Try.underlying66 hi, items2]
theorem eq3_iff (x y : Tr) : (x.1 == y.1 && (x.2.1 == y.2.1 && x.2.2 == y.2.2)) = true ↔ x = y := by
  simp only [Bool.and_eq_true, beq_iff_eq, Prod.ext_iff]
theorem eq3_no {x y : Tr} (h : x ≠ y) : (x.1 == y.1 && (x.2.1 == y.2.1 && x.2.2 == y.2.2)) = false := by
  rw [Bool.eq_false_iff]; exact fun e => h ((eq3_iff x y).1 e)
theorem eq2_iff (x y : Ed) : (x.1 == y.1 && x.2 == y.2) = true ↔ x = y := by
  simp only [Bool.and_eq_true, beq_iff_eq, Prod.ext_iff]
theorem eq2_no {x y : Ed} (h : x ≠ y) : (x.1 == y.1 && x.2 == y.2) = false := by
  rw [Bool.eq_false_iff]; exact fun e => h ((eq2_iff x y).1 e)
end Go.Proofs.Ytelbmjbjpgcdaaa
