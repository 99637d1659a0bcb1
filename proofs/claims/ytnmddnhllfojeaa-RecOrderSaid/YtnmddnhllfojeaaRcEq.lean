/- Places, pairs, edges, draws compared with themselves. -/
import Derived.Test.YtnmddnhllfojeaaRcArgs
import Derived.Deep.DeepCutAuto
namespace Go.Proofs.Ytnmddnhllfojeaa
open Go.RowKit
set_option linter.unusedVariables false
set_option linter.unusedSimpArgs false
set_option maxRecDepth 20000
theorem place_same (n m : Int) (w : World) : (Op.equalIn 10000 23 (.agg #[.int .i64 n, .int .i64 m]) (.agg #[.int .i64 n, .int .i64 m])).run Try.prog w = .ok true w := by
  rw [run_equalIn_agg w 9999 _ _ _ (by kernel_rfl) (by kernel_rfl)]
  simp [go_sem]
theorem pair_same (n m : Int) (w : World) : (Op.equalIn 10000 25 (.agg #[.int .i64 n, .int .i64 m]) (.agg #[.int .i64 n, .int .i64 m])).run Try.prog w = .ok true w := by
  rw [run_equalIn_agg w 9999 _ _ _ (by kernel_rfl) (by kernel_rfl)]
  simp [go_sem]
theorem edge_same (f d i : Int) (b : Bool) (w : World) : (Op.equalIn 10000 29 (.agg #[.int .i64 f, .int .i64 d, .int .i64 i, .bool b]) (.agg #[.int .i64 f, .int .i64 d, .int .i64 i, .bool b])).run Try.prog w = .ok true w := by
  rw [run_equalIn_agg w 9999 _ _ _ (by kernel_rfl) (by kernel_rfl)]
  simp [go_sem]
theorem place_eq (n m : Int) (w : World) : (binOp .eql 23 (.agg #[.int .i64 n, .int .i64 m]) (.agg #[.int .i64 n, .int .i64 m])).run Try.prog w = .ok (.bool true) w := by
  rw [run_eql_struct, place_same]; rfl
theorem place_neq (n m : Int) (w : World) : (binOp .neq 23 (.agg #[.int .i64 n, .int .i64 m]) (.agg #[.int .i64 n, .int .i64 m])).run Try.prog w = .ok (.bool false) w := by
  rw [run_neq_struct, place_same]; rfl
theorem pair_eq (n m : Int) (w : World) : (binOp .eql 25 (.agg #[.int .i64 n, .int .i64 m]) (.agg #[.int .i64 n, .int .i64 m])).run Try.prog w = .ok (.bool true) w := by
  rw [run_eql_struct, pair_same]; rfl
theorem pair_neq (n m : Int) (w : World) : (binOp .neq 25 (.agg #[.int .i64 n, .int .i64 m]) (.agg #[.int .i64 n, .int .i64 m])).run Try.prog w = .ok (.bool false) w := by
  rw [run_neq_struct, pair_same]; rfl
theorem edge_eq (f d i : Int) (b : Bool) (w : World) : (binOp .eql 29 (.agg #[.int .i64 f, .int .i64 d, .int .i64 i, .bool b]) (.agg #[.int .i64 f, .int .i64 d, .int .i64 i, .bool b])).run Try.prog w = .ok (.bool true) w := by
  rw [run_eql_struct, edge_same]; rfl
theorem edge_neq (f d i : Int) (b : Bool) (w : World) : (binOp .neq 29 (.agg #[.int .i64 f, .int .i64 d, .int .i64 i, .bool b]) (.agg #[.int .i64 f, .int .i64 d, .int .i64 i, .bool b])).run Try.prog w = .ok (.bool false) w := by
  rw [run_neq_struct, edge_same]; rfl
theorem draw_same (a b c d : Int) (w : World) : (Op.equalIn 10000 37 (.agg #[.int .i64 a, .int .i64 b, .int .i64 c, .int .i64 d]) (.agg #[.int .i64 a, .int .i64 b, .int .i64 c, .int .i64 d])).run Try.prog w = .ok true w := by
  rw [run_equalIn_agg w 9999 _ _ _ (by kernel_rfl) (by kernel_rfl)]
  simp [go_sem]
theorem draw_eq (a b c d : Int) (w : World) : (binOp .eql 37 (.agg #[.int .i64 a, .int .i64 b, .int .i64 c, .int .i64 d]) (.agg #[.int .i64 a, .int .i64 b, .int .i64 c, .int .i64 d])).run Try.prog w = .ok (.bool true) w := by
  rw [run_eql_struct, draw_same]; rfl
end Go.Proofs.Ytnmddnhllfojeaa
