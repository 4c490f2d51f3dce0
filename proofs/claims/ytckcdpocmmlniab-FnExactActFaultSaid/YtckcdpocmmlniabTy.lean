/- Closed facts on the types and functions of the translation. -/
import Derived.Test.YtckcdpocmmlniabProg
import Derived.KernelRfl
import Derived.Test.YtckcdpocmmlniabK4
namespace Go.Proofs.Ytckcdpocmmlniab
open Go Go.Abs Go.Proofs
@[simp] theorem sz0 : szOf Try.prog 0 = some 1 := by kernel_rfl
@[simp] theorem ag0 : aggT Try.prog 0 = some false := by kernel_rfl
@[simp] theorem un0 : unitT Try.prog 0 = some 1 := by kernel_rfl
@[simp] theorem sz1 : szOf Try.prog 1 = some 1 := by kernel_rfl
@[simp] theorem ag1 : aggT Try.prog 1 = some false := by kernel_rfl
@[simp] theorem un1 : unitT Try.prog 1 = some 1 := by kernel_rfl
@[simp] theorem ze1 : zeroT Try.prog 1 = some [.d (.s .nilFunc)] := by kernel_rfl
@[simp] theorem sz2 : szOf Try.prog 2 = some 1 := by kernel_rfl
@[simp] theorem ag2 : aggT Try.prog 2 = some false := by kernel_rfl
@[simp] theorem un2 : unitT Try.prog 2 = some 1 := by kernel_rfl
theorem kd2 : kindT Try.prog 12 2 = some [.int .i64] := by kernel_rfl
@[simp] theorem ze2 : zeroT Try.prog 2 = some [.d (.s (.int .i64 0))] := by kernel_rfl
@[simp] theorem sz3 : szOf Try.prog 3 = some 1 := by kernel_rfl
@[simp] theorem ag3 : aggT Try.prog 3 = some false := by kernel_rfl
@[simp] theorem un3 : unitT Try.prog 3 = some 1 := by kernel_rfl
theorem kd3 : kindT Try.prog 12 3 = some [.int .i64] := by kernel_rfl
@[simp] theorem ze3 : zeroT Try.prog 3 = some [.d (.s (.int .i64 0))] := by kernel_rfl
@[simp] theorem sz4 : szOf Try.prog 4 = some 1 := by kernel_rfl
@[simp] theorem ag4 : aggT Try.prog 4 = some false := by kernel_rfl
@[simp] theorem un4 : unitT Try.prog 4 = some 1 := by kernel_rfl
theorem kd4 : kindT Try.prog 12 4 = some [.bool] := by kernel_rfl
@[simp] theorem ze4 : zeroT Try.prog 4 = some [.d (.s (.bool false))] := by kernel_rfl
@[simp] theorem sz5 : szOf Try.prog 5 = some 1 := by kernel_rfl
@[simp] theorem ag5 : aggT Try.prog 5 = some false := by kernel_rfl
@[simp] theorem un5 : unitT Try.prog 5 = some 1 := by kernel_rfl
theorem kd5 : kindT Try.prog 12 5 = some [.int .u8] := by kernel_rfl
@[simp] theorem ze5 : zeroT Try.prog 5 = some [.d (.s (.int .u8 0))] := by kernel_rfl
@[simp] theorem sz6 : szOf Try.prog 6 = some 1 := by kernel_rfl
@[simp] theorem ag6 : aggT Try.prog 6 = some false := by kernel_rfl
@[simp] theorem un6 : unitT Try.prog 6 = some 1 := by kernel_rfl
theorem kd6 : kindT Try.prog 12 6 = some [.int .u8] := by kernel_rfl
@[simp] theorem ze6 : zeroT Try.prog 6 = some [.d (.s (.int .u8 0))] := by kernel_rfl
@[simp] theorem sz7 : szOf Try.prog 7 = some 4 := by kernel_rfl
@[simp] theorem ag7 : aggT Try.prog 7 = some true := by kernel_rfl
@[simp] theorem un7 : unitT Try.prog 7 = some 4 := by kernel_rfl
theorem kd7 : kindT Try.prog 12 7 = some [.int .i64, .int .i64, .bool, .int .u8] := by kernel_rfl
theorem eqk7 : eqT Try.prog 8 7 = some (true, [.int .i64, .int .i64, .bool, .int .u8]) := by kernel_rfl
theorem eqg7 : (Try.prog).eqGuardType (Try.prog).depth 7 = false := by kernel_rfl
@[simp] theorem neqA7 (a0 b0 : Int) (a1 b1 : Int) (a2 b2 : Bool) (a3 b3 : Int) (K : Value → Prop) : aggBin Try.prog .neq 7 [.d (.s (.int .i64 a0)), .d (.s (.int .i64 a1)), .d (.s (.bool a2)), .d (.s (.int .u8 a3))] [.d (.s (.int .i64 b0)), .d (.s (.int .i64 b1)), .d (.s (.bool b2)), .d (.s (.int .u8 b3))] K = K (.bool (!(eqVs [.int .i64 a0, .int .i64 a1, .bool a2, .int .u8 a3] [.int .i64 b0, .int .i64 b1, .bool b2, .int .u8 b3]))) := agg_neq (xs := [.int .i64 a0, .int .i64 a1, .bool a2, .int .u8 a3]) (ys := [.int .i64 b0, .int .i64 b1, .bool b2, .int .u8 b3]) eqk7 (by decide) eqg7 rfl rfl K
@[simp] theorem eqlA7 (a0 b0 : Int) (a1 b1 : Int) (a2 b2 : Bool) (a3 b3 : Int) (K : Value → Prop) : aggBin Try.prog .eql 7 [.d (.s (.int .i64 a0)), .d (.s (.int .i64 a1)), .d (.s (.bool a2)), .d (.s (.int .u8 a3))] [.d (.s (.int .i64 b0)), .d (.s (.int .i64 b1)), .d (.s (.bool b2)), .d (.s (.int .u8 b3))] K = K (.bool ((eqVs [.int .i64 a0, .int .i64 a1, .bool a2, .int .u8 a3] [.int .i64 b0, .int .i64 b1, .bool b2, .int .u8 b3]))) := agg_eql (xs := [.int .i64 a0, .int .i64 a1, .bool a2, .int .u8 a3]) (ys := [.int .i64 b0, .int .i64 b1, .bool b2, .int .u8 b3]) eqk7 (by decide) eqg7 rfl rfl K
@[simp] theorem ze7 : zeroT Try.prog 7 = some [.d (.s (.int .i64 0)), .d (.s (.int .i64 0)), .d (.s (.bool false)), .d (.s (.int .u8 0))] := by kernel_rfl
@[simp] theorem fi7_0 : fieldT Try.prog 7 0 = some (0, 1, false) := by kernel_rfl
@[simp] theorem fi7_1 : fieldT Try.prog 7 1 = some (1, 1, false) := by kernel_rfl
@[simp] theorem fi7_2 : fieldT Try.prog 7 2 = some (2, 1, false) := by kernel_rfl
@[simp] theorem fi7_3 : fieldT Try.prog 7 3 = some (3, 1, false) := by kernel_rfl
@[simp] theorem pl7 : placesT Try.prog 7 = some [(0, 1), (1, 1), (2, 1), (3, 1)] := by kernel_rfl
@[simp] theorem sz8 : szOf Try.prog 8 = some 4 := by kernel_rfl
@[simp] theorem ag8 : aggT Try.prog 8 = some true := by kernel_rfl
@[simp] theorem un8 : unitT Try.prog 8 = some 4 := by kernel_rfl
theorem kd8 : kindT Try.prog 12 8 = some [.int .i64, .int .i64, .bool, .int .u8] := by kernel_rfl
theorem eqk8 : eqT Try.prog 8 8 = some (true, [.int .i64, .int .i64, .bool, .int .u8]) := by kernel_rfl
theorem eqg8 : (Try.prog).eqGuardType (Try.prog).depth 8 = false := by kernel_rfl
@[simp] theorem neqA8 (a0 b0 : Int) (a1 b1 : Int) (a2 b2 : Bool) (a3 b3 : Int) (K : Value → Prop) : aggBin Try.prog .neq 8 [.d (.s (.int .i64 a0)), .d (.s (.int .i64 a1)), .d (.s (.bool a2)), .d (.s (.int .u8 a3))] [.d (.s (.int .i64 b0)), .d (.s (.int .i64 b1)), .d (.s (.bool b2)), .d (.s (.int .u8 b3))] K = K (.bool (!(eqVs [.int .i64 a0, .int .i64 a1, .bool a2, .int .u8 a3] [.int .i64 b0, .int .i64 b1, .bool b2, .int .u8 b3]))) := agg_neq (xs := [.int .i64 a0, .int .i64 a1, .bool a2, .int .u8 a3]) (ys := [.int .i64 b0, .int .i64 b1, .bool b2, .int .u8 b3]) eqk8 (by decide) eqg8 rfl rfl K
@[simp] theorem eqlA8 (a0 b0 : Int) (a1 b1 : Int) (a2 b2 : Bool) (a3 b3 : Int) (K : Value → Prop) : aggBin Try.prog .eql 8 [.d (.s (.int .i64 a0)), .d (.s (.int .i64 a1)), .d (.s (.bool a2)), .d (.s (.int .u8 a3))] [.d (.s (.int .i64 b0)), .d (.s (.int .i64 b1)), .d (.s (.bool b2)), .d (.s (.int .u8 b3))] K = K (.bool ((eqVs [.int .i64 a0, .int .i64 a1, .bool a2, .int .u8 a3] [.int .i64 b0, .int .i64 b1, .bool b2, .int .u8 b3]))) := agg_eql (xs := [.int .i64 a0, .int .i64 a1, .bool a2, .int .u8 a3]) (ys := [.int .i64 b0, .int .i64 b1, .bool b2, .int .u8 b3]) eqk8 (by decide) eqg8 rfl rfl K
@[simp] theorem ze8 : zeroT Try.prog 8 = some [.d (.s (.int .i64 0)), .d (.s (.int .i64 0)), .d (.s (.bool false)), .d (.s (.int .u8 0))] := by kernel_rfl
@[simp] theorem fi8_0 : fieldT Try.prog 8 0 = some (0, 1, false) := by kernel_rfl
@[simp] theorem fi8_1 : fieldT Try.prog 8 1 = some (1, 1, false) := by kernel_rfl
@[simp] theorem fi8_2 : fieldT Try.prog 8 2 = some (2, 1, false) := by kernel_rfl
@[simp] theorem fi8_3 : fieldT Try.prog 8 3 = some (3, 1, false) := by kernel_rfl
@[simp] theorem pl8 : placesT Try.prog 8 = some [(0, 1), (1, 1), (2, 1), (3, 1)] := by kernel_rfl
@[simp] theorem sz9 : szOf Try.prog 9 = some 1 := by kernel_rfl
@[simp] theorem ag9 : aggT Try.prog 9 = some false := by kernel_rfl
@[simp] theorem un9 : unitT Try.prog 9 = some 1 := by kernel_rfl
theorem kd9 : kindT Try.prog 12 9 = some [.str] := by kernel_rfl
@[simp] theorem ze9 : zeroT Try.prog 9 = some [.d (.s (.string ByteArray.empty))] := by kernel_rfl
@[simp] theorem sz10 : szOf Try.prog 10 = some 1 := by kernel_rfl
@[simp] theorem ag10 : aggT Try.prog 10 = some false := by kernel_rfl
@[simp] theorem un10 : unitT Try.prog 10 = some 1 := by kernel_rfl
theorem kd10 : kindT Try.prog 12 10 = some [.str] := by kernel_rfl
@[simp] theorem ze10 : zeroT Try.prog 10 = some [.d (.s (.string ByteArray.empty))] := by kernel_rfl
@[simp] theorem sz11 : szOf Try.prog 11 = some 1 := by kernel_rfl
@[simp] theorem ag11 : aggT Try.prog 11 = some false := by kernel_rfl
@[simp] theorem un11 : unitT Try.prog 11 = some 1 := by kernel_rfl
theorem kd11 : kindT Try.prog 12 11 = some [.str] := by kernel_rfl
@[simp] theorem ze11 : zeroT Try.prog 11 = some [.d (.s (.string ByteArray.empty))] := by kernel_rfl
@[simp] theorem sz12 : szOf Try.prog 12 = some 1 := by kernel_rfl
@[simp] theorem ag12 : aggT Try.prog 12 = some false := by kernel_rfl
@[simp] theorem un12 : unitT Try.prog 12 = some 1 := by kernel_rfl
theorem kd12 : kindT Try.prog 12 12 = some [.int .u64] := by kernel_rfl
@[simp] theorem ze12 : zeroT Try.prog 12 = some [.d (.s (.int .u64 0))] := by kernel_rfl
@[simp] theorem sz13 : szOf Try.prog 13 = some 2 := by kernel_rfl
@[simp] theorem ag13 : aggT Try.prog 13 = some true := by kernel_rfl
@[simp] theorem un13 : unitT Try.prog 13 = some 2 := by kernel_rfl
theorem kd13 : kindT Try.prog 12 13 = some [.str, .int .u64] := by kernel_rfl
@[simp] theorem ze13 : zeroT Try.prog 13 = some [.d (.s (.string ByteArray.empty)), .d (.s (.int .u64 0))] := by kernel_rfl
@[simp] theorem fi13_0 : fieldT Try.prog 13 0 = some (0, 1, false) := by kernel_rfl
@[simp] theorem fi13_1 : fieldT Try.prog 13 1 = some (1, 1, false) := by kernel_rfl
@[simp] theorem pl13 : placesT Try.prog 13 = some [(0, 1), (1, 1)] := by kernel_rfl
@[simp] theorem sz14 : szOf Try.prog 14 = some 2 := by kernel_rfl
@[simp] theorem ag14 : aggT Try.prog 14 = some true := by kernel_rfl
@[simp] theorem un14 : unitT Try.prog 14 = some 2 := by kernel_rfl
theorem kd14 : kindT Try.prog 12 14 = some [.str, .int .u64] := by kernel_rfl
@[simp] theorem ze14 : zeroT Try.prog 14 = some [.d (.s (.string ByteArray.empty)), .d (.s (.int .u64 0))] := by kernel_rfl
@[simp] theorem fi14_0 : fieldT Try.prog 14 0 = some (0, 1, false) := by kernel_rfl
@[simp] theorem fi14_1 : fieldT Try.prog 14 1 = some (1, 1, false) := by kernel_rfl
@[simp] theorem pl14 : placesT Try.prog 14 = some [(0, 1), (1, 1)] := by kernel_rfl
@[simp] theorem sz15 : szOf Try.prog 15 = some 1 := by kernel_rfl
@[simp] theorem ag15 : aggT Try.prog 15 = some false := by kernel_rfl
@[simp] theorem un15 : unitT Try.prog 15 = some 1 := by kernel_rfl
@[simp] theorem ze15 : zeroT Try.prog 15 = some [.d (.s (.pointer none))] := by kernel_rfl
@[simp] theorem sz16 : szOf Try.prog 16 = some 1 := by kernel_rfl
@[simp] theorem ag16 : aggT Try.prog 16 = some false := by kernel_rfl
@[simp] theorem un16 : unitT Try.prog 16 = some 1 := by kernel_rfl
@[simp] theorem ze16 : zeroT Try.prog 16 = some [.d (.s (.pointer none))] := by kernel_rfl
@[simp] theorem sz17 : szOf Try.prog 17 = some 1 := by kernel_rfl
@[simp] theorem ag17 : aggT Try.prog 17 = some false := by kernel_rfl
@[simp] theorem un17 : unitT Try.prog 17 = some 1 := by kernel_rfl
@[simp] theorem ze17 : zeroT Try.prog 17 = some [.d (.s (.pointer none))] := by kernel_rfl
@[simp] theorem sz18 : szOf Try.prog 18 = some 1 := by kernel_rfl
@[simp] theorem ag18 : aggT Try.prog 18 = some true := by kernel_rfl
@[simp] theorem un18 : unitT Try.prog 18 = some 1 := by kernel_rfl
@[simp] theorem ze18 : zeroT Try.prog 18 = some [.d (.s (.pointer none))] := by kernel_rfl
@[simp] theorem fi18_0 : fieldT Try.prog 18 0 = some (0, 1, false) := by kernel_rfl
@[simp] theorem pl18 : placesT Try.prog 18 = some [(0, 1)] := by kernel_rfl
@[simp] theorem sz19 : szOf Try.prog 19 = some 1 := by kernel_rfl
@[simp] theorem ag19 : aggT Try.prog 19 = some true := by kernel_rfl
@[simp] theorem un19 : unitT Try.prog 19 = some 1 := by kernel_rfl
@[simp] theorem ze19 : zeroT Try.prog 19 = some [.d (.s (.pointer none))] := by kernel_rfl
@[simp] theorem fi19_0 : fieldT Try.prog 19 0 = some (0, 1, false) := by kernel_rfl
@[simp] theorem pl19 : placesT Try.prog 19 = some [(0, 1)] := by kernel_rfl
@[simp] theorem sz20 : szOf Try.prog 20 = some 1 := by kernel_rfl
@[simp] theorem ag20 : aggT Try.prog 20 = some false := by kernel_rfl
@[simp] theorem un20 : unitT Try.prog 20 = some 1 := by kernel_rfl
@[simp] theorem ze20 : zeroT Try.prog 20 = some [.d (.s .nilIface)] := by kernel_rfl
@[simp] theorem sz21 : szOf Try.prog 21 = some 1 := by kernel_rfl
@[simp] theorem ag21 : aggT Try.prog 21 = some false := by kernel_rfl
@[simp] theorem un21 : unitT Try.prog 21 = some 1 := by kernel_rfl
theorem kd21 : kindT Try.prog 12 21 = some [.int .i32] := by kernel_rfl
@[simp] theorem ze21 : zeroT Try.prog 21 = some [.d (.s (.int .i32 0))] := by kernel_rfl
@[simp] theorem sz22 : szOf Try.prog 22 = some 7 := by kernel_rfl
@[simp] theorem ag22 : aggT Try.prog 22 = some true := by kernel_rfl
@[simp] theorem un22 : unitT Try.prog 22 = some 7 := by kernel_rfl
theorem kd22 : kindT Try.prog 12 22 = some [.int .i64, .int .i64, .int .i64, .int .i64, .int .i64, .int .i64, .int .i64] := by kernel_rfl
theorem eqk22 : eqT Try.prog 8 22 = some (true, [.int .i64, .int .i64, .int .i64, .int .i64, .int .i64, .int .i64, .int .i64]) := by kernel_rfl
theorem eqg22 : (Try.prog).eqGuardType (Try.prog).depth 22 = false := by kernel_rfl
@[simp] theorem neqA22 (a0 b0 : Int) (a1 b1 : Int) (a2 b2 : Int) (a3 b3 : Int) (a4 b4 : Int) (a5 b5 : Int) (a6 b6 : Int) (K : Value → Prop) : aggBin Try.prog .neq 22 [.d (.s (.int .i64 a0)), .d (.s (.int .i64 a1)), .d (.s (.int .i64 a2)), .d (.s (.int .i64 a3)), .d (.s (.int .i64 a4)), .d (.s (.int .i64 a5)), .d (.s (.int .i64 a6))] [.d (.s (.int .i64 b0)), .d (.s (.int .i64 b1)), .d (.s (.int .i64 b2)), .d (.s (.int .i64 b3)), .d (.s (.int .i64 b4)), .d (.s (.int .i64 b5)), .d (.s (.int .i64 b6))] K = K (.bool (!(eqVs [.int .i64 a0, .int .i64 a1, .int .i64 a2, .int .i64 a3, .int .i64 a4, .int .i64 a5, .int .i64 a6] [.int .i64 b0, .int .i64 b1, .int .i64 b2, .int .i64 b3, .int .i64 b4, .int .i64 b5, .int .i64 b6]))) := agg_neq (xs := [.int .i64 a0, .int .i64 a1, .int .i64 a2, .int .i64 a3, .int .i64 a4, .int .i64 a5, .int .i64 a6]) (ys := [.int .i64 b0, .int .i64 b1, .int .i64 b2, .int .i64 b3, .int .i64 b4, .int .i64 b5, .int .i64 b6]) eqk22 (by decide) eqg22 rfl rfl K
@[simp] theorem eqlA22 (a0 b0 : Int) (a1 b1 : Int) (a2 b2 : Int) (a3 b3 : Int) (a4 b4 : Int) (a5 b5 : Int) (a6 b6 : Int) (K : Value → Prop) : aggBin Try.prog .eql 22 [.d (.s (.int .i64 a0)), .d (.s (.int .i64 a1)), .d (.s (.int .i64 a2)), .d (.s (.int .i64 a3)), .d (.s (.int .i64 a4)), .d (.s (.int .i64 a5)), .d (.s (.int .i64 a6))] [.d (.s (.int .i64 b0)), .d (.s (.int .i64 b1)), .d (.s (.int .i64 b2)), .d (.s (.int .i64 b3)), .d (.s (.int .i64 b4)), .d (.s (.int .i64 b5)), .d (.s (.int .i64 b6))] K = K (.bool ((eqVs [.int .i64 a0, .int .i64 a1, .int .i64 a2, .int .i64 a3, .int .i64 a4, .int .i64 a5, .int .i64 a6] [.int .i64 b0, .int .i64 b1, .int .i64 b2, .int .i64 b3, .int .i64 b4, .int .i64 b5, .int .i64 b6]))) := agg_eql (xs := [.int .i64 a0, .int .i64 a1, .int .i64 a2, .int .i64 a3, .int .i64 a4, .int .i64 a5, .int .i64 a6]) (ys := [.int .i64 b0, .int .i64 b1, .int .i64 b2, .int .i64 b3, .int .i64 b4, .int .i64 b5, .int .i64 b6]) eqk22 (by decide) eqg22 rfl rfl K
@[simp] theorem ze22 : zeroT Try.prog 22 = some [.d (.s (.int .i64 0)), .d (.s (.int .i64 0)), .d (.s (.int .i64 0)), .d (.s (.int .i64 0)), .d (.s (.int .i64 0)), .d (.s (.int .i64 0)), .d (.s (.int .i64 0))] := by kernel_rfl
@[simp] theorem fi22_0 : fieldT Try.prog 22 0 = some (0, 1, false) := by kernel_rfl
@[simp] theorem fi22_1 : fieldT Try.prog 22 1 = some (1, 1, false) := by kernel_rfl
@[simp] theorem fi22_2 : fieldT Try.prog 22 2 = some (2, 1, false) := by kernel_rfl
@[simp] theorem fi22_3 : fieldT Try.prog 22 3 = some (3, 1, false) := by kernel_rfl
@[simp] theorem fi22_4 : fieldT Try.prog 22 4 = some (4, 1, false) := by kernel_rfl
@[simp] theorem fi22_5 : fieldT Try.prog 22 5 = some (5, 1, false) := by kernel_rfl
@[simp] theorem fi22_6 : fieldT Try.prog 22 6 = some (6, 1, false) := by kernel_rfl
@[simp] theorem pl22 : placesT Try.prog 22 = some [(0, 1), (1, 1), (2, 1), (3, 1), (4, 1), (5, 1), (6, 1)] := by kernel_rfl
@[simp] theorem sz23 : szOf Try.prog 23 = some 7 := by kernel_rfl
@[simp] theorem ag23 : aggT Try.prog 23 = some true := by kernel_rfl
@[simp] theorem un23 : unitT Try.prog 23 = some 7 := by kernel_rfl
theorem kd23 : kindT Try.prog 12 23 = some [.int .i64, .int .i64, .int .i64, .int .i64, .int .i64, .int .i64, .int .i64] := by kernel_rfl
theorem eqk23 : eqT Try.prog 8 23 = some (true, [.int .i64, .int .i64, .int .i64, .int .i64, .int .i64, .int .i64, .int .i64]) := by kernel_rfl
theorem eqg23 : (Try.prog).eqGuardType (Try.prog).depth 23 = false := by kernel_rfl
@[simp] theorem neqA23 (a0 b0 : Int) (a1 b1 : Int) (a2 b2 : Int) (a3 b3 : Int) (a4 b4 : Int) (a5 b5 : Int) (a6 b6 : Int) (K : Value → Prop) : aggBin Try.prog .neq 23 [.d (.s (.int .i64 a0)), .d (.s (.int .i64 a1)), .d (.s (.int .i64 a2)), .d (.s (.int .i64 a3)), .d (.s (.int .i64 a4)), .d (.s (.int .i64 a5)), .d (.s (.int .i64 a6))] [.d (.s (.int .i64 b0)), .d (.s (.int .i64 b1)), .d (.s (.int .i64 b2)), .d (.s (.int .i64 b3)), .d (.s (.int .i64 b4)), .d (.s (.int .i64 b5)), .d (.s (.int .i64 b6))] K = K (.bool (!(eqVs [.int .i64 a0, .int .i64 a1, .int .i64 a2, .int .i64 a3, .int .i64 a4, .int .i64 a5, .int .i64 a6] [.int .i64 b0, .int .i64 b1, .int .i64 b2, .int .i64 b3, .int .i64 b4, .int .i64 b5, .int .i64 b6]))) := agg_neq (xs := [.int .i64 a0, .int .i64 a1, .int .i64 a2, .int .i64 a3, .int .i64 a4, .int .i64 a5, .int .i64 a6]) (ys := [.int .i64 b0, .int .i64 b1, .int .i64 b2, .int .i64 b3, .int .i64 b4, .int .i64 b5, .int .i64 b6]) eqk23 (by decide) eqg23 rfl rfl K
@[simp] theorem eqlA23 (a0 b0 : Int) (a1 b1 : Int) (a2 b2 : Int) (a3 b3 : Int) (a4 b4 : Int) (a5 b5 : Int) (a6 b6 : Int) (K : Value → Prop) : aggBin Try.prog .eql 23 [.d (.s (.int .i64 a0)), .d (.s (.int .i64 a1)), .d (.s (.int .i64 a2)), .d (.s (.int .i64 a3)), .d (.s (.int .i64 a4)), .d (.s (.int .i64 a5)), .d (.s (.int .i64 a6))] [.d (.s (.int .i64 b0)), .d (.s (.int .i64 b1)), .d (.s (.int .i64 b2)), .d (.s (.int .i64 b3)), .d (.s (.int .i64 b4)), .d (.s (.int .i64 b5)), .d (.s (.int .i64 b6))] K = K (.bool ((eqVs [.int .i64 a0, .int .i64 a1, .int .i64 a2, .int .i64 a3, .int .i64 a4, .int .i64 a5, .int .i64 a6] [.int .i64 b0, .int .i64 b1, .int .i64 b2, .int .i64 b3, .int .i64 b4, .int .i64 b5, .int .i64 b6]))) := agg_eql (xs := [.int .i64 a0, .int .i64 a1, .int .i64 a2, .int .i64 a3, .int .i64 a4, .int .i64 a5, .int .i64 a6]) (ys := [.int .i64 b0, .int .i64 b1, .int .i64 b2, .int .i64 b3, .int .i64 b4, .int .i64 b5, .int .i64 b6]) eqk23 (by decide) eqg23 rfl rfl K
@[simp] theorem ze23 : zeroT Try.prog 23 = some [.d (.s (.int .i64 0)), .d (.s (.int .i64 0)), .d (.s (.int .i64 0)), .d (.s (.int .i64 0)), .d (.s (.int .i64 0)), .d (.s (.int .i64 0)), .d (.s (.int .i64 0))] := by kernel_rfl
@[simp] theorem fi23_0 : fieldT Try.prog 23 0 = some (0, 1, false) := by kernel_rfl
@[simp] theorem fi23_1 : fieldT Try.prog 23 1 = some (1, 1, false) := by kernel_rfl
@[simp] theorem fi23_2 : fieldT Try.prog 23 2 = some (2, 1, false) := by kernel_rfl
@[simp] theorem fi23_3 : fieldT Try.prog 23 3 = some (3, 1, false) := by kernel_rfl
@[simp] theorem fi23_4 : fieldT Try.prog 23 4 = some (4, 1, false) := by kernel_rfl
@[simp] theorem fi23_5 : fieldT Try.prog 23 5 = some (5, 1, false) := by kernel_rfl
@[simp] theorem fi23_6 : fieldT Try.prog 23 6 = some (6, 1, false) := by kernel_rfl
@[simp] theorem pl23 : placesT Try.prog 23 = some [(0, 1), (1, 1), (2, 1), (3, 1), (4, 1), (5, 1), (6, 1)] := by kernel_rfl
@[simp] theorem sz24 : szOf Try.prog 24 = some 10 := by kernel_rfl
@[simp] theorem ag24 : aggT Try.prog 24 = some true := by kernel_rfl
@[simp] theorem un24 : unitT Try.prog 24 = some 10 := by kernel_rfl
theorem kd24 : kindT Try.prog 12 24 = some [.int .i64, .int .i64, .int .i64, .int .i64, .int .i64, .int .i64, .int .i64, .int .i64, .int .i64, .int .i64] := by kernel_rfl
theorem eqk24 : eqT Try.prog 8 24 = some (true, [.int .i64, .int .i64, .int .i64, .int .i64, .int .i64, .int .i64, .int .i64, .int .i64, .int .i64, .int .i64]) := by kernel_rfl
theorem eqg24 : (Try.prog).eqGuardType (Try.prog).depth 24 = false := by kernel_rfl
@[simp] theorem neqA24 (a0 b0 : Int) (a1 b1 : Int) (a2 b2 : Int) (a3 b3 : Int) (a4 b4 : Int) (a5 b5 : Int) (a6 b6 : Int) (a7 b7 : Int) (a8 b8 : Int) (a9 b9 : Int) (K : Value → Prop) : aggBin Try.prog .neq 24 [.d (.s (.int .i64 a0)), .d (.s (.int .i64 a1)), .d (.s (.int .i64 a2)), .d (.s (.int .i64 a3)), .d (.s (.int .i64 a4)), .d (.s (.int .i64 a5)), .d (.s (.int .i64 a6)), .d (.s (.int .i64 a7)), .d (.s (.int .i64 a8)), .d (.s (.int .i64 a9))] [.d (.s (.int .i64 b0)), .d (.s (.int .i64 b1)), .d (.s (.int .i64 b2)), .d (.s (.int .i64 b3)), .d (.s (.int .i64 b4)), .d (.s (.int .i64 b5)), .d (.s (.int .i64 b6)), .d (.s (.int .i64 b7)), .d (.s (.int .i64 b8)), .d (.s (.int .i64 b9))] K = K (.bool (!(eqVs [.int .i64 a0, .int .i64 a1, .int .i64 a2, .int .i64 a3, .int .i64 a4, .int .i64 a5, .int .i64 a6, .int .i64 a7, .int .i64 a8, .int .i64 a9] [.int .i64 b0, .int .i64 b1, .int .i64 b2, .int .i64 b3, .int .i64 b4, .int .i64 b5, .int .i64 b6, .int .i64 b7, .int .i64 b8, .int .i64 b9]))) := agg_neq (xs := [.int .i64 a0, .int .i64 a1, .int .i64 a2, .int .i64 a3, .int .i64 a4, .int .i64 a5, .int .i64 a6, .int .i64 a7, .int .i64 a8, .int .i64 a9]) (ys := [.int .i64 b0, .int .i64 b1, .int .i64 b2, .int .i64 b3, .int .i64 b4, .int .i64 b5, .int .i64 b6, .int .i64 b7, .int .i64 b8, .int .i64 b9]) eqk24 (by decide) eqg24 rfl rfl K
@[simp] theorem eqlA24 (a0 b0 : Int) (a1 b1 : Int) (a2 b2 : Int) (a3 b3 : Int) (a4 b4 : Int) (a5 b5 : Int) (a6 b6 : Int) (a7 b7 : Int) (a8 b8 : Int) (a9 b9 : Int) (K : Value → Prop) : aggBin Try.prog .eql 24 [.d (.s (.int .i64 a0)), .d (.s (.int .i64 a1)), .d (.s (.int .i64 a2)), .d (.s (.int .i64 a3)), .d (.s (.int .i64 a4)), .d (.s (.int .i64 a5)), .d (.s (.int .i64 a6)), .d (.s (.int .i64 a7)), .d (.s (.int .i64 a8)), .d (.s (.int .i64 a9))] [.d (.s (.int .i64 b0)), .d (.s (.int .i64 b1)), .d (.s (.int .i64 b2)), .d (.s (.int .i64 b3)), .d (.s (.int .i64 b4)), .d (.s (.int .i64 b5)), .d (.s (.int .i64 b6)), .d (.s (.int .i64 b7)), .d (.s (.int .i64 b8)), .d (.s (.int .i64 b9))] K = K (.bool ((eqVs [.int .i64 a0, .int .i64 a1, .int .i64 a2, .int .i64 a3, .int .i64 a4, .int .i64 a5, .int .i64 a6, .int .i64 a7, .int .i64 a8, .int .i64 a9] [.int .i64 b0, .int .i64 b1, .int .i64 b2, .int .i64 b3, .int .i64 b4, .int .i64 b5, .int .i64 b6, .int .i64 b7, .int .i64 b8, .int .i64 b9]))) := agg_eql (xs := [.int .i64 a0, .int .i64 a1, .int .i64 a2, .int .i64 a3, .int .i64 a4, .int .i64 a5, .int .i64 a6, .int .i64 a7, .int .i64 a8, .int .i64 a9]) (ys := [.int .i64 b0, .int .i64 b1, .int .i64 b2, .int .i64 b3, .int .i64 b4, .int .i64 b5, .int .i64 b6, .int .i64 b7, .int .i64 b8, .int .i64 b9]) eqk24 (by decide) eqg24 rfl rfl K
@[simp] theorem ze24 : zeroT Try.prog 24 = some [.d (.s (.int .i64 0)), .d (.s (.int .i64 0)), .d (.s (.int .i64 0)), .d (.s (.int .i64 0)), .d (.s (.int .i64 0)), .d (.s (.int .i64 0)), .d (.s (.int .i64 0)), .d (.s (.int .i64 0)), .d (.s (.int .i64 0)), .d (.s (.int .i64 0))] := by kernel_rfl
@[simp] theorem fi24_0 : fieldT Try.prog 24 0 = some (0, 1, false) := by kernel_rfl
@[simp] theorem fi24_1 : fieldT Try.prog 24 1 = some (1, 7, true) := by kernel_rfl
@[simp] theorem fi24_2 : fieldT Try.prog 24 2 = some (8, 1, false) := by kernel_rfl
@[simp] theorem fi24_3 : fieldT Try.prog 24 3 = some (9, 1, false) := by kernel_rfl
@[simp] theorem pl24 : placesT Try.prog 24 = some [(0, 1), (1, 7), (8, 1), (9, 1)] := by kernel_rfl
@[simp] theorem sz25 : szOf Try.prog 25 = some 10 := by kernel_rfl
@[simp] theorem ag25 : aggT Try.prog 25 = some true := by kernel_rfl
@[simp] theorem un25 : unitT Try.prog 25 = some 10 := by kernel_rfl
theorem kd25 : kindT Try.prog 12 25 = some [.int .i64, .int .i64, .int .i64, .int .i64, .int .i64, .int .i64, .int .i64, .int .i64, .int .i64, .int .i64] := by kernel_rfl
theorem eqk25 : eqT Try.prog 8 25 = some (true, [.int .i64, .int .i64, .int .i64, .int .i64, .int .i64, .int .i64, .int .i64, .int .i64, .int .i64, .int .i64]) := by kernel_rfl
theorem eqg25 : (Try.prog).eqGuardType (Try.prog).depth 25 = false := by kernel_rfl
@[simp] theorem neqA25 (a0 b0 : Int) (a1 b1 : Int) (a2 b2 : Int) (a3 b3 : Int) (a4 b4 : Int) (a5 b5 : Int) (a6 b6 : Int) (a7 b7 : Int) (a8 b8 : Int) (a9 b9 : Int) (K : Value → Prop) : aggBin Try.prog .neq 25 [.d (.s (.int .i64 a0)), .d (.s (.int .i64 a1)), .d (.s (.int .i64 a2)), .d (.s (.int .i64 a3)), .d (.s (.int .i64 a4)), .d (.s (.int .i64 a5)), .d (.s (.int .i64 a6)), .d (.s (.int .i64 a7)), .d (.s (.int .i64 a8)), .d (.s (.int .i64 a9))] [.d (.s (.int .i64 b0)), .d (.s (.int .i64 b1)), .d (.s (.int .i64 b2)), .d (.s (.int .i64 b3)), .d (.s (.int .i64 b4)), .d (.s (.int .i64 b5)), .d (.s (.int .i64 b6)), .d (.s (.int .i64 b7)), .d (.s (.int .i64 b8)), .d (.s (.int .i64 b9))] K = K (.bool (!(eqVs [.int .i64 a0, .int .i64 a1, .int .i64 a2, .int .i64 a3, .int .i64 a4, .int .i64 a5, .int .i64 a6, .int .i64 a7, .int .i64 a8, .int .i64 a9] [.int .i64 b0, .int .i64 b1, .int .i64 b2, .int .i64 b3, .int .i64 b4, .int .i64 b5, .int .i64 b6, .int .i64 b7, .int .i64 b8, .int .i64 b9]))) := agg_neq (xs := [.int .i64 a0, .int .i64 a1, .int .i64 a2, .int .i64 a3, .int .i64 a4, .int .i64 a5, .int .i64 a6, .int .i64 a7, .int .i64 a8, .int .i64 a9]) (ys := [.int .i64 b0, .int .i64 b1, .int .i64 b2, .int .i64 b3, .int .i64 b4, .int .i64 b5, .int .i64 b6, .int .i64 b7, .int .i64 b8, .int .i64 b9]) eqk25 (by decide) eqg25 rfl rfl K
@[simp] theorem eqlA25 (a0 b0 : Int) (a1 b1 : Int) (a2 b2 : Int) (a3 b3 : Int) (a4 b4 : Int) (a5 b5 : Int) (a6 b6 : Int) (a7 b7 : Int) (a8 b8 : Int) (a9 b9 : Int) (K : Value → Prop) : aggBin Try.prog .eql 25 [.d (.s (.int .i64 a0)), .d (.s (.int .i64 a1)), .d (.s (.int .i64 a2)), .d (.s (.int .i64 a3)), .d (.s (.int .i64 a4)), .d (.s (.int .i64 a5)), .d (.s (.int .i64 a6)), .d (.s (.int .i64 a7)), .d (.s (.int .i64 a8)), .d (.s (.int .i64 a9))] [.d (.s (.int .i64 b0)), .d (.s (.int .i64 b1)), .d (.s (.int .i64 b2)), .d (.s (.int .i64 b3)), .d (.s (.int .i64 b4)), .d (.s (.int .i64 b5)), .d (.s (.int .i64 b6)), .d (.s (.int .i64 b7)), .d (.s (.int .i64 b8)), .d (.s (.int .i64 b9))] K = K (.bool ((eqVs [.int .i64 a0, .int .i64 a1, .int .i64 a2, .int .i64 a3, .int .i64 a4, .int .i64 a5, .int .i64 a6, .int .i64 a7, .int .i64 a8, .int .i64 a9] [.int .i64 b0, .int .i64 b1, .int .i64 b2, .int .i64 b3, .int .i64 b4, .int .i64 b5, .int .i64 b6, .int .i64 b7, .int .i64 b8, .int .i64 b9]))) := agg_eql (xs := [.int .i64 a0, .int .i64 a1, .int .i64 a2, .int .i64 a3, .int .i64 a4, .int .i64 a5, .int .i64 a6, .int .i64 a7, .int .i64 a8, .int .i64 a9]) (ys := [.int .i64 b0, .int .i64 b1, .int .i64 b2, .int .i64 b3, .int .i64 b4, .int .i64 b5, .int .i64 b6, .int .i64 b7, .int .i64 b8, .int .i64 b9]) eqk25 (by decide) eqg25 rfl rfl K
@[simp] theorem ze25 : zeroT Try.prog 25 = some [.d (.s (.int .i64 0)), .d (.s (.int .i64 0)), .d (.s (.int .i64 0)), .d (.s (.int .i64 0)), .d (.s (.int .i64 0)), .d (.s (.int .i64 0)), .d (.s (.int .i64 0)), .d (.s (.int .i64 0)), .d (.s (.int .i64 0)), .d (.s (.int .i64 0))] := by kernel_rfl
@[simp] theorem fi25_0 : fieldT Try.prog 25 0 = some (0, 1, false) := by kernel_rfl
@[simp] theorem fi25_1 : fieldT Try.prog 25 1 = some (1, 7, true) := by kernel_rfl
@[simp] theorem fi25_2 : fieldT Try.prog 25 2 = some (8, 1, false) := by kernel_rfl
@[simp] theorem fi25_3 : fieldT Try.prog 25 3 = some (9, 1, false) := by kernel_rfl
@[simp] theorem pl25 : placesT Try.prog 25 = some [(0, 1), (1, 7), (8, 1), (9, 1)] := by kernel_rfl
@[simp] theorem sz26 : szOf Try.prog 26 = some 14 := by kernel_rfl
@[simp] theorem ag26 : aggT Try.prog 26 = some true := by kernel_rfl
@[simp] theorem un26 : unitT Try.prog 26 = some 14 := by kernel_rfl
theorem kd26 : kindT Try.prog 12 26 = some [.int .i64, .int .i64, .int .i64, .int .i64, .int .i64, .int .i64, .int .i64, .int .i64, .int .i64, .int .i64, .int .i64, .int .i64, .int .i64, .int .i64] := by kernel_rfl
theorem eqk26 : eqT Try.prog 8 26 = some (true, [.int .i64, .int .i64, .int .i64, .int .i64, .int .i64, .int .i64, .int .i64, .int .i64, .int .i64, .int .i64, .int .i64, .int .i64, .int .i64, .int .i64]) := by kernel_rfl
theorem eqg26 : (Try.prog).eqGuardType (Try.prog).depth 26 = false := by kernel_rfl
@[simp] theorem neqA26 (a0 b0 : Int) (a1 b1 : Int) (a2 b2 : Int) (a3 b3 : Int) (a4 b4 : Int) (a5 b5 : Int) (a6 b6 : Int) (a7 b7 : Int) (a8 b8 : Int) (a9 b9 : Int) (a10 b10 : Int) (a11 b11 : Int) (a12 b12 : Int) (a13 b13 : Int) (K : Value → Prop) : aggBin Try.prog .neq 26 [.d (.s (.int .i64 a0)), .d (.s (.int .i64 a1)), .d (.s (.int .i64 a2)), .d (.s (.int .i64 a3)), .d (.s (.int .i64 a4)), .d (.s (.int .i64 a5)), .d (.s (.int .i64 a6)), .d (.s (.int .i64 a7)), .d (.s (.int .i64 a8)), .d (.s (.int .i64 a9)), .d (.s (.int .i64 a10)), .d (.s (.int .i64 a11)), .d (.s (.int .i64 a12)), .d (.s (.int .i64 a13))] [.d (.s (.int .i64 b0)), .d (.s (.int .i64 b1)), .d (.s (.int .i64 b2)), .d (.s (.int .i64 b3)), .d (.s (.int .i64 b4)), .d (.s (.int .i64 b5)), .d (.s (.int .i64 b6)), .d (.s (.int .i64 b7)), .d (.s (.int .i64 b8)), .d (.s (.int .i64 b9)), .d (.s (.int .i64 b10)), .d (.s (.int .i64 b11)), .d (.s (.int .i64 b12)), .d (.s (.int .i64 b13))] K = K (.bool (!(eqVs [.int .i64 a0, .int .i64 a1, .int .i64 a2, .int .i64 a3, .int .i64 a4, .int .i64 a5, .int .i64 a6, .int .i64 a7, .int .i64 a8, .int .i64 a9, .int .i64 a10, .int .i64 a11, .int .i64 a12, .int .i64 a13] [.int .i64 b0, .int .i64 b1, .int .i64 b2, .int .i64 b3, .int .i64 b4, .int .i64 b5, .int .i64 b6, .int .i64 b7, .int .i64 b8, .int .i64 b9, .int .i64 b10, .int .i64 b11, .int .i64 b12, .int .i64 b13]))) := agg_neq (xs := [.int .i64 a0, .int .i64 a1, .int .i64 a2, .int .i64 a3, .int .i64 a4, .int .i64 a5, .int .i64 a6, .int .i64 a7, .int .i64 a8, .int .i64 a9, .int .i64 a10, .int .i64 a11, .int .i64 a12, .int .i64 a13]) (ys := [.int .i64 b0, .int .i64 b1, .int .i64 b2, .int .i64 b3, .int .i64 b4, .int .i64 b5, .int .i64 b6, .int .i64 b7, .int .i64 b8, .int .i64 b9, .int .i64 b10, .int .i64 b11, .int .i64 b12, .int .i64 b13]) eqk26 (by decide) eqg26 rfl rfl K
@[simp] theorem eqlA26 (a0 b0 : Int) (a1 b1 : Int) (a2 b2 : Int) (a3 b3 : Int) (a4 b4 : Int) (a5 b5 : Int) (a6 b6 : Int) (a7 b7 : Int) (a8 b8 : Int) (a9 b9 : Int) (a10 b10 : Int) (a11 b11 : Int) (a12 b12 : Int) (a13 b13 : Int) (K : Value → Prop) : aggBin Try.prog .eql 26 [.d (.s (.int .i64 a0)), .d (.s (.int .i64 a1)), .d (.s (.int .i64 a2)), .d (.s (.int .i64 a3)), .d (.s (.int .i64 a4)), .d (.s (.int .i64 a5)), .d (.s (.int .i64 a6)), .d (.s (.int .i64 a7)), .d (.s (.int .i64 a8)), .d (.s (.int .i64 a9)), .d (.s (.int .i64 a10)), .d (.s (.int .i64 a11)), .d (.s (.int .i64 a12)), .d (.s (.int .i64 a13))] [.d (.s (.int .i64 b0)), .d (.s (.int .i64 b1)), .d (.s (.int .i64 b2)), .d (.s (.int .i64 b3)), .d (.s (.int .i64 b4)), .d (.s (.int .i64 b5)), .d (.s (.int .i64 b6)), .d (.s (.int .i64 b7)), .d (.s (.int .i64 b8)), .d (.s (.int .i64 b9)), .d (.s (.int .i64 b10)), .d (.s (.int .i64 b11)), .d (.s (.int .i64 b12)), .d (.s (.int .i64 b13))] K = K (.bool ((eqVs [.int .i64 a0, .int .i64 a1, .int .i64 a2, .int .i64 a3, .int .i64 a4, .int .i64 a5, .int .i64 a6, .int .i64 a7, .int .i64 a8, .int .i64 a9, .int .i64 a10, .int .i64 a11, .int .i64 a12, .int .i64 a13] [.int .i64 b0, .int .i64 b1, .int .i64 b2, .int .i64 b3, .int .i64 b4, .int .i64 b5, .int .i64 b6, .int .i64 b7, .int .i64 b8, .int .i64 b9, .int .i64 b10, .int .i64 b11, .int .i64 b12, .int .i64 b13]))) := agg_eql (xs := [.int .i64 a0, .int .i64 a1, .int .i64 a2, .int .i64 a3, .int .i64 a4, .int .i64 a5, .int .i64 a6, .int .i64 a7, .int .i64 a8, .int .i64 a9, .int .i64 a10, .int .i64 a11, .int .i64 a12, .int .i64 a13]) (ys := [.int .i64 b0, .int .i64 b1, .int .i64 b2, .int .i64 b3, .int .i64 b4, .int .i64 b5, .int .i64 b6, .int .i64 b7, .int .i64 b8, .int .i64 b9, .int .i64 b10, .int .i64 b11, .int .i64 b12, .int .i64 b13]) eqk26 (by decide) eqg26 rfl rfl K
@[simp] theorem ze26 : zeroT Try.prog 26 = some [.d (.s (.int .i64 0)), .d (.s (.int .i64 0)), .d (.s (.int .i64 0)), .d (.s (.int .i64 0)), .d (.s (.int .i64 0)), .d (.s (.int .i64 0)), .d (.s (.int .i64 0)), .d (.s (.int .i64 0)), .d (.s (.int .i64 0)), .d (.s (.int .i64 0)), .d (.s (.int .i64 0)), .d (.s (.int .i64 0)), .d (.s (.int .i64 0)), .d (.s (.int .i64 0))] := by kernel_rfl
@[simp] theorem fi26_0 : fieldT Try.prog 26 0 = some (0, 1, false) := by kernel_rfl
@[simp] theorem fi26_1 : fieldT Try.prog 26 1 = some (1, 10, true) := by kernel_rfl
@[simp] theorem fi26_2 : fieldT Try.prog 26 2 = some (11, 1, false) := by kernel_rfl
@[simp] theorem fi26_3 : fieldT Try.prog 26 3 = some (12, 1, false) := by kernel_rfl
@[simp] theorem fi26_4 : fieldT Try.prog 26 4 = some (13, 1, false) := by kernel_rfl
@[simp] theorem pl26 : placesT Try.prog 26 = some [(0, 1), (1, 10), (11, 1), (12, 1), (13, 1)] := by kernel_rfl
@[simp] theorem sz27 : szOf Try.prog 27 = some 14 := by kernel_rfl
@[simp] theorem ag27 : aggT Try.prog 27 = some true := by kernel_rfl
@[simp] theorem un27 : unitT Try.prog 27 = some 14 := by kernel_rfl
theorem kd27 : kindT Try.prog 12 27 = some [.int .i64, .int .i64, .int .i64, .int .i64, .int .i64, .int .i64, .int .i64, .int .i64, .int .i64, .int .i64, .int .i64, .int .i64, .int .i64, .int .i64] := by kernel_rfl
theorem eqk27 : eqT Try.prog 8 27 = some (true, [.int .i64, .int .i64, .int .i64, .int .i64, .int .i64, .int .i64, .int .i64, .int .i64, .int .i64, .int .i64, .int .i64, .int .i64, .int .i64, .int .i64]) := by kernel_rfl
theorem eqg27 : (Try.prog).eqGuardType (Try.prog).depth 27 = false := by kernel_rfl
@[simp] theorem neqA27 (a0 b0 : Int) (a1 b1 : Int) (a2 b2 : Int) (a3 b3 : Int) (a4 b4 : Int) (a5 b5 : Int) (a6 b6 : Int) (a7 b7 : Int) (a8 b8 : Int) (a9 b9 : Int) (a10 b10 : Int) (a11 b11 : Int) (a12 b12 : Int) (a13 b13 : Int) (K : Value → Prop) : aggBin Try.prog .neq 27 [.d (.s (.int .i64 a0)), .d (.s (.int .i64 a1)), .d (.s (.int .i64 a2)), .d (.s (.int .i64 a3)), .d (.s (.int .i64 a4)), .d (.s (.int .i64 a5)), .d (.s (.int .i64 a6)), .d (.s (.int .i64 a7)), .d (.s (.int .i64 a8)), .d (.s (.int .i64 a9)), .d (.s (.int .i64 a10)), .d (.s (.int .i64 a11)), .d (.s (.int .i64 a12)), .d (.s (.int .i64 a13))] [.d (.s (.int .i64 b0)), .d (.s (.int .i64 b1)), .d (.s (.int .i64 b2)), .d (.s (.int .i64 b3)), .d (.s (.int .i64 b4)), .d (.s (.int .i64 b5)), .d (.s (.int .i64 b6)), .d (.s (.int .i64 b7)), .d (.s (.int .i64 b8)), .d (.s (.int .i64 b9)), .d (.s (.int .i64 b10)), .d (.s (.int .i64 b11)), .d (.s (.int .i64 b12)), .d (.s (.int .i64 b13))] K = K (.bool (!(eqVs [.int .i64 a0, .int .i64 a1, .int .i64 a2, .int .i64 a3, .int .i64 a4, .int .i64 a5, .int .i64 a6, .int .i64 a7, .int .i64 a8, .int .i64 a9, .int .i64 a10, .int .i64 a11, .int .i64 a12, .int .i64 a13] [.int .i64 b0, .int .i64 b1, .int .i64 b2, .int .i64 b3, .int .i64 b4, .int .i64 b5, .int .i64 b6, .int .i64 b7, .int .i64 b8, .int .i64 b9, .int .i64 b10, .int .i64 b11, .int .i64 b12, .int .i64 b13]))) := agg_neq (xs := [.int .i64 a0, .int .i64 a1, .int .i64 a2, .int .i64 a3, .int .i64 a4, .int .i64 a5, .int .i64 a6, .int .i64 a7, .int .i64 a8, .int .i64 a9, .int .i64 a10, .int .i64 a11, .int .i64 a12, .int .i64 a13]) (ys := [.int .i64 b0, .int .i64 b1, .int .i64 b2, .int .i64 b3, .int .i64 b4, .int .i64 b5, .int .i64 b6, .int .i64 b7, .int .i64 b8, .int .i64 b9, .int .i64 b10, .int .i64 b11, .int .i64 b12, .int .i64 b13]) eqk27 (by decide) eqg27 rfl rfl K
@[simp] theorem eqlA27 (a0 b0 : Int) (a1 b1 : Int) (a2 b2 : Int) (a3 b3 : Int) (a4 b4 : Int) (a5 b5 : Int) (a6 b6 : Int) (a7 b7 : Int) (a8 b8 : Int) (a9 b9 : Int) (a10 b10 : Int) (a11 b11 : Int) (a12 b12 : Int) (a13 b13 : Int) (K : Value → Prop) : aggBin Try.prog .eql 27 [.d (.s (.int .i64 a0)), .d (.s (.int .i64 a1)), .d (.s (.int .i64 a2)), .d (.s (.int .i64 a3)), .d (.s (.int .i64 a4)), .d (.s (.int .i64 a5)), .d (.s (.int .i64 a6)), .d (.s (.int .i64 a7)), .d (.s (.int .i64 a8)), .d (.s (.int .i64 a9)), .d (.s (.int .i64 a10)), .d (.s (.int .i64 a11)), .d (.s (.int .i64 a12)), .d (.s (.int .i64 a13))] [.d (.s (.int .i64 b0)), .d (.s (.int .i64 b1)), .d (.s (.int .i64 b2)), .d (.s (.int .i64 b3)), .d (.s (.int .i64 b4)), .d (.s (.int .i64 b5)), .d (.s (.int .i64 b6)), .d (.s (.int .i64 b7)), .d (.s (.int .i64 b8)), .d (.s (.int .i64 b9)), .d (.s (.int .i64 b10)), .d (.s (.int .i64 b11)), .d (.s (.int .i64 b12)), .d (.s (.int .i64 b13))] K = K (.bool ((eqVs [.int .i64 a0, .int .i64 a1, .int .i64 a2, .int .i64 a3, .int .i64 a4, .int .i64 a5, .int .i64 a6, .int .i64 a7, .int .i64 a8, .int .i64 a9, .int .i64 a10, .int .i64 a11, .int .i64 a12, .int .i64 a13] [.int .i64 b0, .int .i64 b1, .int .i64 b2, .int .i64 b3, .int .i64 b4, .int .i64 b5, .int .i64 b6, .int .i64 b7, .int .i64 b8, .int .i64 b9, .int .i64 b10, .int .i64 b11, .int .i64 b12, .int .i64 b13]))) := agg_eql (xs := [.int .i64 a0, .int .i64 a1, .int .i64 a2, .int .i64 a3, .int .i64 a4, .int .i64 a5, .int .i64 a6, .int .i64 a7, .int .i64 a8, .int .i64 a9, .int .i64 a10, .int .i64 a11, .int .i64 a12, .int .i64 a13]) (ys := [.int .i64 b0, .int .i64 b1, .int .i64 b2, .int .i64 b3, .int .i64 b4, .int .i64 b5, .int .i64 b6, .int .i64 b7, .int .i64 b8, .int .i64 b9, .int .i64 b10, .int .i64 b11, .int .i64 b12, .int .i64 b13]) eqk27 (by decide) eqg27 rfl rfl K
@[simp] theorem ze27 : zeroT Try.prog 27 = some [.d (.s (.int .i64 0)), .d (.s (.int .i64 0)), .d (.s (.int .i64 0)), .d (.s (.int .i64 0)), .d (.s (.int .i64 0)), .d (.s (.int .i64 0)), .d (.s (.int .i64 0)), .d (.s (.int .i64 0)), .d (.s (.int .i64 0)), .d (.s (.int .i64 0)), .d (.s (.int .i64 0)), .d (.s (.int .i64 0)), .d (.s (.int .i64 0)), .d (.s (.int .i64 0))] := by kernel_rfl
@[simp] theorem fi27_0 : fieldT Try.prog 27 0 = some (0, 1, false) := by kernel_rfl
@[simp] theorem fi27_1 : fieldT Try.prog 27 1 = some (1, 10, true) := by kernel_rfl
@[simp] theorem fi27_2 : fieldT Try.prog 27 2 = some (11, 1, false) := by kernel_rfl
@[simp] theorem fi27_3 : fieldT Try.prog 27 3 = some (12, 1, false) := by kernel_rfl
@[simp] theorem fi27_4 : fieldT Try.prog 27 4 = some (13, 1, false) := by kernel_rfl
@[simp] theorem pl27 : placesT Try.prog 27 = some [(0, 1), (1, 10), (11, 1), (12, 1), (13, 1)] := by kernel_rfl
@[simp] theorem sz28 : szOf Try.prog 28 = some 1 := by kernel_rfl
@[simp] theorem ag28 : aggT Try.prog 28 = some false := by kernel_rfl
@[simp] theorem un28 : unitT Try.prog 28 = some 1 := by kernel_rfl
@[simp] theorem ze28 : zeroT Try.prog 28 = some [.d (.s .nilFunc)] := by kernel_rfl
@[simp] theorem sz29 : szOf Try.prog 29 = some 7 := by kernel_rfl
@[simp] theorem ag29 : aggT Try.prog 29 = some true := by kernel_rfl
@[simp] theorem un29 : unitT Try.prog 29 = some 7 := by kernel_rfl
theorem kd29 : kindT Try.prog 12 29 = some [.int .i64, .int .i64, .int .i64, .int .i64, .int .i64, .int .i64, .int .i64] := by kernel_rfl
theorem eqk29 : eqT Try.prog 8 29 = some (true, [.int .i64, .int .i64, .int .i64, .int .i64, .int .i64, .int .i64, .int .i64]) := by kernel_rfl
theorem eqg29 : (Try.prog).eqGuardType (Try.prog).depth 29 = false := by kernel_rfl
@[simp] theorem neqA29 (a0 b0 : Int) (a1 b1 : Int) (a2 b2 : Int) (a3 b3 : Int) (a4 b4 : Int) (a5 b5 : Int) (a6 b6 : Int) (K : Value → Prop) : aggBin Try.prog .neq 29 [.d (.s (.int .i64 a0)), .d (.s (.int .i64 a1)), .d (.s (.int .i64 a2)), .d (.s (.int .i64 a3)), .d (.s (.int .i64 a4)), .d (.s (.int .i64 a5)), .d (.s (.int .i64 a6))] [.d (.s (.int .i64 b0)), .d (.s (.int .i64 b1)), .d (.s (.int .i64 b2)), .d (.s (.int .i64 b3)), .d (.s (.int .i64 b4)), .d (.s (.int .i64 b5)), .d (.s (.int .i64 b6))] K = K (.bool (!(eqVs [.int .i64 a0, .int .i64 a1, .int .i64 a2, .int .i64 a3, .int .i64 a4, .int .i64 a5, .int .i64 a6] [.int .i64 b0, .int .i64 b1, .int .i64 b2, .int .i64 b3, .int .i64 b4, .int .i64 b5, .int .i64 b6]))) := agg_neq (xs := [.int .i64 a0, .int .i64 a1, .int .i64 a2, .int .i64 a3, .int .i64 a4, .int .i64 a5, .int .i64 a6]) (ys := [.int .i64 b0, .int .i64 b1, .int .i64 b2, .int .i64 b3, .int .i64 b4, .int .i64 b5, .int .i64 b6]) eqk29 (by decide) eqg29 rfl rfl K
@[simp] theorem eqlA29 (a0 b0 : Int) (a1 b1 : Int) (a2 b2 : Int) (a3 b3 : Int) (a4 b4 : Int) (a5 b5 : Int) (a6 b6 : Int) (K : Value → Prop) : aggBin Try.prog .eql 29 [.d (.s (.int .i64 a0)), .d (.s (.int .i64 a1)), .d (.s (.int .i64 a2)), .d (.s (.int .i64 a3)), .d (.s (.int .i64 a4)), .d (.s (.int .i64 a5)), .d (.s (.int .i64 a6))] [.d (.s (.int .i64 b0)), .d (.s (.int .i64 b1)), .d (.s (.int .i64 b2)), .d (.s (.int .i64 b3)), .d (.s (.int .i64 b4)), .d (.s (.int .i64 b5)), .d (.s (.int .i64 b6))] K = K (.bool ((eqVs [.int .i64 a0, .int .i64 a1, .int .i64 a2, .int .i64 a3, .int .i64 a4, .int .i64 a5, .int .i64 a6] [.int .i64 b0, .int .i64 b1, .int .i64 b2, .int .i64 b3, .int .i64 b4, .int .i64 b5, .int .i64 b6]))) := agg_eql (xs := [.int .i64 a0, .int .i64 a1, .int .i64 a2, .int .i64 a3, .int .i64 a4, .int .i64 a5, .int .i64 a6]) (ys := [.int .i64 b0, .int .i64 b1, .int .i64 b2, .int .i64 b3, .int .i64 b4, .int .i64 b5, .int .i64 b6]) eqk29 (by decide) eqg29 rfl rfl K
@[simp] theorem ze29 : zeroT Try.prog 29 = some [.d (.s (.int .i64 0)), .d (.s (.int .i64 0)), .d (.s (.int .i64 0)), .d (.s (.int .i64 0)), .d (.s (.int .i64 0)), .d (.s (.int .i64 0)), .d (.s (.int .i64 0))] := by kernel_rfl
@[simp] theorem fi29_0 : fieldT Try.prog 29 0 = some (0, 1, false) := by kernel_rfl
@[simp] theorem fi29_1 : fieldT Try.prog 29 1 = some (1, 1, false) := by kernel_rfl
@[simp] theorem fi29_2 : fieldT Try.prog 29 2 = some (2, 1, false) := by kernel_rfl
@[simp] theorem fi29_3 : fieldT Try.prog 29 3 = some (3, 1, false) := by kernel_rfl
@[simp] theorem fi29_4 : fieldT Try.prog 29 4 = some (4, 1, false) := by kernel_rfl
@[simp] theorem fi29_5 : fieldT Try.prog 29 5 = some (5, 1, false) := by kernel_rfl
@[simp] theorem fi29_6 : fieldT Try.prog 29 6 = some (6, 1, false) := by kernel_rfl
@[simp] theorem pl29 : placesT Try.prog 29 = some [(0, 1), (1, 1), (2, 1), (3, 1), (4, 1), (5, 1), (6, 1)] := by kernel_rfl
@[simp] theorem sz30 : szOf Try.prog 30 = some 10 := by kernel_rfl
@[simp] theorem ag30 : aggT Try.prog 30 = some true := by kernel_rfl
@[simp] theorem un30 : unitT Try.prog 30 = some 10 := by kernel_rfl
theorem kd30 : kindT Try.prog 12 30 = some [.int .i64, .int .i64, .int .i64, .int .i64, .int .i64, .int .i64, .int .i64, .int .i64, .int .i64, .int .i64] := by kernel_rfl
theorem eqk30 : eqT Try.prog 8 30 = some (true, [.int .i64, .int .i64, .int .i64, .int .i64, .int .i64, .int .i64, .int .i64, .int .i64, .int .i64, .int .i64]) := by kernel_rfl
theorem eqg30 : (Try.prog).eqGuardType (Try.prog).depth 30 = false := by kernel_rfl
@[simp] theorem neqA30 (a0 b0 : Int) (a1 b1 : Int) (a2 b2 : Int) (a3 b3 : Int) (a4 b4 : Int) (a5 b5 : Int) (a6 b6 : Int) (a7 b7 : Int) (a8 b8 : Int) (a9 b9 : Int) (K : Value → Prop) : aggBin Try.prog .neq 30 [.d (.s (.int .i64 a0)), .d (.s (.int .i64 a1)), .d (.s (.int .i64 a2)), .d (.s (.int .i64 a3)), .d (.s (.int .i64 a4)), .d (.s (.int .i64 a5)), .d (.s (.int .i64 a6)), .d (.s (.int .i64 a7)), .d (.s (.int .i64 a8)), .d (.s (.int .i64 a9))] [.d (.s (.int .i64 b0)), .d (.s (.int .i64 b1)), .d (.s (.int .i64 b2)), .d (.s (.int .i64 b3)), .d (.s (.int .i64 b4)), .d (.s (.int .i64 b5)), .d (.s (.int .i64 b6)), .d (.s (.int .i64 b7)), .d (.s (.int .i64 b8)), .d (.s (.int .i64 b9))] K = K (.bool (!(eqVs [.int .i64 a0, .int .i64 a1, .int .i64 a2, .int .i64 a3, .int .i64 a4, .int .i64 a5, .int .i64 a6, .int .i64 a7, .int .i64 a8, .int .i64 a9] [.int .i64 b0, .int .i64 b1, .int .i64 b2, .int .i64 b3, .int .i64 b4, .int .i64 b5, .int .i64 b6, .int .i64 b7, .int .i64 b8, .int .i64 b9]))) := agg_neq (xs := [.int .i64 a0, .int .i64 a1, .int .i64 a2, .int .i64 a3, .int .i64 a4, .int .i64 a5, .int .i64 a6, .int .i64 a7, .int .i64 a8, .int .i64 a9]) (ys := [.int .i64 b0, .int .i64 b1, .int .i64 b2, .int .i64 b3, .int .i64 b4, .int .i64 b5, .int .i64 b6, .int .i64 b7, .int .i64 b8, .int .i64 b9]) eqk30 (by decide) eqg30 rfl rfl K
@[simp] theorem eqlA30 (a0 b0 : Int) (a1 b1 : Int) (a2 b2 : Int) (a3 b3 : Int) (a4 b4 : Int) (a5 b5 : Int) (a6 b6 : Int) (a7 b7 : Int) (a8 b8 : Int) (a9 b9 : Int) (K : Value → Prop) : aggBin Try.prog .eql 30 [.d (.s (.int .i64 a0)), .d (.s (.int .i64 a1)), .d (.s (.int .i64 a2)), .d (.s (.int .i64 a3)), .d (.s (.int .i64 a4)), .d (.s (.int .i64 a5)), .d (.s (.int .i64 a6)), .d (.s (.int .i64 a7)), .d (.s (.int .i64 a8)), .d (.s (.int .i64 a9))] [.d (.s (.int .i64 b0)), .d (.s (.int .i64 b1)), .d (.s (.int .i64 b2)), .d (.s (.int .i64 b3)), .d (.s (.int .i64 b4)), .d (.s (.int .i64 b5)), .d (.s (.int .i64 b6)), .d (.s (.int .i64 b7)), .d (.s (.int .i64 b8)), .d (.s (.int .i64 b9))] K = K (.bool ((eqVs [.int .i64 a0, .int .i64 a1, .int .i64 a2, .int .i64 a3, .int .i64 a4, .int .i64 a5, .int .i64 a6, .int .i64 a7, .int .i64 a8, .int .i64 a9] [.int .i64 b0, .int .i64 b1, .int .i64 b2, .int .i64 b3, .int .i64 b4, .int .i64 b5, .int .i64 b6, .int .i64 b7, .int .i64 b8, .int .i64 b9]))) := agg_eql (xs := [.int .i64 a0, .int .i64 a1, .int .i64 a2, .int .i64 a3, .int .i64 a4, .int .i64 a5, .int .i64 a6, .int .i64 a7, .int .i64 a8, .int .i64 a9]) (ys := [.int .i64 b0, .int .i64 b1, .int .i64 b2, .int .i64 b3, .int .i64 b4, .int .i64 b5, .int .i64 b6, .int .i64 b7, .int .i64 b8, .int .i64 b9]) eqk30 (by decide) eqg30 rfl rfl K
@[simp] theorem ze30 : zeroT Try.prog 30 = some [.d (.s (.int .i64 0)), .d (.s (.int .i64 0)), .d (.s (.int .i64 0)), .d (.s (.int .i64 0)), .d (.s (.int .i64 0)), .d (.s (.int .i64 0)), .d (.s (.int .i64 0)), .d (.s (.int .i64 0)), .d (.s (.int .i64 0)), .d (.s (.int .i64 0))] := by kernel_rfl
@[simp] theorem fi30_0 : fieldT Try.prog 30 0 = some (0, 1, false) := by kernel_rfl
@[simp] theorem fi30_1 : fieldT Try.prog 30 1 = some (1, 7, true) := by kernel_rfl
@[simp] theorem fi30_2 : fieldT Try.prog 30 2 = some (8, 1, false) := by kernel_rfl
@[simp] theorem fi30_3 : fieldT Try.prog 30 3 = some (9, 1, false) := by kernel_rfl
@[simp] theorem pl30 : placesT Try.prog 30 = some [(0, 1), (1, 7), (8, 1), (9, 1)] := by kernel_rfl
@[simp] theorem sz31 : szOf Try.prog 31 = some 10 := by kernel_rfl
@[simp] theorem ag31 : aggT Try.prog 31 = some true := by kernel_rfl
@[simp] theorem un31 : unitT Try.prog 31 = some 10 := by kernel_rfl
theorem kd31 : kindT Try.prog 12 31 = some [.int .i64, .int .i64, .int .i64, .int .i64, .int .i64, .int .i64, .int .i64, .int .i64, .int .i64, .int .i64] := by kernel_rfl
theorem eqk31 : eqT Try.prog 8 31 = some (true, [.int .i64, .int .i64, .int .i64, .int .i64, .int .i64, .int .i64, .int .i64, .int .i64, .int .i64, .int .i64]) := by kernel_rfl
theorem eqg31 : (Try.prog).eqGuardType (Try.prog).depth 31 = false := by kernel_rfl
@[simp] theorem neqA31 (a0 b0 : Int) (a1 b1 : Int) (a2 b2 : Int) (a3 b3 : Int) (a4 b4 : Int) (a5 b5 : Int) (a6 b6 : Int) (a7 b7 : Int) (a8 b8 : Int) (a9 b9 : Int) (K : Value → Prop) : aggBin Try.prog .neq 31 [.d (.s (.int .i64 a0)), .d (.s (.int .i64 a1)), .d (.s (.int .i64 a2)), .d (.s (.int .i64 a3)), .d (.s (.int .i64 a4)), .d (.s (.int .i64 a5)), .d (.s (.int .i64 a6)), .d (.s (.int .i64 a7)), .d (.s (.int .i64 a8)), .d (.s (.int .i64 a9))] [.d (.s (.int .i64 b0)), .d (.s (.int .i64 b1)), .d (.s (.int .i64 b2)), .d (.s (.int .i64 b3)), .d (.s (.int .i64 b4)), .d (.s (.int .i64 b5)), .d (.s (.int .i64 b6)), .d (.s (.int .i64 b7)), .d (.s (.int .i64 b8)), .d (.s (.int .i64 b9))] K = K (.bool (!(eqVs [.int .i64 a0, .int .i64 a1, .int .i64 a2, .int .i64 a3, .int .i64 a4, .int .i64 a5, .int .i64 a6, .int .i64 a7, .int .i64 a8, .int .i64 a9] [.int .i64 b0, .int .i64 b1, .int .i64 b2, .int .i64 b3, .int .i64 b4, .int .i64 b5, .int .i64 b6, .int .i64 b7, .int .i64 b8, .int .i64 b9]))) := agg_neq (xs := [.int .i64 a0, .int .i64 a1, .int .i64 a2, .int .i64 a3, .int .i64 a4, .int .i64 a5, .int .i64 a6, .int .i64 a7, .int .i64 a8, .int .i64 a9]) (ys := [.int .i64 b0, .int .i64 b1, .int .i64 b2, .int .i64 b3, .int .i64 b4, .int .i64 b5, .int .i64 b6, .int .i64 b7, .int .i64 b8, .int .i64 b9]) eqk31 (by decide) eqg31 rfl rfl K
@[simp] theorem eqlA31 (a0 b0 : Int) (a1 b1 : Int) (a2 b2 : Int) (a3 b3 : Int) (a4 b4 : Int) (a5 b5 : Int) (a6 b6 : Int) (a7 b7 : Int) (a8 b8 : Int) (a9 b9 : Int) (K : Value → Prop) : aggBin Try.prog .eql 31 [.d (.s (.int .i64 a0)), .d (.s (.int .i64 a1)), .d (.s (.int .i64 a2)), .d (.s (.int .i64 a3)), .d (.s (.int .i64 a4)), .d (.s (.int .i64 a5)), .d (.s (.int .i64 a6)), .d (.s (.int .i64 a7)), .d (.s (.int .i64 a8)), .d (.s (.int .i64 a9))] [.d (.s (.int .i64 b0)), .d (.s (.int .i64 b1)), .d (.s (.int .i64 b2)), .d (.s (.int .i64 b3)), .d (.s (.int .i64 b4)), .d (.s (.int .i64 b5)), .d (.s (.int .i64 b6)), .d (.s (.int .i64 b7)), .d (.s (.int .i64 b8)), .d (.s (.int .i64 b9))] K = K (.bool ((eqVs [.int .i64 a0, .int .i64 a1, .int .i64 a2, .int .i64 a3, .int .i64 a4, .int .i64 a5, .int .i64 a6, .int .i64 a7, .int .i64 a8, .int .i64 a9] [.int .i64 b0, .int .i64 b1, .int .i64 b2, .int .i64 b3, .int .i64 b4, .int .i64 b5, .int .i64 b6, .int .i64 b7, .int .i64 b8, .int .i64 b9]))) := agg_eql (xs := [.int .i64 a0, .int .i64 a1, .int .i64 a2, .int .i64 a3, .int .i64 a4, .int .i64 a5, .int .i64 a6, .int .i64 a7, .int .i64 a8, .int .i64 a9]) (ys := [.int .i64 b0, .int .i64 b1, .int .i64 b2, .int .i64 b3, .int .i64 b4, .int .i64 b5, .int .i64 b6, .int .i64 b7, .int .i64 b8, .int .i64 b9]) eqk31 (by decide) eqg31 rfl rfl K
@[simp] theorem ze31 : zeroT Try.prog 31 = some [.d (.s (.int .i64 0)), .d (.s (.int .i64 0)), .d (.s (.int .i64 0)), .d (.s (.int .i64 0)), .d (.s (.int .i64 0)), .d (.s (.int .i64 0)), .d (.s (.int .i64 0)), .d (.s (.int .i64 0)), .d (.s (.int .i64 0)), .d (.s (.int .i64 0))] := by kernel_rfl
@[simp] theorem fi31_0 : fieldT Try.prog 31 0 = some (0, 1, false) := by kernel_rfl
@[simp] theorem fi31_1 : fieldT Try.prog 31 1 = some (1, 7, true) := by kernel_rfl
@[simp] theorem fi31_2 : fieldT Try.prog 31 2 = some (8, 1, false) := by kernel_rfl
@[simp] theorem fi31_3 : fieldT Try.prog 31 3 = some (9, 1, false) := by kernel_rfl
@[simp] theorem pl31 : placesT Try.prog 31 = some [(0, 1), (1, 7), (8, 1), (9, 1)] := by kernel_rfl
@[simp] theorem sz32 : szOf Try.prog 32 = some 14 := by kernel_rfl
@[simp] theorem ag32 : aggT Try.prog 32 = some true := by kernel_rfl
@[simp] theorem un32 : unitT Try.prog 32 = some 14 := by kernel_rfl
theorem kd32 : kindT Try.prog 12 32 = some [.int .i64, .int .i64, .int .i64, .int .i64, .int .i64, .int .i64, .int .i64, .int .i64, .int .i64, .int .i64, .int .i64, .int .i64, .int .i64, .int .i64] := by kernel_rfl
theorem eqk32 : eqT Try.prog 8 32 = some (true, [.int .i64, .int .i64, .int .i64, .int .i64, .int .i64, .int .i64, .int .i64, .int .i64, .int .i64, .int .i64, .int .i64, .int .i64, .int .i64, .int .i64]) := by kernel_rfl
theorem eqg32 : (Try.prog).eqGuardType (Try.prog).depth 32 = false := by kernel_rfl
@[simp] theorem neqA32 (a0 b0 : Int) (a1 b1 : Int) (a2 b2 : Int) (a3 b3 : Int) (a4 b4 : Int) (a5 b5 : Int) (a6 b6 : Int) (a7 b7 : Int) (a8 b8 : Int) (a9 b9 : Int) (a10 b10 : Int) (a11 b11 : Int) (a12 b12 : Int) (a13 b13 : Int) (K : Value → Prop) : aggBin Try.prog .neq 32 [.d (.s (.int .i64 a0)), .d (.s (.int .i64 a1)), .d (.s (.int .i64 a2)), .d (.s (.int .i64 a3)), .d (.s (.int .i64 a4)), .d (.s (.int .i64 a5)), .d (.s (.int .i64 a6)), .d (.s (.int .i64 a7)), .d (.s (.int .i64 a8)), .d (.s (.int .i64 a9)), .d (.s (.int .i64 a10)), .d (.s (.int .i64 a11)), .d (.s (.int .i64 a12)), .d (.s (.int .i64 a13))] [.d (.s (.int .i64 b0)), .d (.s (.int .i64 b1)), .d (.s (.int .i64 b2)), .d (.s (.int .i64 b3)), .d (.s (.int .i64 b4)), .d (.s (.int .i64 b5)), .d (.s (.int .i64 b6)), .d (.s (.int .i64 b7)), .d (.s (.int .i64 b8)), .d (.s (.int .i64 b9)), .d (.s (.int .i64 b10)), .d (.s (.int .i64 b11)), .d (.s (.int .i64 b12)), .d (.s (.int .i64 b13))] K = K (.bool (!(eqVs [.int .i64 a0, .int .i64 a1, .int .i64 a2, .int .i64 a3, .int .i64 a4, .int .i64 a5, .int .i64 a6, .int .i64 a7, .int .i64 a8, .int .i64 a9, .int .i64 a10, .int .i64 a11, .int .i64 a12, .int .i64 a13] [.int .i64 b0, .int .i64 b1, .int .i64 b2, .int .i64 b3, .int .i64 b4, .int .i64 b5, .int .i64 b6, .int .i64 b7, .int .i64 b8, .int .i64 b9, .int .i64 b10, .int .i64 b11, .int .i64 b12, .int .i64 b13]))) := agg_neq (xs := [.int .i64 a0, .int .i64 a1, .int .i64 a2, .int .i64 a3, .int .i64 a4, .int .i64 a5, .int .i64 a6, .int .i64 a7, .int .i64 a8, .int .i64 a9, .int .i64 a10, .int .i64 a11, .int .i64 a12, .int .i64 a13]) (ys := [.int .i64 b0, .int .i64 b1, .int .i64 b2, .int .i64 b3, .int .i64 b4, .int .i64 b5, .int .i64 b6, .int .i64 b7, .int .i64 b8, .int .i64 b9, .int .i64 b10, .int .i64 b11, .int .i64 b12, .int .i64 b13]) eqk32 (by decide) eqg32 rfl rfl K
@[simp] theorem eqlA32 (a0 b0 : Int) (a1 b1 : Int) (a2 b2 : Int) (a3 b3 : Int) (a4 b4 : Int) (a5 b5 : Int) (a6 b6 : Int) (a7 b7 : Int) (a8 b8 : Int) (a9 b9 : Int) (a10 b10 : Int) (a11 b11 : Int) (a12 b12 : Int) (a13 b13 : Int) (K : Value → Prop) : aggBin Try.prog .eql 32 [.d (.s (.int .i64 a0)), .d (.s (.int .i64 a1)), .d (.s (.int .i64 a2)), .d (.s (.int .i64 a3)), .d (.s (.int .i64 a4)), .d (.s (.int .i64 a5)), .d (.s (.int .i64 a6)), .d (.s (.int .i64 a7)), .d (.s (.int .i64 a8)), .d (.s (.int .i64 a9)), .d (.s (.int .i64 a10)), .d (.s (.int .i64 a11)), .d (.s (.int .i64 a12)), .d (.s (.int .i64 a13))] [.d (.s (.int .i64 b0)), .d (.s (.int .i64 b1)), .d (.s (.int .i64 b2)), .d (.s (.int .i64 b3)), .d (.s (.int .i64 b4)), .d (.s (.int .i64 b5)), .d (.s (.int .i64 b6)), .d (.s (.int .i64 b7)), .d (.s (.int .i64 b8)), .d (.s (.int .i64 b9)), .d (.s (.int .i64 b10)), .d (.s (.int .i64 b11)), .d (.s (.int .i64 b12)), .d (.s (.int .i64 b13))] K = K (.bool ((eqVs [.int .i64 a0, .int .i64 a1, .int .i64 a2, .int .i64 a3, .int .i64 a4, .int .i64 a5, .int .i64 a6, .int .i64 a7, .int .i64 a8, .int .i64 a9, .int .i64 a10, .int .i64 a11, .int .i64 a12, .int .i64 a13] [.int .i64 b0, .int .i64 b1, .int .i64 b2, .int .i64 b3, .int .i64 b4, .int .i64 b5, .int .i64 b6, .int .i64 b7, .int .i64 b8, .int .i64 b9, .int .i64 b10, .int .i64 b11, .int .i64 b12, .int .i64 b13]))) := agg_eql (xs := [.int .i64 a0, .int .i64 a1, .int .i64 a2, .int .i64 a3, .int .i64 a4, .int .i64 a5, .int .i64 a6, .int .i64 a7, .int .i64 a8, .int .i64 a9, .int .i64 a10, .int .i64 a11, .int .i64 a12, .int .i64 a13]) (ys := [.int .i64 b0, .int .i64 b1, .int .i64 b2, .int .i64 b3, .int .i64 b4, .int .i64 b5, .int .i64 b6, .int .i64 b7, .int .i64 b8, .int .i64 b9, .int .i64 b10, .int .i64 b11, .int .i64 b12, .int .i64 b13]) eqk32 (by decide) eqg32 rfl rfl K
@[simp] theorem ze32 : zeroT Try.prog 32 = some [.d (.s (.int .i64 0)), .d (.s (.int .i64 0)), .d (.s (.int .i64 0)), .d (.s (.int .i64 0)), .d (.s (.int .i64 0)), .d (.s (.int .i64 0)), .d (.s (.int .i64 0)), .d (.s (.int .i64 0)), .d (.s (.int .i64 0)), .d (.s (.int .i64 0)), .d (.s (.int .i64 0)), .d (.s (.int .i64 0)), .d (.s (.int .i64 0)), .d (.s (.int .i64 0))] := by kernel_rfl
@[simp] theorem fi32_0 : fieldT Try.prog 32 0 = some (0, 1, false) := by kernel_rfl
@[simp] theorem fi32_1 : fieldT Try.prog 32 1 = some (1, 10, true) := by kernel_rfl
@[simp] theorem fi32_2 : fieldT Try.prog 32 2 = some (11, 1, false) := by kernel_rfl
@[simp] theorem fi32_3 : fieldT Try.prog 32 3 = some (12, 1, false) := by kernel_rfl
@[simp] theorem fi32_4 : fieldT Try.prog 32 4 = some (13, 1, false) := by kernel_rfl
@[simp] theorem pl32 : placesT Try.prog 32 = some [(0, 1), (1, 10), (11, 1), (12, 1), (13, 1)] := by kernel_rfl
@[simp] theorem sz33 : szOf Try.prog 33 = some 14 := by kernel_rfl
@[simp] theorem ag33 : aggT Try.prog 33 = some true := by kernel_rfl
@[simp] theorem un33 : unitT Try.prog 33 = some 14 := by kernel_rfl
theorem kd33 : kindT Try.prog 12 33 = some [.int .i64, .int .i64, .int .i64, .int .i64, .int .i64, .int .i64, .int .i64, .int .i64, .int .i64, .int .i64, .int .i64, .int .i64, .int .i64, .int .i64] := by kernel_rfl
theorem eqk33 : eqT Try.prog 8 33 = some (true, [.int .i64, .int .i64, .int .i64, .int .i64, .int .i64, .int .i64, .int .i64, .int .i64, .int .i64, .int .i64, .int .i64, .int .i64, .int .i64, .int .i64]) := by kernel_rfl
theorem eqg33 : (Try.prog).eqGuardType (Try.prog).depth 33 = false := by kernel_rfl
@[simp] theorem neqA33 (a0 b0 : Int) (a1 b1 : Int) (a2 b2 : Int) (a3 b3 : Int) (a4 b4 : Int) (a5 b5 : Int) (a6 b6 : Int) (a7 b7 : Int) (a8 b8 : Int) (a9 b9 : Int) (a10 b10 : Int) (a11 b11 : Int) (a12 b12 : Int) (a13 b13 : Int) (K : Value → Prop) : aggBin Try.prog .neq 33 [.d (.s (.int .i64 a0)), .d (.s (.int .i64 a1)), .d (.s (.int .i64 a2)), .d (.s (.int .i64 a3)), .d (.s (.int .i64 a4)), .d (.s (.int .i64 a5)), .d (.s (.int .i64 a6)), .d (.s (.int .i64 a7)), .d (.s (.int .i64 a8)), .d (.s (.int .i64 a9)), .d (.s (.int .i64 a10)), .d (.s (.int .i64 a11)), .d (.s (.int .i64 a12)), .d (.s (.int .i64 a13))] [.d (.s (.int .i64 b0)), .d (.s (.int .i64 b1)), .d (.s (.int .i64 b2)), .d (.s (.int .i64 b3)), .d (.s (.int .i64 b4)), .d (.s (.int .i64 b5)), .d (.s (.int .i64 b6)), .d (.s (.int .i64 b7)), .d (.s (.int .i64 b8)), .d (.s (.int .i64 b9)), .d (.s (.int .i64 b10)), .d (.s (.int .i64 b11)), .d (.s (.int .i64 b12)), .d (.s (.int .i64 b13))] K = K (.bool (!(eqVs [.int .i64 a0, .int .i64 a1, .int .i64 a2, .int .i64 a3, .int .i64 a4, .int .i64 a5, .int .i64 a6, .int .i64 a7, .int .i64 a8, .int .i64 a9, .int .i64 a10, .int .i64 a11, .int .i64 a12, .int .i64 a13] [.int .i64 b0, .int .i64 b1, .int .i64 b2, .int .i64 b3, .int .i64 b4, .int .i64 b5, .int .i64 b6, .int .i64 b7, .int .i64 b8, .int .i64 b9, .int .i64 b10, .int .i64 b11, .int .i64 b12, .int .i64 b13]))) := agg_neq (xs := [.int .i64 a0, .int .i64 a1, .int .i64 a2, .int .i64 a3, .int .i64 a4, .int .i64 a5, .int .i64 a6, .int .i64 a7, .int .i64 a8, .int .i64 a9, .int .i64 a10, .int .i64 a11, .int .i64 a12, .int .i64 a13]) (ys := [.int .i64 b0, .int .i64 b1, .int .i64 b2, .int .i64 b3, .int .i64 b4, .int .i64 b5, .int .i64 b6, .int .i64 b7, .int .i64 b8, .int .i64 b9, .int .i64 b10, .int .i64 b11, .int .i64 b12, .int .i64 b13]) eqk33 (by decide) eqg33 rfl rfl K
@[simp] theorem eqlA33 (a0 b0 : Int) (a1 b1 : Int) (a2 b2 : Int) (a3 b3 : Int) (a4 b4 : Int) (a5 b5 : Int) (a6 b6 : Int) (a7 b7 : Int) (a8 b8 : Int) (a9 b9 : Int) (a10 b10 : Int) (a11 b11 : Int) (a12 b12 : Int) (a13 b13 : Int) (K : Value → Prop) : aggBin Try.prog .eql 33 [.d (.s (.int .i64 a0)), .d (.s (.int .i64 a1)), .d (.s (.int .i64 a2)), .d (.s (.int .i64 a3)), .d (.s (.int .i64 a4)), .d (.s (.int .i64 a5)), .d (.s (.int .i64 a6)), .d (.s (.int .i64 a7)), .d (.s (.int .i64 a8)), .d (.s (.int .i64 a9)), .d (.s (.int .i64 a10)), .d (.s (.int .i64 a11)), .d (.s (.int .i64 a12)), .d (.s (.int .i64 a13))] [.d (.s (.int .i64 b0)), .d (.s (.int .i64 b1)), .d (.s (.int .i64 b2)), .d (.s (.int .i64 b3)), .d (.s (.int .i64 b4)), .d (.s (.int .i64 b5)), .d (.s (.int .i64 b6)), .d (.s (.int .i64 b7)), .d (.s (.int .i64 b8)), .d (.s (.int .i64 b9)), .d (.s (.int .i64 b10)), .d (.s (.int .i64 b11)), .d (.s (.int .i64 b12)), .d (.s (.int .i64 b13))] K = K (.bool ((eqVs [.int .i64 a0, .int .i64 a1, .int .i64 a2, .int .i64 a3, .int .i64 a4, .int .i64 a5, .int .i64 a6, .int .i64 a7, .int .i64 a8, .int .i64 a9, .int .i64 a10, .int .i64 a11, .int .i64 a12, .int .i64 a13] [.int .i64 b0, .int .i64 b1, .int .i64 b2, .int .i64 b3, .int .i64 b4, .int .i64 b5, .int .i64 b6, .int .i64 b7, .int .i64 b8, .int .i64 b9, .int .i64 b10, .int .i64 b11, .int .i64 b12, .int .i64 b13]))) := agg_eql (xs := [.int .i64 a0, .int .i64 a1, .int .i64 a2, .int .i64 a3, .int .i64 a4, .int .i64 a5, .int .i64 a6, .int .i64 a7, .int .i64 a8, .int .i64 a9, .int .i64 a10, .int .i64 a11, .int .i64 a12, .int .i64 a13]) (ys := [.int .i64 b0, .int .i64 b1, .int .i64 b2, .int .i64 b3, .int .i64 b4, .int .i64 b5, .int .i64 b6, .int .i64 b7, .int .i64 b8, .int .i64 b9, .int .i64 b10, .int .i64 b11, .int .i64 b12, .int .i64 b13]) eqk33 (by decide) eqg33 rfl rfl K
@[simp] theorem ze33 : zeroT Try.prog 33 = some [.d (.s (.int .i64 0)), .d (.s (.int .i64 0)), .d (.s (.int .i64 0)), .d (.s (.int .i64 0)), .d (.s (.int .i64 0)), .d (.s (.int .i64 0)), .d (.s (.int .i64 0)), .d (.s (.int .i64 0)), .d (.s (.int .i64 0)), .d (.s (.int .i64 0)), .d (.s (.int .i64 0)), .d (.s (.int .i64 0)), .d (.s (.int .i64 0)), .d (.s (.int .i64 0))] := by kernel_rfl
@[simp] theorem fi33_0 : fieldT Try.prog 33 0 = some (0, 1, false) := by kernel_rfl
@[simp] theorem fi33_1 : fieldT Try.prog 33 1 = some (1, 10, true) := by kernel_rfl
@[simp] theorem fi33_2 : fieldT Try.prog 33 2 = some (11, 1, false) := by kernel_rfl
@[simp] theorem fi33_3 : fieldT Try.prog 33 3 = some (12, 1, false) := by kernel_rfl
@[simp] theorem fi33_4 : fieldT Try.prog 33 4 = some (13, 1, false) := by kernel_rfl
@[simp] theorem pl33 : placesT Try.prog 33 = some [(0, 1), (1, 10), (11, 1), (12, 1), (13, 1)] := by kernel_rfl
@[simp] theorem sz34 : szOf Try.prog 34 = some 1 := by kernel_rfl
@[simp] theorem ag34 : aggT Try.prog 34 = some false := by kernel_rfl
@[simp] theorem un34 : unitT Try.prog 34 = some 1 := by kernel_rfl
@[simp] theorem ze34 : zeroT Try.prog 34 = some [.d (.s .nilFunc)] := by kernel_rfl
@[simp] theorem sz35 : szOf Try.prog 35 = some 1 := by kernel_rfl
@[simp] theorem ag35 : aggT Try.prog 35 = some false := by kernel_rfl
@[simp] theorem un35 : unitT Try.prog 35 = some 1 := by kernel_rfl
@[simp] theorem ze35 : zeroT Try.prog 35 = some [.d (.s .nilFunc)] := by kernel_rfl
@[simp] theorem sz36 : szOf Try.prog 36 = some 1 := by kernel_rfl
@[simp] theorem ag36 : aggT Try.prog 36 = some false := by kernel_rfl
@[simp] theorem un36 : unitT Try.prog 36 = some 1 := by kernel_rfl
@[simp] theorem ze36 : zeroT Try.prog 36 = some [.d (.s .nilFunc)] := by kernel_rfl
@[simp] theorem sz37 : szOf Try.prog 37 = some 1 := by kernel_rfl
@[simp] theorem ag37 : aggT Try.prog 37 = some false := by kernel_rfl
@[simp] theorem un37 : unitT Try.prog 37 = some 1 := by kernel_rfl
theorem kd37 : kindT Try.prog 12 37 = some [.slice [.int .u8]] := by kernel_rfl
@[simp] theorem sl37 : sliceT Try.prog 37 = some (5, 1, 1) := by kernel_rfl
@[simp] theorem ze37 : zeroT Try.prog 37 = some [.d .nil] := by kernel_rfl
@[simp] theorem sz38 : szOf Try.prog 38 = some 1 := by kernel_rfl
@[simp] theorem ag38 : aggT Try.prog 38 = some false := by kernel_rfl
@[simp] theorem un38 : unitT Try.prog 38 = some 1 := by kernel_rfl
@[simp] theorem ze38 : zeroT Try.prog 38 = some [.d (.s .nilFunc)] := by kernel_rfl
@[simp] theorem sz39 : szOf Try.prog 39 = some 1 := by kernel_rfl
@[simp] theorem ag39 : aggT Try.prog 39 = some false := by kernel_rfl
@[simp] theorem un39 : unitT Try.prog 39 = some 1 := by kernel_rfl
@[simp] theorem ze39 : zeroT Try.prog 39 = some [.d (.s .nilFunc)] := by kernel_rfl
@[simp] theorem sz40 : szOf Try.prog 40 = some 1 := by kernel_rfl
@[simp] theorem ag40 : aggT Try.prog 40 = some false := by kernel_rfl
@[simp] theorem un40 : unitT Try.prog 40 = some 1 := by kernel_rfl
@[simp] theorem ze40 : zeroT Try.prog 40 = some [.d (.s .nilFunc)] := by kernel_rfl
@[simp] theorem sz41 : szOf Try.prog 41 = some 1 := by kernel_rfl
@[simp] theorem ag41 : aggT Try.prog 41 = some false := by kernel_rfl
@[simp] theorem un41 : unitT Try.prog 41 = some 1 := by kernel_rfl
@[simp] theorem ze41 : zeroT Try.prog 41 = some [.d (.s .nilFunc)] := by kernel_rfl
@[simp] theorem sz42 : szOf Try.prog 42 = some 1 := by kernel_rfl
@[simp] theorem ag42 : aggT Try.prog 42 = some false := by kernel_rfl
@[simp] theorem un42 : unitT Try.prog 42 = some 1 := by kernel_rfl
@[simp] theorem ze42 : zeroT Try.prog 42 = some [.d (.s .nilFunc)] := by kernel_rfl
@[simp] theorem sz43 : szOf Try.prog 43 = some 1 := by kernel_rfl
@[simp] theorem ag43 : aggT Try.prog 43 = some false := by kernel_rfl
@[simp] theorem un43 : unitT Try.prog 43 = some 1 := by kernel_rfl
@[simp] theorem ze43 : zeroT Try.prog 43 = some [.d (.s .nilFunc)] := by kernel_rfl
@[simp] theorem sz44 : szOf Try.prog 44 = some 3 := by kernel_rfl
@[simp] theorem ag44 : aggT Try.prog 44 = some true := by kernel_rfl
@[simp] theorem un44 : unitT Try.prog 44 = some 3 := by kernel_rfl
theorem kd44 : kindT Try.prog 12 44 = some [.int .i64, .int .i64, .int .i64] := by kernel_rfl
theorem eqk44 : eqT Try.prog 8 44 = some (true, [.int .i64, .int .i64, .int .i64]) := by kernel_rfl
theorem eqg44 : (Try.prog).eqGuardType (Try.prog).depth 44 = false := by kernel_rfl
@[simp] theorem neqA44 (a0 b0 : Int) (a1 b1 : Int) (a2 b2 : Int) (K : Value → Prop) : aggBin Try.prog .neq 44 [.d (.s (.int .i64 a0)), .d (.s (.int .i64 a1)), .d (.s (.int .i64 a2))] [.d (.s (.int .i64 b0)), .d (.s (.int .i64 b1)), .d (.s (.int .i64 b2))] K = K (.bool (!(eqVs [.int .i64 a0, .int .i64 a1, .int .i64 a2] [.int .i64 b0, .int .i64 b1, .int .i64 b2]))) := agg_neq (xs := [.int .i64 a0, .int .i64 a1, .int .i64 a2]) (ys := [.int .i64 b0, .int .i64 b1, .int .i64 b2]) eqk44 (by decide) eqg44 rfl rfl K
@[simp] theorem eqlA44 (a0 b0 : Int) (a1 b1 : Int) (a2 b2 : Int) (K : Value → Prop) : aggBin Try.prog .eql 44 [.d (.s (.int .i64 a0)), .d (.s (.int .i64 a1)), .d (.s (.int .i64 a2))] [.d (.s (.int .i64 b0)), .d (.s (.int .i64 b1)), .d (.s (.int .i64 b2))] K = K (.bool ((eqVs [.int .i64 a0, .int .i64 a1, .int .i64 a2] [.int .i64 b0, .int .i64 b1, .int .i64 b2]))) := agg_eql (xs := [.int .i64 a0, .int .i64 a1, .int .i64 a2]) (ys := [.int .i64 b0, .int .i64 b1, .int .i64 b2]) eqk44 (by decide) eqg44 rfl rfl K
@[simp] theorem ze44 : zeroT Try.prog 44 = some [.d (.s (.int .i64 0)), .d (.s (.int .i64 0)), .d (.s (.int .i64 0))] := by kernel_rfl
@[simp] theorem fi44_0 : fieldT Try.prog 44 0 = some (0, 1, false) := by kernel_rfl
@[simp] theorem fi44_1 : fieldT Try.prog 44 1 = some (1, 1, false) := by kernel_rfl
@[simp] theorem fi44_2 : fieldT Try.prog 44 2 = some (2, 1, false) := by kernel_rfl
@[simp] theorem pl44 : placesT Try.prog 44 = some [(0, 1), (1, 1), (2, 1)] := by kernel_rfl
@[simp] theorem sz45 : szOf Try.prog 45 = some 3 := by kernel_rfl
@[simp] theorem ag45 : aggT Try.prog 45 = some true := by kernel_rfl
@[simp] theorem un45 : unitT Try.prog 45 = some 3 := by kernel_rfl
theorem kd45 : kindT Try.prog 12 45 = some [.int .i64, .int .i64, .int .i64] := by kernel_rfl
theorem eqk45 : eqT Try.prog 8 45 = some (true, [.int .i64, .int .i64, .int .i64]) := by kernel_rfl
theorem eqg45 : (Try.prog).eqGuardType (Try.prog).depth 45 = false := by kernel_rfl
@[simp] theorem neqA45 (a0 b0 : Int) (a1 b1 : Int) (a2 b2 : Int) (K : Value → Prop) : aggBin Try.prog .neq 45 [.d (.s (.int .i64 a0)), .d (.s (.int .i64 a1)), .d (.s (.int .i64 a2))] [.d (.s (.int .i64 b0)), .d (.s (.int .i64 b1)), .d (.s (.int .i64 b2))] K = K (.bool (!(eqVs [.int .i64 a0, .int .i64 a1, .int .i64 a2] [.int .i64 b0, .int .i64 b1, .int .i64 b2]))) := agg_neq (xs := [.int .i64 a0, .int .i64 a1, .int .i64 a2]) (ys := [.int .i64 b0, .int .i64 b1, .int .i64 b2]) eqk45 (by decide) eqg45 rfl rfl K
@[simp] theorem eqlA45 (a0 b0 : Int) (a1 b1 : Int) (a2 b2 : Int) (K : Value → Prop) : aggBin Try.prog .eql 45 [.d (.s (.int .i64 a0)), .d (.s (.int .i64 a1)), .d (.s (.int .i64 a2))] [.d (.s (.int .i64 b0)), .d (.s (.int .i64 b1)), .d (.s (.int .i64 b2))] K = K (.bool ((eqVs [.int .i64 a0, .int .i64 a1, .int .i64 a2] [.int .i64 b0, .int .i64 b1, .int .i64 b2]))) := agg_eql (xs := [.int .i64 a0, .int .i64 a1, .int .i64 a2]) (ys := [.int .i64 b0, .int .i64 b1, .int .i64 b2]) eqk45 (by decide) eqg45 rfl rfl K
@[simp] theorem ze45 : zeroT Try.prog 45 = some [.d (.s (.int .i64 0)), .d (.s (.int .i64 0)), .d (.s (.int .i64 0))] := by kernel_rfl
@[simp] theorem fi45_0 : fieldT Try.prog 45 0 = some (0, 1, false) := by kernel_rfl
@[simp] theorem fi45_1 : fieldT Try.prog 45 1 = some (1, 1, false) := by kernel_rfl
@[simp] theorem fi45_2 : fieldT Try.prog 45 2 = some (2, 1, false) := by kernel_rfl
@[simp] theorem pl45 : placesT Try.prog 45 = some [(0, 1), (1, 1), (2, 1)] := by kernel_rfl
@[simp] theorem sz46 : szOf Try.prog 46 = some 1 := by kernel_rfl
@[simp] theorem ag46 : aggT Try.prog 46 = some false := by kernel_rfl
@[simp] theorem un46 : unitT Try.prog 46 = some 1 := by kernel_rfl
theorem kd46 : kindT Try.prog 12 46 = some [.slice [.int .i64, .int .i64, .int .i64]] := by kernel_rfl
@[simp] theorem sl46 : sliceT Try.prog 46 = some (45, 3, 24) := by kernel_rfl
@[simp] theorem ze46 : zeroT Try.prog 46 = some [.d .nil] := by kernel_rfl
@[simp] theorem sz47 : szOf Try.prog 47 = some 1 := by kernel_rfl
@[simp] theorem ag47 : aggT Try.prog 47 = some false := by kernel_rfl
@[simp] theorem un47 : unitT Try.prog 47 = some 1 := by kernel_rfl
@[simp] theorem ze47 : zeroT Try.prog 47 = some [.d (.s .nilFunc)] := by kernel_rfl
@[simp] theorem sz48 : szOf Try.prog 48 = some 4 := by kernel_rfl
@[simp] theorem ag48 : aggT Try.prog 48 = some true := by kernel_rfl
@[simp] theorem un48 : unitT Try.prog 48 = some 4 := by kernel_rfl
@[simp] theorem ze48 : zeroT Try.prog 48 = some [.d (.s (.pointer none)), .d (.s (.pointer none)), .d (.s (.pointer none)), .d (.s (.string ByteArray.empty))] := by kernel_rfl
@[simp] theorem fi48_0 : fieldT Try.prog 48 0 = some (0, 1, false) := by kernel_rfl
@[simp] theorem fi48_1 : fieldT Try.prog 48 1 = some (1, 1, false) := by kernel_rfl
@[simp] theorem fi48_2 : fieldT Try.prog 48 2 = some (2, 1, false) := by kernel_rfl
@[simp] theorem fi48_3 : fieldT Try.prog 48 3 = some (3, 1, false) := by kernel_rfl
@[simp] theorem pl48 : placesT Try.prog 48 = some [(0, 1), (1, 1), (2, 1), (3, 1)] := by kernel_rfl
@[simp] theorem sz49 : szOf Try.prog 49 = some 4 := by kernel_rfl
@[simp] theorem ag49 : aggT Try.prog 49 = some true := by kernel_rfl
@[simp] theorem un49 : unitT Try.prog 49 = some 4 := by kernel_rfl
@[simp] theorem ze49 : zeroT Try.prog 49 = some [.d (.s (.pointer none)), .d (.s (.pointer none)), .d (.s (.pointer none)), .d (.s (.string ByteArray.empty))] := by kernel_rfl
@[simp] theorem fi49_0 : fieldT Try.prog 49 0 = some (0, 1, false) := by kernel_rfl
@[simp] theorem fi49_1 : fieldT Try.prog 49 1 = some (1, 1, false) := by kernel_rfl
@[simp] theorem fi49_2 : fieldT Try.prog 49 2 = some (2, 1, false) := by kernel_rfl
@[simp] theorem fi49_3 : fieldT Try.prog 49 3 = some (3, 1, false) := by kernel_rfl
@[simp] theorem pl49 : placesT Try.prog 49 = some [(0, 1), (1, 1), (2, 1), (3, 1)] := by kernel_rfl
@[simp] theorem sz50 : szOf Try.prog 50 = some 0 := by kernel_rfl
@[simp] theorem ag50 : aggT Try.prog 50 = some true := by kernel_rfl
@[simp] theorem un50 : unitT Try.prog 50 = some 1 := by kernel_rfl
@[simp] theorem pl50 : placesT Try.prog 50 = some [] := by kernel_rfl
@[simp] theorem ar50 : arrT Try.prog 50 = some (0, 16, 1) := by kernel_rfl
@[simp] theorem sl50 : sliceT Try.prog 50 = none := by kernel_rfl
@[simp] theorem ze50 : zeroT Try.prog 50 = some [] := by kernel_rfl
@[simp] theorem sz51 : szOf Try.prog 51 = some 0 := by kernel_rfl
@[simp] theorem ag51 : aggT Try.prog 51 = some true := by kernel_rfl
@[simp] theorem un51 : unitT Try.prog 51 = some 0 := by kernel_rfl
@[simp] theorem ze51 : zeroT Try.prog 51 = some [] := by kernel_rfl
@[simp] theorem fi51_0 : fieldT Try.prog 51 0 = some (0, 0, true) := by kernel_rfl
@[simp] theorem pl51 : placesT Try.prog 51 = some [(0, 0)] := by kernel_rfl
@[simp] theorem sz52 : szOf Try.prog 52 = some 0 := by kernel_rfl
@[simp] theorem ag52 : aggT Try.prog 52 = some true := by kernel_rfl
@[simp] theorem un52 : unitT Try.prog 52 = some 0 := by kernel_rfl
@[simp] theorem ze52 : zeroT Try.prog 52 = some [] := by kernel_rfl
@[simp] theorem fi52_0 : fieldT Try.prog 52 0 = some (0, 0, true) := by kernel_rfl
@[simp] theorem pl52 : placesT Try.prog 52 = some [(0, 0)] := by kernel_rfl
@[simp] theorem sz53 : szOf Try.prog 53 = some 1 := by kernel_rfl
@[simp] theorem ag53 : aggT Try.prog 53 = some false := by kernel_rfl
@[simp] theorem un53 : unitT Try.prog 53 = some 1 := by kernel_rfl
@[simp] theorem ze53 : zeroT Try.prog 53 = some [.d (.s .nilFunc)] := by kernel_rfl
@[simp] theorem sz54 : szOf Try.prog 54 = some 1 := by kernel_rfl
@[simp] theorem ag54 : aggT Try.prog 54 = some false := by kernel_rfl
@[simp] theorem un54 : unitT Try.prog 54 = some 1 := by kernel_rfl
theorem kd54 : kindT Try.prog 12 54 = some [.int .u32] := by kernel_rfl
@[simp] theorem ze54 : zeroT Try.prog 54 = some [.d (.s (.int .u32 0))] := by kernel_rfl
@[simp] theorem sz55 : szOf Try.prog 55 = some 1 := by kernel_rfl
@[simp] theorem ag55 : aggT Try.prog 55 = some false := by kernel_rfl
@[simp] theorem un55 : unitT Try.prog 55 = some 1 := by kernel_rfl
theorem kd55 : kindT Try.prog 12 55 = some [.int .u8] := by kernel_rfl
@[simp] theorem ze55 : zeroT Try.prog 55 = some [.d (.s (.int .u8 0))] := by kernel_rfl
@[simp] theorem sz56 : szOf Try.prog 56 = some 1 := by kernel_rfl
@[simp] theorem ag56 : aggT Try.prog 56 = some false := by kernel_rfl
@[simp] theorem un56 : unitT Try.prog 56 = some 1 := by kernel_rfl
theorem kd56 : kindT Try.prog 12 56 = some [.int .u8] := by kernel_rfl
@[simp] theorem ze56 : zeroT Try.prog 56 = some [.d (.s (.int .u8 0))] := by kernel_rfl
@[simp] theorem sz57 : szOf Try.prog 57 = some 1 := by kernel_rfl
@[simp] theorem ag57 : aggT Try.prog 57 = some false := by kernel_rfl
@[simp] theorem un57 : unitT Try.prog 57 = some 1 := by kernel_rfl
@[simp] theorem ze57 : zeroT Try.prog 57 = some [.d (.s .nilFunc)] := by kernel_rfl
@[simp] theorem sz58 : szOf Try.prog 58 = some 1 := by kernel_rfl
@[simp] theorem ag58 : aggT Try.prog 58 = some false := by kernel_rfl
@[simp] theorem un58 : unitT Try.prog 58 = some 1 := by kernel_rfl
@[simp] theorem ze58 : zeroT Try.prog 58 = some [.d (.s (.pointer none))] := by kernel_rfl
@[simp] theorem sz59 : szOf Try.prog 59 = some 1 := by kernel_rfl
@[simp] theorem ag59 : aggT Try.prog 59 = some false := by kernel_rfl
@[simp] theorem un59 : unitT Try.prog 59 = some 1 := by kernel_rfl
theorem kd59 : kindT Try.prog 12 59 = some [.int .i32] := by kernel_rfl
@[simp] theorem ze59 : zeroT Try.prog 59 = some [.d (.s (.int .i32 0))] := by kernel_rfl
@[simp] theorem sz60 : szOf Try.prog 60 = some 1 := by kernel_rfl
@[simp] theorem ag60 : aggT Try.prog 60 = some false := by kernel_rfl
@[simp] theorem un60 : unitT Try.prog 60 = some 1 := by kernel_rfl
theorem kd60 : kindT Try.prog 12 60 = some [.int .i32] := by kernel_rfl
@[simp] theorem ze60 : zeroT Try.prog 60 = some [.d (.s (.int .i32 0))] := by kernel_rfl
@[simp] theorem sz61 : szOf Try.prog 61 = some 11 := by kernel_rfl
@[simp] theorem ag61 : aggT Try.prog 61 = some true := by kernel_rfl
@[simp] theorem un61 : unitT Try.prog 61 = some 11 := by kernel_rfl
@[simp] theorem ze61 : zeroT Try.prog 61 = some [.d (.s (.int .u64 0)), .d (.s (.int .u64 0)), .d (.s (.int .u32 0)), .d (.s (.int .u8 0)), .d (.s (.int .u8 0)), .d (.s (.int .u8 0)), .d (.s (.int .u8 0)), .d (.s .nilFunc), .d (.s (.pointer none)), .d (.s (.int .i32 0)), .d (.s (.int .i32 0))] := by kernel_rfl
@[simp] theorem fi61_0 : fieldT Try.prog 61 0 = some (0, 1, false) := by kernel_rfl
@[simp] theorem fi61_1 : fieldT Try.prog 61 1 = some (1, 1, false) := by kernel_rfl
@[simp] theorem fi61_2 : fieldT Try.prog 61 2 = some (2, 1, false) := by kernel_rfl
@[simp] theorem fi61_3 : fieldT Try.prog 61 3 = some (3, 1, false) := by kernel_rfl
@[simp] theorem fi61_4 : fieldT Try.prog 61 4 = some (4, 1, false) := by kernel_rfl
@[simp] theorem fi61_5 : fieldT Try.prog 61 5 = some (5, 1, false) := by kernel_rfl
@[simp] theorem fi61_6 : fieldT Try.prog 61 6 = some (6, 1, false) := by kernel_rfl
@[simp] theorem fi61_7 : fieldT Try.prog 61 7 = some (7, 1, false) := by kernel_rfl
@[simp] theorem fi61_8 : fieldT Try.prog 61 8 = some (8, 1, false) := by kernel_rfl
@[simp] theorem fi61_9 : fieldT Try.prog 61 9 = some (9, 1, false) := by kernel_rfl
@[simp] theorem fi61_10 : fieldT Try.prog 61 10 = some (10, 1, false) := by kernel_rfl
@[simp] theorem pl61 : placesT Try.prog 61 = some [(0, 1), (1, 1), (2, 1), (3, 1), (4, 1), (5, 1), (6, 1), (7, 1), (8, 1), (9, 1), (10, 1)] := by kernel_rfl
@[simp] theorem sz62 : szOf Try.prog 62 = some 11 := by kernel_rfl
@[simp] theorem ag62 : aggT Try.prog 62 = some true := by kernel_rfl
@[simp] theorem un62 : unitT Try.prog 62 = some 11 := by kernel_rfl
@[simp] theorem ze62 : zeroT Try.prog 62 = some [.d (.s (.int .u64 0)), .d (.s (.int .u64 0)), .d (.s (.int .u32 0)), .d (.s (.int .u8 0)), .d (.s (.int .u8 0)), .d (.s (.int .u8 0)), .d (.s (.int .u8 0)), .d (.s .nilFunc), .d (.s (.pointer none)), .d (.s (.int .i32 0)), .d (.s (.int .i32 0))] := by kernel_rfl
@[simp] theorem fi62_0 : fieldT Try.prog 62 0 = some (0, 1, false) := by kernel_rfl
@[simp] theorem fi62_1 : fieldT Try.prog 62 1 = some (1, 1, false) := by kernel_rfl
@[simp] theorem fi62_2 : fieldT Try.prog 62 2 = some (2, 1, false) := by kernel_rfl
@[simp] theorem fi62_3 : fieldT Try.prog 62 3 = some (3, 1, false) := by kernel_rfl
@[simp] theorem fi62_4 : fieldT Try.prog 62 4 = some (4, 1, false) := by kernel_rfl
@[simp] theorem fi62_5 : fieldT Try.prog 62 5 = some (5, 1, false) := by kernel_rfl
@[simp] theorem fi62_6 : fieldT Try.prog 62 6 = some (6, 1, false) := by kernel_rfl
@[simp] theorem fi62_7 : fieldT Try.prog 62 7 = some (7, 1, false) := by kernel_rfl
@[simp] theorem fi62_8 : fieldT Try.prog 62 8 = some (8, 1, false) := by kernel_rfl
@[simp] theorem fi62_9 : fieldT Try.prog 62 9 = some (9, 1, false) := by kernel_rfl
@[simp] theorem fi62_10 : fieldT Try.prog 62 10 = some (10, 1, false) := by kernel_rfl
@[simp] theorem pl62 : placesT Try.prog 62 = some [(0, 1), (1, 1), (2, 1), (3, 1), (4, 1), (5, 1), (6, 1), (7, 1), (8, 1), (9, 1), (10, 1)] := by kernel_rfl
@[simp] theorem sz63 : szOf Try.prog 63 = some 1 := by kernel_rfl
@[simp] theorem ag63 : aggT Try.prog 63 = some false := by kernel_rfl
@[simp] theorem un63 : unitT Try.prog 63 = some 1 := by kernel_rfl
@[simp] theorem ze63 : zeroT Try.prog 63 = some [.d (.s (.pointer none))] := by kernel_rfl
@[simp] theorem ca2 : callable Try.prog 2 = true := by kernel_rfl
@[simp] theorem ca3 : callable Try.prog 3 = true := by kernel_rfl
@[simp] theorem ca4 : callable Try.prog 4 = true := by kernel_rfl
@[simp] theorem ca5 : callable Try.prog 5 = true := by kernel_rfl
@[simp] theorem ca6 : callable Try.prog 6 = true := by kernel_rfl
@[simp] theorem ca7 : callable Try.prog 7 = true := by kernel_rfl
@[simp] theorem ca8 : callable Try.prog 8 = true := by kernel_rfl
@[simp] theorem ca9 : callable Try.prog 9 = true := by kernel_rfl
@[simp] theorem ca10 : callable Try.prog 10 = true := by kernel_rfl
@[simp] theorem ca11 : callable Try.prog 11 = true := by kernel_rfl
@[simp] theorem ca12 : callable Try.prog 12 = true := by kernel_rfl
@[simp] theorem ca13 : callable Try.prog 13 = true := by kernel_rfl
theorem mixed : Try.prog.follows .mixedOrders = true := by kernel_rfl
end Go.Proofs.Ytckcdpocmmlniab
