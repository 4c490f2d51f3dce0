/- Closed facts on the types and functions of the translation. -/
import Derived.Test.YtceafhcjiichfaaDoorProg
import Derived.KernelRfl
import Derived.Test.YtceafhcjiichfaaDoorAbs27
namespace Go.Proofs.YtceafhcjiichfaaDoor
open Go Go.Abs Go.Proofs
@[simp] theorem sz0 : szOf Tryd.prog 0 = some 1 := by kernel_rfl
@[simp] theorem ag0 : aggT Tryd.prog 0 = some false := by kernel_rfl
@[simp] theorem un0 : unitT Tryd.prog 0 = some 1 := by kernel_rfl
@[simp] theorem sz1 : szOf Tryd.prog 1 = some 1 := by kernel_rfl
@[simp] theorem ag1 : aggT Tryd.prog 1 = some false := by kernel_rfl
@[simp] theorem un1 : unitT Tryd.prog 1 = some 1 := by kernel_rfl
@[simp] theorem ze1 : zeroT Tryd.prog 1 = some [.d (.s .nilFunc)] := by kernel_rfl
@[simp] theorem sz2 : szOf Tryd.prog 2 = some 1 := by kernel_rfl
@[simp] theorem ag2 : aggT Tryd.prog 2 = some false := by kernel_rfl
@[simp] theorem un2 : unitT Tryd.prog 2 = some 1 := by kernel_rfl
theorem kd2 : kindT Tryd.prog 12 2 = some [.int .i64] := by kernel_rfl
@[simp] theorem ze2 : zeroT Tryd.prog 2 = some [.d (.s (.int .i64 0))] := by kernel_rfl
@[simp] theorem sz3 : szOf Tryd.prog 3 = some 1 := by kernel_rfl
@[simp] theorem ag3 : aggT Tryd.prog 3 = some false := by kernel_rfl
@[simp] theorem un3 : unitT Tryd.prog 3 = some 1 := by kernel_rfl
theorem kd3 : kindT Tryd.prog 12 3 = some [.int .i64] := by kernel_rfl
@[simp] theorem ze3 : zeroT Tryd.prog 3 = some [.d (.s (.int .i64 0))] := by kernel_rfl
@[simp] theorem sz4 : szOf Tryd.prog 4 = some 1 := by kernel_rfl
@[simp] theorem ag4 : aggT Tryd.prog 4 = some false := by kernel_rfl
@[simp] theorem un4 : unitT Tryd.prog 4 = some 1 := by kernel_rfl
theorem kd4 : kindT Tryd.prog 12 4 = some [.bool] := by kernel_rfl
@[simp] theorem ze4 : zeroT Tryd.prog 4 = some [.d (.s (.bool false))] := by kernel_rfl
@[simp] theorem sz5 : szOf Tryd.prog 5 = some 1 := by kernel_rfl
@[simp] theorem ag5 : aggT Tryd.prog 5 = some false := by kernel_rfl
@[simp] theorem un5 : unitT Tryd.prog 5 = some 1 := by kernel_rfl
theorem kd5 : kindT Tryd.prog 12 5 = some [.int .u8] := by kernel_rfl
@[simp] theorem ze5 : zeroT Tryd.prog 5 = some [.d (.s (.int .u8 0))] := by kernel_rfl
@[simp] theorem sz6 : szOf Tryd.prog 6 = some 1 := by kernel_rfl
@[simp] theorem ag6 : aggT Tryd.prog 6 = some false := by kernel_rfl
@[simp] theorem un6 : unitT Tryd.prog 6 = some 1 := by kernel_rfl
theorem kd6 : kindT Tryd.prog 12 6 = some [.int .u8] := by kernel_rfl
@[simp] theorem ze6 : zeroT Tryd.prog 6 = some [.d (.s (.int .u8 0))] := by kernel_rfl
@[simp] theorem sz7 : szOf Tryd.prog 7 = some 4 := by kernel_rfl
@[simp] theorem ag7 : aggT Tryd.prog 7 = some true := by kernel_rfl
@[simp] theorem un7 : unitT Tryd.prog 7 = some 4 := by kernel_rfl
theorem kd7 : kindT Tryd.prog 12 7 = some [.int .i64, .int .i64, .bool, .int .u8] := by kernel_rfl
theorem eqk7 : eqT Tryd.prog 8 7 = some (true, [.int .i64, .int .i64, .bool, .int .u8]) := by kernel_rfl
theorem eqg7 : (Tryd.prog).eqGuardType (Tryd.prog).depth 7 = false := by kernel_rfl
@[simp] theorem neqA7 (a0 b0 : Int) (a1 b1 : Int) (a2 b2 : Bool) (a3 b3 : Int) (K : Value → Prop) : aggBin Tryd.prog .neq 7 [.d (.s (.int .i64 a0)), .d (.s (.int .i64 a1)), .d (.s (.bool a2)), .d (.s (.int .u8 a3))] [.d (.s (.int .i64 b0)), .d (.s (.int .i64 b1)), .d (.s (.bool b2)), .d (.s (.int .u8 b3))] K = K (.bool (!(eqVs [.int .i64 a0, .int .i64 a1, .bool a2, .int .u8 a3] [.int .i64 b0, .int .i64 b1, .bool b2, .int .u8 b3]))) := agg_neq (xs := [.int .i64 a0, .int .i64 a1, .bool a2, .int .u8 a3]) (ys := [.int .i64 b0, .int .i64 b1, .bool b2, .int .u8 b3]) eqk7 (by decide) eqg7 rfl rfl K
@[simp] theorem eqlA7 (a0 b0 : Int) (a1 b1 : Int) (a2 b2 : Bool) (a3 b3 : Int) (K : Value → Prop) : aggBin Tryd.prog .eql 7 [.d (.s (.int .i64 a0)), .d (.s (.int .i64 a1)), .d (.s (.bool a2)), .d (.s (.int .u8 a3))] [.d (.s (.int .i64 b0)), .d (.s (.int .i64 b1)), .d (.s (.bool b2)), .d (.s (.int .u8 b3))] K = K (.bool ((eqVs [.int .i64 a0, .int .i64 a1, .bool a2, .int .u8 a3] [.int .i64 b0, .int .i64 b1, .bool b2, .int .u8 b3]))) := agg_eql (xs := [.int .i64 a0, .int .i64 a1, .bool a2, .int .u8 a3]) (ys := [.int .i64 b0, .int .i64 b1, .bool b2, .int .u8 b3]) eqk7 (by decide) eqg7 rfl rfl K
@[simp] theorem ze7 : zeroT Tryd.prog 7 = some [.d (.s (.int .i64 0)), .d (.s (.int .i64 0)), .d (.s (.bool false)), .d (.s (.int .u8 0))] := by kernel_rfl
@[simp] theorem fi7_0 : fieldT Tryd.prog 7 0 = some (0, 1, false) := by kernel_rfl
@[simp] theorem fi7_1 : fieldT Tryd.prog 7 1 = some (1, 1, false) := by kernel_rfl
@[simp] theorem fi7_2 : fieldT Tryd.prog 7 2 = some (2, 1, false) := by kernel_rfl
@[simp] theorem fi7_3 : fieldT Tryd.prog 7 3 = some (3, 1, false) := by kernel_rfl
@[simp] theorem pl7 : placesT Tryd.prog 7 = some [(0, 1), (1, 1), (2, 1), (3, 1)] := by kernel_rfl
@[simp] theorem sz8 : szOf Tryd.prog 8 = some 4 := by kernel_rfl
@[simp] theorem ag8 : aggT Tryd.prog 8 = some true := by kernel_rfl
@[simp] theorem un8 : unitT Tryd.prog 8 = some 4 := by kernel_rfl
theorem kd8 : kindT Tryd.prog 12 8 = some [.int .i64, .int .i64, .bool, .int .u8] := by kernel_rfl
theorem eqk8 : eqT Tryd.prog 8 8 = some (true, [.int .i64, .int .i64, .bool, .int .u8]) := by kernel_rfl
theorem eqg8 : (Tryd.prog).eqGuardType (Tryd.prog).depth 8 = false := by kernel_rfl
@[simp] theorem neqA8 (a0 b0 : Int) (a1 b1 : Int) (a2 b2 : Bool) (a3 b3 : Int) (K : Value → Prop) : aggBin Tryd.prog .neq 8 [.d (.s (.int .i64 a0)), .d (.s (.int .i64 a1)), .d (.s (.bool a2)), .d (.s (.int .u8 a3))] [.d (.s (.int .i64 b0)), .d (.s (.int .i64 b1)), .d (.s (.bool b2)), .d (.s (.int .u8 b3))] K = K (.bool (!(eqVs [.int .i64 a0, .int .i64 a1, .bool a2, .int .u8 a3] [.int .i64 b0, .int .i64 b1, .bool b2, .int .u8 b3]))) := agg_neq (xs := [.int .i64 a0, .int .i64 a1, .bool a2, .int .u8 a3]) (ys := [.int .i64 b0, .int .i64 b1, .bool b2, .int .u8 b3]) eqk8 (by decide) eqg8 rfl rfl K
@[simp] theorem eqlA8 (a0 b0 : Int) (a1 b1 : Int) (a2 b2 : Bool) (a3 b3 : Int) (K : Value → Prop) : aggBin Tryd.prog .eql 8 [.d (.s (.int .i64 a0)), .d (.s (.int .i64 a1)), .d (.s (.bool a2)), .d (.s (.int .u8 a3))] [.d (.s (.int .i64 b0)), .d (.s (.int .i64 b1)), .d (.s (.bool b2)), .d (.s (.int .u8 b3))] K = K (.bool ((eqVs [.int .i64 a0, .int .i64 a1, .bool a2, .int .u8 a3] [.int .i64 b0, .int .i64 b1, .bool b2, .int .u8 b3]))) := agg_eql (xs := [.int .i64 a0, .int .i64 a1, .bool a2, .int .u8 a3]) (ys := [.int .i64 b0, .int .i64 b1, .bool b2, .int .u8 b3]) eqk8 (by decide) eqg8 rfl rfl K
@[simp] theorem ze8 : zeroT Tryd.prog 8 = some [.d (.s (.int .i64 0)), .d (.s (.int .i64 0)), .d (.s (.bool false)), .d (.s (.int .u8 0))] := by kernel_rfl
@[simp] theorem fi8_0 : fieldT Tryd.prog 8 0 = some (0, 1, false) := by kernel_rfl
@[simp] theorem fi8_1 : fieldT Tryd.prog 8 1 = some (1, 1, false) := by kernel_rfl
@[simp] theorem fi8_2 : fieldT Tryd.prog 8 2 = some (2, 1, false) := by kernel_rfl
@[simp] theorem fi8_3 : fieldT Tryd.prog 8 3 = some (3, 1, false) := by kernel_rfl
@[simp] theorem pl8 : placesT Tryd.prog 8 = some [(0, 1), (1, 1), (2, 1), (3, 1)] := by kernel_rfl
@[simp] theorem sz9 : szOf Tryd.prog 9 = some 1 := by kernel_rfl
@[simp] theorem ag9 : aggT Tryd.prog 9 = some false := by kernel_rfl
@[simp] theorem un9 : unitT Tryd.prog 9 = some 1 := by kernel_rfl
theorem kd9 : kindT Tryd.prog 12 9 = some [.str] := by kernel_rfl
@[simp] theorem ze9 : zeroT Tryd.prog 9 = some [.d (.s (.string ByteArray.empty))] := by kernel_rfl
@[simp] theorem sz10 : szOf Tryd.prog 10 = some 1 := by kernel_rfl
@[simp] theorem ag10 : aggT Tryd.prog 10 = some false := by kernel_rfl
@[simp] theorem un10 : unitT Tryd.prog 10 = some 1 := by kernel_rfl
theorem kd10 : kindT Tryd.prog 12 10 = some [.str] := by kernel_rfl
@[simp] theorem ze10 : zeroT Tryd.prog 10 = some [.d (.s (.string ByteArray.empty))] := by kernel_rfl
@[simp] theorem sz11 : szOf Tryd.prog 11 = some 1 := by kernel_rfl
@[simp] theorem ag11 : aggT Tryd.prog 11 = some false := by kernel_rfl
@[simp] theorem un11 : unitT Tryd.prog 11 = some 1 := by kernel_rfl
theorem kd11 : kindT Tryd.prog 12 11 = some [.str] := by kernel_rfl
@[simp] theorem ze11 : zeroT Tryd.prog 11 = some [.d (.s (.string ByteArray.empty))] := by kernel_rfl
@[simp] theorem sz12 : szOf Tryd.prog 12 = some 1 := by kernel_rfl
@[simp] theorem ag12 : aggT Tryd.prog 12 = some false := by kernel_rfl
@[simp] theorem un12 : unitT Tryd.prog 12 = some 1 := by kernel_rfl
theorem kd12 : kindT Tryd.prog 12 12 = some [.int .u64] := by kernel_rfl
@[simp] theorem ze12 : zeroT Tryd.prog 12 = some [.d (.s (.int .u64 0))] := by kernel_rfl
@[simp] theorem sz13 : szOf Tryd.prog 13 = some 2 := by kernel_rfl
@[simp] theorem ag13 : aggT Tryd.prog 13 = some true := by kernel_rfl
@[simp] theorem un13 : unitT Tryd.prog 13 = some 2 := by kernel_rfl
theorem kd13 : kindT Tryd.prog 12 13 = some [.str, .int .u64] := by kernel_rfl
@[simp] theorem ze13 : zeroT Tryd.prog 13 = some [.d (.s (.string ByteArray.empty)), .d (.s (.int .u64 0))] := by kernel_rfl
@[simp] theorem fi13_0 : fieldT Tryd.prog 13 0 = some (0, 1, false) := by kernel_rfl
@[simp] theorem fi13_1 : fieldT Tryd.prog 13 1 = some (1, 1, false) := by kernel_rfl
@[simp] theorem pl13 : placesT Tryd.prog 13 = some [(0, 1), (1, 1)] := by kernel_rfl
@[simp] theorem sz14 : szOf Tryd.prog 14 = some 2 := by kernel_rfl
@[simp] theorem ag14 : aggT Tryd.prog 14 = some true := by kernel_rfl
@[simp] theorem un14 : unitT Tryd.prog 14 = some 2 := by kernel_rfl
theorem kd14 : kindT Tryd.prog 12 14 = some [.str, .int .u64] := by kernel_rfl
@[simp] theorem ze14 : zeroT Tryd.prog 14 = some [.d (.s (.string ByteArray.empty)), .d (.s (.int .u64 0))] := by kernel_rfl
@[simp] theorem fi14_0 : fieldT Tryd.prog 14 0 = some (0, 1, false) := by kernel_rfl
@[simp] theorem fi14_1 : fieldT Tryd.prog 14 1 = some (1, 1, false) := by kernel_rfl
@[simp] theorem pl14 : placesT Tryd.prog 14 = some [(0, 1), (1, 1)] := by kernel_rfl
@[simp] theorem sz15 : szOf Tryd.prog 15 = some 1 := by kernel_rfl
@[simp] theorem ag15 : aggT Tryd.prog 15 = some false := by kernel_rfl
@[simp] theorem un15 : unitT Tryd.prog 15 = some 1 := by kernel_rfl
@[simp] theorem ze15 : zeroT Tryd.prog 15 = some [.d (.s (.pointer none))] := by kernel_rfl
@[simp] theorem sz16 : szOf Tryd.prog 16 = some 1 := by kernel_rfl
@[simp] theorem ag16 : aggT Tryd.prog 16 = some false := by kernel_rfl
@[simp] theorem un16 : unitT Tryd.prog 16 = some 1 := by kernel_rfl
@[simp] theorem ze16 : zeroT Tryd.prog 16 = some [.d (.s (.pointer none))] := by kernel_rfl
@[simp] theorem sz17 : szOf Tryd.prog 17 = some 1 := by kernel_rfl
@[simp] theorem ag17 : aggT Tryd.prog 17 = some false := by kernel_rfl
@[simp] theorem un17 : unitT Tryd.prog 17 = some 1 := by kernel_rfl
@[simp] theorem ze17 : zeroT Tryd.prog 17 = some [.d (.s (.pointer none))] := by kernel_rfl
@[simp] theorem sz18 : szOf Tryd.prog 18 = some 1 := by kernel_rfl
@[simp] theorem ag18 : aggT Tryd.prog 18 = some true := by kernel_rfl
@[simp] theorem un18 : unitT Tryd.prog 18 = some 1 := by kernel_rfl
@[simp] theorem ze18 : zeroT Tryd.prog 18 = some [.d (.s (.pointer none))] := by kernel_rfl
@[simp] theorem fi18_0 : fieldT Tryd.prog 18 0 = some (0, 1, false) := by kernel_rfl
@[simp] theorem pl18 : placesT Tryd.prog 18 = some [(0, 1)] := by kernel_rfl
@[simp] theorem sz19 : szOf Tryd.prog 19 = some 1 := by kernel_rfl
@[simp] theorem ag19 : aggT Tryd.prog 19 = some true := by kernel_rfl
@[simp] theorem un19 : unitT Tryd.prog 19 = some 1 := by kernel_rfl
@[simp] theorem ze19 : zeroT Tryd.prog 19 = some [.d (.s (.pointer none))] := by kernel_rfl
@[simp] theorem fi19_0 : fieldT Tryd.prog 19 0 = some (0, 1, false) := by kernel_rfl
@[simp] theorem pl19 : placesT Tryd.prog 19 = some [(0, 1)] := by kernel_rfl
@[simp] theorem sz20 : szOf Tryd.prog 20 = some 1 := by kernel_rfl
@[simp] theorem ag20 : aggT Tryd.prog 20 = some false := by kernel_rfl
@[simp] theorem un20 : unitT Tryd.prog 20 = some 1 := by kernel_rfl
@[simp] theorem ze20 : zeroT Tryd.prog 20 = some [.d (.s .nilIface)] := by kernel_rfl
@[simp] theorem sz21 : szOf Tryd.prog 21 = some 1 := by kernel_rfl
@[simp] theorem ag21 : aggT Tryd.prog 21 = some false := by kernel_rfl
@[simp] theorem un21 : unitT Tryd.prog 21 = some 1 := by kernel_rfl
theorem kd21 : kindT Tryd.prog 12 21 = some [.int .i32] := by kernel_rfl
@[simp] theorem ze21 : zeroT Tryd.prog 21 = some [.d (.s (.int .i32 0))] := by kernel_rfl
@[simp] theorem sz22 : szOf Tryd.prog 22 = some 1 := by kernel_rfl
@[simp] theorem ag22 : aggT Tryd.prog 22 = some false := by kernel_rfl
@[simp] theorem un22 : unitT Tryd.prog 22 = some 1 := by kernel_rfl
theorem kd22 : kindT Tryd.prog 12 22 = some [.slice [.int .u8]] := by kernel_rfl
@[simp] theorem sl22 : sliceT Tryd.prog 22 = some (5, 1, 1) := by kernel_rfl
@[simp] theorem ze22 : zeroT Tryd.prog 22 = some [.d .nil] := by kernel_rfl
@[simp] theorem sz23 : szOf Tryd.prog 23 = some 1 := by kernel_rfl
@[simp] theorem ag23 : aggT Tryd.prog 23 = some false := by kernel_rfl
@[simp] theorem un23 : unitT Tryd.prog 23 = some 1 := by kernel_rfl
@[simp] theorem ze23 : zeroT Tryd.prog 23 = some [.d (.s .nilFunc)] := by kernel_rfl
@[simp] theorem sz24 : szOf Tryd.prog 24 = some 7 := by kernel_rfl
@[simp] theorem ag24 : aggT Tryd.prog 24 = some true := by kernel_rfl
@[simp] theorem un24 : unitT Tryd.prog 24 = some 7 := by kernel_rfl
theorem kd24 : kindT Tryd.prog 12 24 = some [.int .i64, .int .i64, .int .i64, .int .i64, .int .i64, .int .i64, .int .i64] := by kernel_rfl
theorem eqk24 : eqT Tryd.prog 8 24 = some (true, [.int .i64, .int .i64, .int .i64, .int .i64, .int .i64, .int .i64, .int .i64]) := by kernel_rfl
theorem eqg24 : (Tryd.prog).eqGuardType (Tryd.prog).depth 24 = false := by kernel_rfl
@[simp] theorem neqA24 (a0 b0 : Int) (a1 b1 : Int) (a2 b2 : Int) (a3 b3 : Int) (a4 b4 : Int) (a5 b5 : Int) (a6 b6 : Int) (K : Value → Prop) : aggBin Tryd.prog .neq 24 [.d (.s (.int .i64 a0)), .d (.s (.int .i64 a1)), .d (.s (.int .i64 a2)), .d (.s (.int .i64 a3)), .d (.s (.int .i64 a4)), .d (.s (.int .i64 a5)), .d (.s (.int .i64 a6))] [.d (.s (.int .i64 b0)), .d (.s (.int .i64 b1)), .d (.s (.int .i64 b2)), .d (.s (.int .i64 b3)), .d (.s (.int .i64 b4)), .d (.s (.int .i64 b5)), .d (.s (.int .i64 b6))] K = K (.bool (!(eqVs [.int .i64 a0, .int .i64 a1, .int .i64 a2, .int .i64 a3, .int .i64 a4, .int .i64 a5, .int .i64 a6] [.int .i64 b0, .int .i64 b1, .int .i64 b2, .int .i64 b3, .int .i64 b4, .int .i64 b5, .int .i64 b6]))) := agg_neq (xs := [.int .i64 a0, .int .i64 a1, .int .i64 a2, .int .i64 a3, .int .i64 a4, .int .i64 a5, .int .i64 a6]) (ys := [.int .i64 b0, .int .i64 b1, .int .i64 b2, .int .i64 b3, .int .i64 b4, .int .i64 b5, .int .i64 b6]) eqk24 (by decide) eqg24 rfl rfl K
@[simp] theorem eqlA24 (a0 b0 : Int) (a1 b1 : Int) (a2 b2 : Int) (a3 b3 : Int) (a4 b4 : Int) (a5 b5 : Int) (a6 b6 : Int) (K : Value → Prop) : aggBin Tryd.prog .eql 24 [.d (.s (.int .i64 a0)), .d (.s (.int .i64 a1)), .d (.s (.int .i64 a2)), .d (.s (.int .i64 a3)), .d (.s (.int .i64 a4)), .d (.s (.int .i64 a5)), .d (.s (.int .i64 a6))] [.d (.s (.int .i64 b0)), .d (.s (.int .i64 b1)), .d (.s (.int .i64 b2)), .d (.s (.int .i64 b3)), .d (.s (.int .i64 b4)), .d (.s (.int .i64 b5)), .d (.s (.int .i64 b6))] K = K (.bool ((eqVs [.int .i64 a0, .int .i64 a1, .int .i64 a2, .int .i64 a3, .int .i64 a4, .int .i64 a5, .int .i64 a6] [.int .i64 b0, .int .i64 b1, .int .i64 b2, .int .i64 b3, .int .i64 b4, .int .i64 b5, .int .i64 b6]))) := agg_eql (xs := [.int .i64 a0, .int .i64 a1, .int .i64 a2, .int .i64 a3, .int .i64 a4, .int .i64 a5, .int .i64 a6]) (ys := [.int .i64 b0, .int .i64 b1, .int .i64 b2, .int .i64 b3, .int .i64 b4, .int .i64 b5, .int .i64 b6]) eqk24 (by decide) eqg24 rfl rfl K
@[simp] theorem ze24 : zeroT Tryd.prog 24 = some [.d (.s (.int .i64 0)), .d (.s (.int .i64 0)), .d (.s (.int .i64 0)), .d (.s (.int .i64 0)), .d (.s (.int .i64 0)), .d (.s (.int .i64 0)), .d (.s (.int .i64 0))] := by kernel_rfl
@[simp] theorem fi24_0 : fieldT Tryd.prog 24 0 = some (0, 1, false) := by kernel_rfl
@[simp] theorem fi24_1 : fieldT Tryd.prog 24 1 = some (1, 1, false) := by kernel_rfl
@[simp] theorem fi24_2 : fieldT Tryd.prog 24 2 = some (2, 1, false) := by kernel_rfl
@[simp] theorem fi24_3 : fieldT Tryd.prog 24 3 = some (3, 1, false) := by kernel_rfl
@[simp] theorem fi24_4 : fieldT Tryd.prog 24 4 = some (4, 1, false) := by kernel_rfl
@[simp] theorem fi24_5 : fieldT Tryd.prog 24 5 = some (5, 1, false) := by kernel_rfl
@[simp] theorem fi24_6 : fieldT Tryd.prog 24 6 = some (6, 1, false) := by kernel_rfl
@[simp] theorem pl24 : placesT Tryd.prog 24 = some [(0, 1), (1, 1), (2, 1), (3, 1), (4, 1), (5, 1), (6, 1)] := by kernel_rfl
@[simp] theorem sz25 : szOf Tryd.prog 25 = some 7 := by kernel_rfl
@[simp] theorem ag25 : aggT Tryd.prog 25 = some true := by kernel_rfl
@[simp] theorem un25 : unitT Tryd.prog 25 = some 7 := by kernel_rfl
theorem kd25 : kindT Tryd.prog 12 25 = some [.int .i64, .int .i64, .int .i64, .int .i64, .int .i64, .int .i64, .int .i64] := by kernel_rfl
theorem eqk25 : eqT Tryd.prog 8 25 = some (true, [.int .i64, .int .i64, .int .i64, .int .i64, .int .i64, .int .i64, .int .i64]) := by kernel_rfl
theorem eqg25 : (Tryd.prog).eqGuardType (Tryd.prog).depth 25 = false := by kernel_rfl
@[simp] theorem neqA25 (a0 b0 : Int) (a1 b1 : Int) (a2 b2 : Int) (a3 b3 : Int) (a4 b4 : Int) (a5 b5 : Int) (a6 b6 : Int) (K : Value → Prop) : aggBin Tryd.prog .neq 25 [.d (.s (.int .i64 a0)), .d (.s (.int .i64 a1)), .d (.s (.int .i64 a2)), .d (.s (.int .i64 a3)), .d (.s (.int .i64 a4)), .d (.s (.int .i64 a5)), .d (.s (.int .i64 a6))] [.d (.s (.int .i64 b0)), .d (.s (.int .i64 b1)), .d (.s (.int .i64 b2)), .d (.s (.int .i64 b3)), .d (.s (.int .i64 b4)), .d (.s (.int .i64 b5)), .d (.s (.int .i64 b6))] K = K (.bool (!(eqVs [.int .i64 a0, .int .i64 a1, .int .i64 a2, .int .i64 a3, .int .i64 a4, .int .i64 a5, .int .i64 a6] [.int .i64 b0, .int .i64 b1, .int .i64 b2, .int .i64 b3, .int .i64 b4, .int .i64 b5, .int .i64 b6]))) := agg_neq (xs := [.int .i64 a0, .int .i64 a1, .int .i64 a2, .int .i64 a3, .int .i64 a4, .int .i64 a5, .int .i64 a6]) (ys := [.int .i64 b0, .int .i64 b1, .int .i64 b2, .int .i64 b3, .int .i64 b4, .int .i64 b5, .int .i64 b6]) eqk25 (by decide) eqg25 rfl rfl K
@[simp] theorem eqlA25 (a0 b0 : Int) (a1 b1 : Int) (a2 b2 : Int) (a3 b3 : Int) (a4 b4 : Int) (a5 b5 : Int) (a6 b6 : Int) (K : Value → Prop) : aggBin Tryd.prog .eql 25 [.d (.s (.int .i64 a0)), .d (.s (.int .i64 a1)), .d (.s (.int .i64 a2)), .d (.s (.int .i64 a3)), .d (.s (.int .i64 a4)), .d (.s (.int .i64 a5)), .d (.s (.int .i64 a6))] [.d (.s (.int .i64 b0)), .d (.s (.int .i64 b1)), .d (.s (.int .i64 b2)), .d (.s (.int .i64 b3)), .d (.s (.int .i64 b4)), .d (.s (.int .i64 b5)), .d (.s (.int .i64 b6))] K = K (.bool ((eqVs [.int .i64 a0, .int .i64 a1, .int .i64 a2, .int .i64 a3, .int .i64 a4, .int .i64 a5, .int .i64 a6] [.int .i64 b0, .int .i64 b1, .int .i64 b2, .int .i64 b3, .int .i64 b4, .int .i64 b5, .int .i64 b6]))) := agg_eql (xs := [.int .i64 a0, .int .i64 a1, .int .i64 a2, .int .i64 a3, .int .i64 a4, .int .i64 a5, .int .i64 a6]) (ys := [.int .i64 b0, .int .i64 b1, .int .i64 b2, .int .i64 b3, .int .i64 b4, .int .i64 b5, .int .i64 b6]) eqk25 (by decide) eqg25 rfl rfl K
@[simp] theorem ze25 : zeroT Tryd.prog 25 = some [.d (.s (.int .i64 0)), .d (.s (.int .i64 0)), .d (.s (.int .i64 0)), .d (.s (.int .i64 0)), .d (.s (.int .i64 0)), .d (.s (.int .i64 0)), .d (.s (.int .i64 0))] := by kernel_rfl
@[simp] theorem fi25_0 : fieldT Tryd.prog 25 0 = some (0, 1, false) := by kernel_rfl
@[simp] theorem fi25_1 : fieldT Tryd.prog 25 1 = some (1, 1, false) := by kernel_rfl
@[simp] theorem fi25_2 : fieldT Tryd.prog 25 2 = some (2, 1, false) := by kernel_rfl
@[simp] theorem fi25_3 : fieldT Tryd.prog 25 3 = some (3, 1, false) := by kernel_rfl
@[simp] theorem fi25_4 : fieldT Tryd.prog 25 4 = some (4, 1, false) := by kernel_rfl
@[simp] theorem fi25_5 : fieldT Tryd.prog 25 5 = some (5, 1, false) := by kernel_rfl
@[simp] theorem fi25_6 : fieldT Tryd.prog 25 6 = some (6, 1, false) := by kernel_rfl
@[simp] theorem pl25 : placesT Tryd.prog 25 = some [(0, 1), (1, 1), (2, 1), (3, 1), (4, 1), (5, 1), (6, 1)] := by kernel_rfl
@[simp] theorem sz26 : szOf Tryd.prog 26 = some 10 := by kernel_rfl
@[simp] theorem ag26 : aggT Tryd.prog 26 = some true := by kernel_rfl
@[simp] theorem un26 : unitT Tryd.prog 26 = some 10 := by kernel_rfl
theorem kd26 : kindT Tryd.prog 12 26 = some [.int .i64, .int .i64, .int .i64, .int .i64, .int .i64, .int .i64, .int .i64, .int .i64, .int .i64, .int .i64] := by kernel_rfl
theorem eqk26 : eqT Tryd.prog 8 26 = some (true, [.int .i64, .int .i64, .int .i64, .int .i64, .int .i64, .int .i64, .int .i64, .int .i64, .int .i64, .int .i64]) := by kernel_rfl
theorem eqg26 : (Tryd.prog).eqGuardType (Tryd.prog).depth 26 = false := by kernel_rfl
@[simp] theorem neqA26 (a0 b0 : Int) (a1 b1 : Int) (a2 b2 : Int) (a3 b3 : Int) (a4 b4 : Int) (a5 b5 : Int) (a6 b6 : Int) (a7 b7 : Int) (a8 b8 : Int) (a9 b9 : Int) (K : Value → Prop) : aggBin Tryd.prog .neq 26 [.d (.s (.int .i64 a0)), .d (.s (.int .i64 a1)), .d (.s (.int .i64 a2)), .d (.s (.int .i64 a3)), .d (.s (.int .i64 a4)), .d (.s (.int .i64 a5)), .d (.s (.int .i64 a6)), .d (.s (.int .i64 a7)), .d (.s (.int .i64 a8)), .d (.s (.int .i64 a9))] [.d (.s (.int .i64 b0)), .d (.s (.int .i64 b1)), .d (.s (.int .i64 b2)), .d (.s (.int .i64 b3)), .d (.s (.int .i64 b4)), .d (.s (.int .i64 b5)), .d (.s (.int .i64 b6)), .d (.s (.int .i64 b7)), .d (.s (.int .i64 b8)), .d (.s (.int .i64 b9))] K = K (.bool (!(eqVs [.int .i64 a0, .int .i64 a1, .int .i64 a2, .int .i64 a3, .int .i64 a4, .int .i64 a5, .int .i64 a6, .int .i64 a7, .int .i64 a8, .int .i64 a9] [.int .i64 b0, .int .i64 b1, .int .i64 b2, .int .i64 b3, .int .i64 b4, .int .i64 b5, .int .i64 b6, .int .i64 b7, .int .i64 b8, .int .i64 b9]))) := agg_neq (xs := [.int .i64 a0, .int .i64 a1, .int .i64 a2, .int .i64 a3, .int .i64 a4, .int .i64 a5, .int .i64 a6, .int .i64 a7, .int .i64 a8, .int .i64 a9]) (ys := [.int .i64 b0, .int .i64 b1, .int .i64 b2, .int .i64 b3, .int .i64 b4, .int .i64 b5, .int .i64 b6, .int .i64 b7, .int .i64 b8, .int .i64 b9]) eqk26 (by decide) eqg26 rfl rfl K
@[simp] theorem eqlA26 (a0 b0 : Int) (a1 b1 : Int) (a2 b2 : Int) (a3 b3 : Int) (a4 b4 : Int) (a5 b5 : Int) (a6 b6 : Int) (a7 b7 : Int) (a8 b8 : Int) (a9 b9 : Int) (K : Value → Prop) : aggBin Tryd.prog .eql 26 [.d (.s (.int .i64 a0)), .d (.s (.int .i64 a1)), .d (.s (.int .i64 a2)), .d (.s (.int .i64 a3)), .d (.s (.int .i64 a4)), .d (.s (.int .i64 a5)), .d (.s (.int .i64 a6)), .d (.s (.int .i64 a7)), .d (.s (.int .i64 a8)), .d (.s (.int .i64 a9))] [.d (.s (.int .i64 b0)), .d (.s (.int .i64 b1)), .d (.s (.int .i64 b2)), .d (.s (.int .i64 b3)), .d (.s (.int .i64 b4)), .d (.s (.int .i64 b5)), .d (.s (.int .i64 b6)), .d (.s (.int .i64 b7)), .d (.s (.int .i64 b8)), .d (.s (.int .i64 b9))] K = K (.bool ((eqVs [.int .i64 a0, .int .i64 a1, .int .i64 a2, .int .i64 a3, .int .i64 a4, .int .i64 a5, .int .i64 a6, .int .i64 a7, .int .i64 a8, .int .i64 a9] [.int .i64 b0, .int .i64 b1, .int .i64 b2, .int .i64 b3, .int .i64 b4, .int .i64 b5, .int .i64 b6, .int .i64 b7, .int .i64 b8, .int .i64 b9]))) := agg_eql (xs := [.int .i64 a0, .int .i64 a1, .int .i64 a2, .int .i64 a3, .int .i64 a4, .int .i64 a5, .int .i64 a6, .int .i64 a7, .int .i64 a8, .int .i64 a9]) (ys := [.int .i64 b0, .int .i64 b1, .int .i64 b2, .int .i64 b3, .int .i64 b4, .int .i64 b5, .int .i64 b6, .int .i64 b7, .int .i64 b8, .int .i64 b9]) eqk26 (by decide) eqg26 rfl rfl K
@[simp] theorem ze26 : zeroT Tryd.prog 26 = some [.d (.s (.int .i64 0)), .d (.s (.int .i64 0)), .d (.s (.int .i64 0)), .d (.s (.int .i64 0)), .d (.s (.int .i64 0)), .d (.s (.int .i64 0)), .d (.s (.int .i64 0)), .d (.s (.int .i64 0)), .d (.s (.int .i64 0)), .d (.s (.int .i64 0))] := by kernel_rfl
@[simp] theorem fi26_0 : fieldT Tryd.prog 26 0 = some (0, 1, false) := by kernel_rfl
@[simp] theorem fi26_1 : fieldT Tryd.prog 26 1 = some (1, 7, true) := by kernel_rfl
@[simp] theorem fi26_2 : fieldT Tryd.prog 26 2 = some (8, 1, false) := by kernel_rfl
@[simp] theorem fi26_3 : fieldT Tryd.prog 26 3 = some (9, 1, false) := by kernel_rfl
@[simp] theorem pl26 : placesT Tryd.prog 26 = some [(0, 1), (1, 7), (8, 1), (9, 1)] := by kernel_rfl
@[simp] theorem sz27 : szOf Tryd.prog 27 = some 10 := by kernel_rfl
@[simp] theorem ag27 : aggT Tryd.prog 27 = some true := by kernel_rfl
@[simp] theorem un27 : unitT Tryd.prog 27 = some 10 := by kernel_rfl
theorem kd27 : kindT Tryd.prog 12 27 = some [.int .i64, .int .i64, .int .i64, .int .i64, .int .i64, .int .i64, .int .i64, .int .i64, .int .i64, .int .i64] := by kernel_rfl
theorem eqk27 : eqT Tryd.prog 8 27 = some (true, [.int .i64, .int .i64, .int .i64, .int .i64, .int .i64, .int .i64, .int .i64, .int .i64, .int .i64, .int .i64]) := by kernel_rfl
theorem eqg27 : (Tryd.prog).eqGuardType (Tryd.prog).depth 27 = false := by kernel_rfl
@[simp] theorem neqA27 (a0 b0 : Int) (a1 b1 : Int) (a2 b2 : Int) (a3 b3 : Int) (a4 b4 : Int) (a5 b5 : Int) (a6 b6 : Int) (a7 b7 : Int) (a8 b8 : Int) (a9 b9 : Int) (K : Value → Prop) : aggBin Tryd.prog .neq 27 [.d (.s (.int .i64 a0)), .d (.s (.int .i64 a1)), .d (.s (.int .i64 a2)), .d (.s (.int .i64 a3)), .d (.s (.int .i64 a4)), .d (.s (.int .i64 a5)), .d (.s (.int .i64 a6)), .d (.s (.int .i64 a7)), .d (.s (.int .i64 a8)), .d (.s (.int .i64 a9))] [.d (.s (.int .i64 b0)), .d (.s (.int .i64 b1)), .d (.s (.int .i64 b2)), .d (.s (.int .i64 b3)), .d (.s (.int .i64 b4)), .d (.s (.int .i64 b5)), .d (.s (.int .i64 b6)), .d (.s (.int .i64 b7)), .d (.s (.int .i64 b8)), .d (.s (.int .i64 b9))] K = K (.bool (!(eqVs [.int .i64 a0, .int .i64 a1, .int .i64 a2, .int .i64 a3, .int .i64 a4, .int .i64 a5, .int .i64 a6, .int .i64 a7, .int .i64 a8, .int .i64 a9] [.int .i64 b0, .int .i64 b1, .int .i64 b2, .int .i64 b3, .int .i64 b4, .int .i64 b5, .int .i64 b6, .int .i64 b7, .int .i64 b8, .int .i64 b9]))) := agg_neq (xs := [.int .i64 a0, .int .i64 a1, .int .i64 a2, .int .i64 a3, .int .i64 a4, .int .i64 a5, .int .i64 a6, .int .i64 a7, .int .i64 a8, .int .i64 a9]) (ys := [.int .i64 b0, .int .i64 b1, .int .i64 b2, .int .i64 b3, .int .i64 b4, .int .i64 b5, .int .i64 b6, .int .i64 b7, .int .i64 b8, .int .i64 b9]) eqk27 (by decide) eqg27 rfl rfl K
@[simp] theorem eqlA27 (a0 b0 : Int) (a1 b1 : Int) (a2 b2 : Int) (a3 b3 : Int) (a4 b4 : Int) (a5 b5 : Int) (a6 b6 : Int) (a7 b7 : Int) (a8 b8 : Int) (a9 b9 : Int) (K : Value → Prop) : aggBin Tryd.prog .eql 27 [.d (.s (.int .i64 a0)), .d (.s (.int .i64 a1)), .d (.s (.int .i64 a2)), .d (.s (.int .i64 a3)), .d (.s (.int .i64 a4)), .d (.s (.int .i64 a5)), .d (.s (.int .i64 a6)), .d (.s (.int .i64 a7)), .d (.s (.int .i64 a8)), .d (.s (.int .i64 a9))] [.d (.s (.int .i64 b0)), .d (.s (.int .i64 b1)), .d (.s (.int .i64 b2)), .d (.s (.int .i64 b3)), .d (.s (.int .i64 b4)), .d (.s (.int .i64 b5)), .d (.s (.int .i64 b6)), .d (.s (.int .i64 b7)), .d (.s (.int .i64 b8)), .d (.s (.int .i64 b9))] K = K (.bool ((eqVs [.int .i64 a0, .int .i64 a1, .int .i64 a2, .int .i64 a3, .int .i64 a4, .int .i64 a5, .int .i64 a6, .int .i64 a7, .int .i64 a8, .int .i64 a9] [.int .i64 b0, .int .i64 b1, .int .i64 b2, .int .i64 b3, .int .i64 b4, .int .i64 b5, .int .i64 b6, .int .i64 b7, .int .i64 b8, .int .i64 b9]))) := agg_eql (xs := [.int .i64 a0, .int .i64 a1, .int .i64 a2, .int .i64 a3, .int .i64 a4, .int .i64 a5, .int .i64 a6, .int .i64 a7, .int .i64 a8, .int .i64 a9]) (ys := [.int .i64 b0, .int .i64 b1, .int .i64 b2, .int .i64 b3, .int .i64 b4, .int .i64 b5, .int .i64 b6, .int .i64 b7, .int .i64 b8, .int .i64 b9]) eqk27 (by decide) eqg27 rfl rfl K
@[simp] theorem ze27 : zeroT Tryd.prog 27 = some [.d (.s (.int .i64 0)), .d (.s (.int .i64 0)), .d (.s (.int .i64 0)), .d (.s (.int .i64 0)), .d (.s (.int .i64 0)), .d (.s (.int .i64 0)), .d (.s (.int .i64 0)), .d (.s (.int .i64 0)), .d (.s (.int .i64 0)), .d (.s (.int .i64 0))] := by kernel_rfl
@[simp] theorem fi27_0 : fieldT Tryd.prog 27 0 = some (0, 1, false) := by kernel_rfl
@[simp] theorem fi27_1 : fieldT Tryd.prog 27 1 = some (1, 7, true) := by kernel_rfl
@[simp] theorem fi27_2 : fieldT Tryd.prog 27 2 = some (8, 1, false) := by kernel_rfl
@[simp] theorem fi27_3 : fieldT Tryd.prog 27 3 = some (9, 1, false) := by kernel_rfl
@[simp] theorem pl27 : placesT Tryd.prog 27 = some [(0, 1), (1, 7), (8, 1), (9, 1)] := by kernel_rfl
@[simp] theorem sz28 : szOf Tryd.prog 28 = some 1 := by kernel_rfl
@[simp] theorem ag28 : aggT Tryd.prog 28 = some false := by kernel_rfl
@[simp] theorem un28 : unitT Tryd.prog 28 = some 1 := by kernel_rfl
@[simp] theorem ze28 : zeroT Tryd.prog 28 = some [.d (.s .nilFunc)] := by kernel_rfl
@[simp] theorem sz29 : szOf Tryd.prog 29 = some 2 := by kernel_rfl
@[simp] theorem ag29 : aggT Tryd.prog 29 = some true := by kernel_rfl
@[simp] theorem un29 : unitT Tryd.prog 29 = some 2 := by kernel_rfl
theorem kd29 : kindT Tryd.prog 12 29 = some [.int .i64, .slice [.int .u8]] := by kernel_rfl
@[simp] theorem ze29 : zeroT Tryd.prog 29 = some [.d (.s (.int .i64 0)), .d .nil] := by kernel_rfl
@[simp] theorem fi29_0 : fieldT Tryd.prog 29 0 = some (0, 1, false) := by kernel_rfl
@[simp] theorem fi29_1 : fieldT Tryd.prog 29 1 = some (1, 1, false) := by kernel_rfl
@[simp] theorem pl29 : placesT Tryd.prog 29 = some [(0, 1), (1, 1)] := by kernel_rfl
@[simp] theorem sz30 : szOf Tryd.prog 30 = some 2 := by kernel_rfl
@[simp] theorem ag30 : aggT Tryd.prog 30 = some true := by kernel_rfl
@[simp] theorem un30 : unitT Tryd.prog 30 = some 2 := by kernel_rfl
theorem kd30 : kindT Tryd.prog 12 30 = some [.int .i64, .slice [.int .u8]] := by kernel_rfl
@[simp] theorem ze30 : zeroT Tryd.prog 30 = some [.d (.s (.int .i64 0)), .d .nil] := by kernel_rfl
@[simp] theorem fi30_0 : fieldT Tryd.prog 30 0 = some (0, 1, false) := by kernel_rfl
@[simp] theorem fi30_1 : fieldT Tryd.prog 30 1 = some (1, 1, false) := by kernel_rfl
@[simp] theorem pl30 : placesT Tryd.prog 30 = some [(0, 1), (1, 1)] := by kernel_rfl
@[simp] theorem sz31 : szOf Tryd.prog 31 = some 1 := by kernel_rfl
@[simp] theorem ag31 : aggT Tryd.prog 31 = some false := by kernel_rfl
@[simp] theorem un31 : unitT Tryd.prog 31 = some 1 := by kernel_rfl
@[simp] theorem ze31 : zeroT Tryd.prog 31 = some [.d (.s .nilFunc)] := by kernel_rfl
@[simp] theorem sz32 : szOf Tryd.prog 32 = some 1 := by kernel_rfl
@[simp] theorem ag32 : aggT Tryd.prog 32 = some false := by kernel_rfl
@[simp] theorem un32 : unitT Tryd.prog 32 = some 1 := by kernel_rfl
@[simp] theorem ze32 : zeroT Tryd.prog 32 = some [.d (.s .nilFunc)] := by kernel_rfl
@[simp] theorem sz33 : szOf Tryd.prog 33 = some 11 := by kernel_rfl
@[simp] theorem ag33 : aggT Tryd.prog 33 = some true := by kernel_rfl
@[simp] theorem un33 : unitT Tryd.prog 33 = some 11 := by kernel_rfl
theorem kd33 : kindT Tryd.prog 12 33 = some [.int .i64, .int .i64, .int .i64, .int .i64, .int .i64, .int .i64, .int .i64, .int .i64, .int .i64, .int .i64, .int .i64] := by kernel_rfl
theorem eqk33 : eqT Tryd.prog 8 33 = some (true, [.int .i64, .int .i64, .int .i64, .int .i64, .int .i64, .int .i64, .int .i64, .int .i64, .int .i64, .int .i64, .int .i64]) := by kernel_rfl
theorem eqg33 : (Tryd.prog).eqGuardType (Tryd.prog).depth 33 = false := by kernel_rfl
@[simp] theorem neqA33 (a0 b0 : Int) (a1 b1 : Int) (a2 b2 : Int) (a3 b3 : Int) (a4 b4 : Int) (a5 b5 : Int) (a6 b6 : Int) (a7 b7 : Int) (a8 b8 : Int) (a9 b9 : Int) (a10 b10 : Int) (K : Value → Prop) : aggBin Tryd.prog .neq 33 [.d (.s (.int .i64 a0)), .d (.s (.int .i64 a1)), .d (.s (.int .i64 a2)), .d (.s (.int .i64 a3)), .d (.s (.int .i64 a4)), .d (.s (.int .i64 a5)), .d (.s (.int .i64 a6)), .d (.s (.int .i64 a7)), .d (.s (.int .i64 a8)), .d (.s (.int .i64 a9)), .d (.s (.int .i64 a10))] [.d (.s (.int .i64 b0)), .d (.s (.int .i64 b1)), .d (.s (.int .i64 b2)), .d (.s (.int .i64 b3)), .d (.s (.int .i64 b4)), .d (.s (.int .i64 b5)), .d (.s (.int .i64 b6)), .d (.s (.int .i64 b7)), .d (.s (.int .i64 b8)), .d (.s (.int .i64 b9)), .d (.s (.int .i64 b10))] K = K (.bool (!(eqVs [.int .i64 a0, .int .i64 a1, .int .i64 a2, .int .i64 a3, .int .i64 a4, .int .i64 a5, .int .i64 a6, .int .i64 a7, .int .i64 a8, .int .i64 a9, .int .i64 a10] [.int .i64 b0, .int .i64 b1, .int .i64 b2, .int .i64 b3, .int .i64 b4, .int .i64 b5, .int .i64 b6, .int .i64 b7, .int .i64 b8, .int .i64 b9, .int .i64 b10]))) := agg_neq (xs := [.int .i64 a0, .int .i64 a1, .int .i64 a2, .int .i64 a3, .int .i64 a4, .int .i64 a5, .int .i64 a6, .int .i64 a7, .int .i64 a8, .int .i64 a9, .int .i64 a10]) (ys := [.int .i64 b0, .int .i64 b1, .int .i64 b2, .int .i64 b3, .int .i64 b4, .int .i64 b5, .int .i64 b6, .int .i64 b7, .int .i64 b8, .int .i64 b9, .int .i64 b10]) eqk33 (by decide) eqg33 rfl rfl K
@[simp] theorem eqlA33 (a0 b0 : Int) (a1 b1 : Int) (a2 b2 : Int) (a3 b3 : Int) (a4 b4 : Int) (a5 b5 : Int) (a6 b6 : Int) (a7 b7 : Int) (a8 b8 : Int) (a9 b9 : Int) (a10 b10 : Int) (K : Value → Prop) : aggBin Tryd.prog .eql 33 [.d (.s (.int .i64 a0)), .d (.s (.int .i64 a1)), .d (.s (.int .i64 a2)), .d (.s (.int .i64 a3)), .d (.s (.int .i64 a4)), .d (.s (.int .i64 a5)), .d (.s (.int .i64 a6)), .d (.s (.int .i64 a7)), .d (.s (.int .i64 a8)), .d (.s (.int .i64 a9)), .d (.s (.int .i64 a10))] [.d (.s (.int .i64 b0)), .d (.s (.int .i64 b1)), .d (.s (.int .i64 b2)), .d (.s (.int .i64 b3)), .d (.s (.int .i64 b4)), .d (.s (.int .i64 b5)), .d (.s (.int .i64 b6)), .d (.s (.int .i64 b7)), .d (.s (.int .i64 b8)), .d (.s (.int .i64 b9)), .d (.s (.int .i64 b10))] K = K (.bool ((eqVs [.int .i64 a0, .int .i64 a1, .int .i64 a2, .int .i64 a3, .int .i64 a4, .int .i64 a5, .int .i64 a6, .int .i64 a7, .int .i64 a8, .int .i64 a9, .int .i64 a10] [.int .i64 b0, .int .i64 b1, .int .i64 b2, .int .i64 b3, .int .i64 b4, .int .i64 b5, .int .i64 b6, .int .i64 b7, .int .i64 b8, .int .i64 b9, .int .i64 b10]))) := agg_eql (xs := [.int .i64 a0, .int .i64 a1, .int .i64 a2, .int .i64 a3, .int .i64 a4, .int .i64 a5, .int .i64 a6, .int .i64 a7, .int .i64 a8, .int .i64 a9, .int .i64 a10]) (ys := [.int .i64 b0, .int .i64 b1, .int .i64 b2, .int .i64 b3, .int .i64 b4, .int .i64 b5, .int .i64 b6, .int .i64 b7, .int .i64 b8, .int .i64 b9, .int .i64 b10]) eqk33 (by decide) eqg33 rfl rfl K
@[simp] theorem ze33 : zeroT Tryd.prog 33 = some [.d (.s (.int .i64 0)), .d (.s (.int .i64 0)), .d (.s (.int .i64 0)), .d (.s (.int .i64 0)), .d (.s (.int .i64 0)), .d (.s (.int .i64 0)), .d (.s (.int .i64 0)), .d (.s (.int .i64 0)), .d (.s (.int .i64 0)), .d (.s (.int .i64 0)), .d (.s (.int .i64 0))] := by kernel_rfl
@[simp] theorem fi33_0 : fieldT Tryd.prog 33 0 = some (0, 1, false) := by kernel_rfl
@[simp] theorem fi33_1 : fieldT Tryd.prog 33 1 = some (1, 10, true) := by kernel_rfl
@[simp] theorem pl33 : placesT Tryd.prog 33 = some [(0, 1), (1, 10)] := by kernel_rfl
@[simp] theorem sz34 : szOf Tryd.prog 34 = some 11 := by kernel_rfl
@[simp] theorem ag34 : aggT Tryd.prog 34 = some true := by kernel_rfl
@[simp] theorem un34 : unitT Tryd.prog 34 = some 11 := by kernel_rfl
theorem kd34 : kindT Tryd.prog 12 34 = some [.int .i64, .int .i64, .int .i64, .int .i64, .int .i64, .int .i64, .int .i64, .int .i64, .int .i64, .int .i64, .int .i64] := by kernel_rfl
theorem eqk34 : eqT Tryd.prog 8 34 = some (true, [.int .i64, .int .i64, .int .i64, .int .i64, .int .i64, .int .i64, .int .i64, .int .i64, .int .i64, .int .i64, .int .i64]) := by kernel_rfl
theorem eqg34 : (Tryd.prog).eqGuardType (Tryd.prog).depth 34 = false := by kernel_rfl
@[simp] theorem neqA34 (a0 b0 : Int) (a1 b1 : Int) (a2 b2 : Int) (a3 b3 : Int) (a4 b4 : Int) (a5 b5 : Int) (a6 b6 : Int) (a7 b7 : Int) (a8 b8 : Int) (a9 b9 : Int) (a10 b10 : Int) (K : Value → Prop) : aggBin Tryd.prog .neq 34 [.d (.s (.int .i64 a0)), .d (.s (.int .i64 a1)), .d (.s (.int .i64 a2)), .d (.s (.int .i64 a3)), .d (.s (.int .i64 a4)), .d (.s (.int .i64 a5)), .d (.s (.int .i64 a6)), .d (.s (.int .i64 a7)), .d (.s (.int .i64 a8)), .d (.s (.int .i64 a9)), .d (.s (.int .i64 a10))] [.d (.s (.int .i64 b0)), .d (.s (.int .i64 b1)), .d (.s (.int .i64 b2)), .d (.s (.int .i64 b3)), .d (.s (.int .i64 b4)), .d (.s (.int .i64 b5)), .d (.s (.int .i64 b6)), .d (.s (.int .i64 b7)), .d (.s (.int .i64 b8)), .d (.s (.int .i64 b9)), .d (.s (.int .i64 b10))] K = K (.bool (!(eqVs [.int .i64 a0, .int .i64 a1, .int .i64 a2, .int .i64 a3, .int .i64 a4, .int .i64 a5, .int .i64 a6, .int .i64 a7, .int .i64 a8, .int .i64 a9, .int .i64 a10] [.int .i64 b0, .int .i64 b1, .int .i64 b2, .int .i64 b3, .int .i64 b4, .int .i64 b5, .int .i64 b6, .int .i64 b7, .int .i64 b8, .int .i64 b9, .int .i64 b10]))) := agg_neq (xs := [.int .i64 a0, .int .i64 a1, .int .i64 a2, .int .i64 a3, .int .i64 a4, .int .i64 a5, .int .i64 a6, .int .i64 a7, .int .i64 a8, .int .i64 a9, .int .i64 a10]) (ys := [.int .i64 b0, .int .i64 b1, .int .i64 b2, .int .i64 b3, .int .i64 b4, .int .i64 b5, .int .i64 b6, .int .i64 b7, .int .i64 b8, .int .i64 b9, .int .i64 b10]) eqk34 (by decide) eqg34 rfl rfl K
@[simp] theorem eqlA34 (a0 b0 : Int) (a1 b1 : Int) (a2 b2 : Int) (a3 b3 : Int) (a4 b4 : Int) (a5 b5 : Int) (a6 b6 : Int) (a7 b7 : Int) (a8 b8 : Int) (a9 b9 : Int) (a10 b10 : Int) (K : Value → Prop) : aggBin Tryd.prog .eql 34 [.d (.s (.int .i64 a0)), .d (.s (.int .i64 a1)), .d (.s (.int .i64 a2)), .d (.s (.int .i64 a3)), .d (.s (.int .i64 a4)), .d (.s (.int .i64 a5)), .d (.s (.int .i64 a6)), .d (.s (.int .i64 a7)), .d (.s (.int .i64 a8)), .d (.s (.int .i64 a9)), .d (.s (.int .i64 a10))] [.d (.s (.int .i64 b0)), .d (.s (.int .i64 b1)), .d (.s (.int .i64 b2)), .d (.s (.int .i64 b3)), .d (.s (.int .i64 b4)), .d (.s (.int .i64 b5)), .d (.s (.int .i64 b6)), .d (.s (.int .i64 b7)), .d (.s (.int .i64 b8)), .d (.s (.int .i64 b9)), .d (.s (.int .i64 b10))] K = K (.bool ((eqVs [.int .i64 a0, .int .i64 a1, .int .i64 a2, .int .i64 a3, .int .i64 a4, .int .i64 a5, .int .i64 a6, .int .i64 a7, .int .i64 a8, .int .i64 a9, .int .i64 a10] [.int .i64 b0, .int .i64 b1, .int .i64 b2, .int .i64 b3, .int .i64 b4, .int .i64 b5, .int .i64 b6, .int .i64 b7, .int .i64 b8, .int .i64 b9, .int .i64 b10]))) := agg_eql (xs := [.int .i64 a0, .int .i64 a1, .int .i64 a2, .int .i64 a3, .int .i64 a4, .int .i64 a5, .int .i64 a6, .int .i64 a7, .int .i64 a8, .int .i64 a9, .int .i64 a10]) (ys := [.int .i64 b0, .int .i64 b1, .int .i64 b2, .int .i64 b3, .int .i64 b4, .int .i64 b5, .int .i64 b6, .int .i64 b7, .int .i64 b8, .int .i64 b9, .int .i64 b10]) eqk34 (by decide) eqg34 rfl rfl K
@[simp] theorem ze34 : zeroT Tryd.prog 34 = some [.d (.s (.int .i64 0)), .d (.s (.int .i64 0)), .d (.s (.int .i64 0)), .d (.s (.int .i64 0)), .d (.s (.int .i64 0)), .d (.s (.int .i64 0)), .d (.s (.int .i64 0)), .d (.s (.int .i64 0)), .d (.s (.int .i64 0)), .d (.s (.int .i64 0)), .d (.s (.int .i64 0))] := by kernel_rfl
@[simp] theorem fi34_0 : fieldT Tryd.prog 34 0 = some (0, 1, false) := by kernel_rfl
@[simp] theorem fi34_1 : fieldT Tryd.prog 34 1 = some (1, 10, true) := by kernel_rfl
@[simp] theorem pl34 : placesT Tryd.prog 34 = some [(0, 1), (1, 10)] := by kernel_rfl
@[simp] theorem sz35 : szOf Tryd.prog 35 = some 1 := by kernel_rfl
@[simp] theorem ag35 : aggT Tryd.prog 35 = some false := by kernel_rfl
@[simp] theorem un35 : unitT Tryd.prog 35 = some 1 := by kernel_rfl
@[simp] theorem ze35 : zeroT Tryd.prog 35 = some [.d (.s .nilFunc)] := by kernel_rfl
@[simp] theorem sz36 : szOf Tryd.prog 36 = some 1 := by kernel_rfl
@[simp] theorem ag36 : aggT Tryd.prog 36 = some false := by kernel_rfl
@[simp] theorem un36 : unitT Tryd.prog 36 = some 1 := by kernel_rfl
@[simp] theorem ze36 : zeroT Tryd.prog 36 = some [.d (.s .nilFunc)] := by kernel_rfl
@[simp] theorem sz37 : szOf Tryd.prog 37 = some 1 := by kernel_rfl
@[simp] theorem ag37 : aggT Tryd.prog 37 = some false := by kernel_rfl
@[simp] theorem un37 : unitT Tryd.prog 37 = some 1 := by kernel_rfl
@[simp] theorem sz38 : szOf Tryd.prog 38 = some 1 := by kernel_rfl
@[simp] theorem ag38 : aggT Tryd.prog 38 = some false := by kernel_rfl
@[simp] theorem un38 : unitT Tryd.prog 38 = some 1 := by kernel_rfl
@[simp] theorem ze38 : zeroT Tryd.prog 38 = some [.d (.s .nilFunc)] := by kernel_rfl
@[simp] theorem sz39 : szOf Tryd.prog 39 = some 2 := by kernel_rfl
@[simp] theorem ag39 : aggT Tryd.prog 39 = some true := by kernel_rfl
@[simp] theorem un39 : unitT Tryd.prog 39 = some 2 := by kernel_rfl
theorem kd39 : kindT Tryd.prog 12 39 = some [.int .i64, .int .i64] := by kernel_rfl
theorem eqk39 : eqT Tryd.prog 8 39 = some (true, [.int .i64, .int .i64]) := by kernel_rfl
theorem eqg39 : (Tryd.prog).eqGuardType (Tryd.prog).depth 39 = false := by kernel_rfl
@[simp] theorem neqA39 (a0 b0 : Int) (a1 b1 : Int) (K : Value → Prop) : aggBin Tryd.prog .neq 39 [.d (.s (.int .i64 a0)), .d (.s (.int .i64 a1))] [.d (.s (.int .i64 b0)), .d (.s (.int .i64 b1))] K = K (.bool (!(eqVs [.int .i64 a0, .int .i64 a1] [.int .i64 b0, .int .i64 b1]))) := agg_neq (xs := [.int .i64 a0, .int .i64 a1]) (ys := [.int .i64 b0, .int .i64 b1]) eqk39 (by decide) eqg39 rfl rfl K
@[simp] theorem eqlA39 (a0 b0 : Int) (a1 b1 : Int) (K : Value → Prop) : aggBin Tryd.prog .eql 39 [.d (.s (.int .i64 a0)), .d (.s (.int .i64 a1))] [.d (.s (.int .i64 b0)), .d (.s (.int .i64 b1))] K = K (.bool ((eqVs [.int .i64 a0, .int .i64 a1] [.int .i64 b0, .int .i64 b1]))) := agg_eql (xs := [.int .i64 a0, .int .i64 a1]) (ys := [.int .i64 b0, .int .i64 b1]) eqk39 (by decide) eqg39 rfl rfl K
@[simp] theorem ze39 : zeroT Tryd.prog 39 = some [.d (.s (.int .i64 0)), .d (.s (.int .i64 0))] := by kernel_rfl
@[simp] theorem fi39_0 : fieldT Tryd.prog 39 0 = some (0, 1, false) := by kernel_rfl
@[simp] theorem fi39_1 : fieldT Tryd.prog 39 1 = some (1, 1, false) := by kernel_rfl
@[simp] theorem pl39 : placesT Tryd.prog 39 = some [(0, 1), (1, 1)] := by kernel_rfl
@[simp] theorem sz40 : szOf Tryd.prog 40 = some 2 := by kernel_rfl
@[simp] theorem ag40 : aggT Tryd.prog 40 = some true := by kernel_rfl
@[simp] theorem un40 : unitT Tryd.prog 40 = some 2 := by kernel_rfl
theorem kd40 : kindT Tryd.prog 12 40 = some [.int .i64, .int .i64] := by kernel_rfl
theorem eqk40 : eqT Tryd.prog 8 40 = some (true, [.int .i64, .int .i64]) := by kernel_rfl
theorem eqg40 : (Tryd.prog).eqGuardType (Tryd.prog).depth 40 = false := by kernel_rfl
@[simp] theorem neqA40 (a0 b0 : Int) (a1 b1 : Int) (K : Value → Prop) : aggBin Tryd.prog .neq 40 [.d (.s (.int .i64 a0)), .d (.s (.int .i64 a1))] [.d (.s (.int .i64 b0)), .d (.s (.int .i64 b1))] K = K (.bool (!(eqVs [.int .i64 a0, .int .i64 a1] [.int .i64 b0, .int .i64 b1]))) := agg_neq (xs := [.int .i64 a0, .int .i64 a1]) (ys := [.int .i64 b0, .int .i64 b1]) eqk40 (by decide) eqg40 rfl rfl K
@[simp] theorem eqlA40 (a0 b0 : Int) (a1 b1 : Int) (K : Value → Prop) : aggBin Tryd.prog .eql 40 [.d (.s (.int .i64 a0)), .d (.s (.int .i64 a1))] [.d (.s (.int .i64 b0)), .d (.s (.int .i64 b1))] K = K (.bool ((eqVs [.int .i64 a0, .int .i64 a1] [.int .i64 b0, .int .i64 b1]))) := agg_eql (xs := [.int .i64 a0, .int .i64 a1]) (ys := [.int .i64 b0, .int .i64 b1]) eqk40 (by decide) eqg40 rfl rfl K
@[simp] theorem ze40 : zeroT Tryd.prog 40 = some [.d (.s (.int .i64 0)), .d (.s (.int .i64 0))] := by kernel_rfl
@[simp] theorem fi40_0 : fieldT Tryd.prog 40 0 = some (0, 1, false) := by kernel_rfl
@[simp] theorem fi40_1 : fieldT Tryd.prog 40 1 = some (1, 1, false) := by kernel_rfl
@[simp] theorem pl40 : placesT Tryd.prog 40 = some [(0, 1), (1, 1)] := by kernel_rfl
@[simp] theorem sz41 : szOf Tryd.prog 41 = some 1 := by kernel_rfl
@[simp] theorem ag41 : aggT Tryd.prog 41 = some false := by kernel_rfl
@[simp] theorem un41 : unitT Tryd.prog 41 = some 1 := by kernel_rfl
@[simp] theorem ze41 : zeroT Tryd.prog 41 = some [.d (.s .nilFunc)] := by kernel_rfl
@[simp] theorem sz42 : szOf Tryd.prog 42 = some 1 := by kernel_rfl
@[simp] theorem ag42 : aggT Tryd.prog 42 = some false := by kernel_rfl
@[simp] theorem un42 : unitT Tryd.prog 42 = some 1 := by kernel_rfl
@[simp] theorem ze42 : zeroT Tryd.prog 42 = some [.d (.s .nilFunc)] := by kernel_rfl
@[simp] theorem sz43 : szOf Tryd.prog 43 = some 1 := by kernel_rfl
@[simp] theorem ag43 : aggT Tryd.prog 43 = some false := by kernel_rfl
@[simp] theorem un43 : unitT Tryd.prog 43 = some 1 := by kernel_rfl
@[simp] theorem ze43 : zeroT Tryd.prog 43 = some [.d (.s .nilFunc)] := by kernel_rfl
@[simp] theorem sz44 : szOf Tryd.prog 44 = some 1 := by kernel_rfl
@[simp] theorem ag44 : aggT Tryd.prog 44 = some false := by kernel_rfl
@[simp] theorem un44 : unitT Tryd.prog 44 = some 1 := by kernel_rfl
@[simp] theorem ze44 : zeroT Tryd.prog 44 = some [.d (.s .nilFunc)] := by kernel_rfl
@[simp] theorem sz45 : szOf Tryd.prog 45 = some 1 := by kernel_rfl
@[simp] theorem ag45 : aggT Tryd.prog 45 = some false := by kernel_rfl
@[simp] theorem un45 : unitT Tryd.prog 45 = some 1 := by kernel_rfl
@[simp] theorem ze45 : zeroT Tryd.prog 45 = some [.d (.s .nilFunc)] := by kernel_rfl
@[simp] theorem sz46 : szOf Tryd.prog 46 = some 7 := by kernel_rfl
@[simp] theorem ag46 : aggT Tryd.prog 46 = some true := by kernel_rfl
@[simp] theorem un46 : unitT Tryd.prog 46 = some 7 := by kernel_rfl
theorem kd46 : kindT Tryd.prog 12 46 = some [.int .i64, .int .i64, .int .i64, .int .i64, .int .i64, .int .i64, .int .i64] := by kernel_rfl
theorem eqk46 : eqT Tryd.prog 8 46 = some (true, [.int .i64, .int .i64, .int .i64, .int .i64, .int .i64, .int .i64, .int .i64]) := by kernel_rfl
theorem eqg46 : (Tryd.prog).eqGuardType (Tryd.prog).depth 46 = false := by kernel_rfl
@[simp] theorem neqA46 (a0 b0 : Int) (a1 b1 : Int) (a2 b2 : Int) (a3 b3 : Int) (a4 b4 : Int) (a5 b5 : Int) (a6 b6 : Int) (K : Value → Prop) : aggBin Tryd.prog .neq 46 [.d (.s (.int .i64 a0)), .d (.s (.int .i64 a1)), .d (.s (.int .i64 a2)), .d (.s (.int .i64 a3)), .d (.s (.int .i64 a4)), .d (.s (.int .i64 a5)), .d (.s (.int .i64 a6))] [.d (.s (.int .i64 b0)), .d (.s (.int .i64 b1)), .d (.s (.int .i64 b2)), .d (.s (.int .i64 b3)), .d (.s (.int .i64 b4)), .d (.s (.int .i64 b5)), .d (.s (.int .i64 b6))] K = K (.bool (!(eqVs [.int .i64 a0, .int .i64 a1, .int .i64 a2, .int .i64 a3, .int .i64 a4, .int .i64 a5, .int .i64 a6] [.int .i64 b0, .int .i64 b1, .int .i64 b2, .int .i64 b3, .int .i64 b4, .int .i64 b5, .int .i64 b6]))) := agg_neq (xs := [.int .i64 a0, .int .i64 a1, .int .i64 a2, .int .i64 a3, .int .i64 a4, .int .i64 a5, .int .i64 a6]) (ys := [.int .i64 b0, .int .i64 b1, .int .i64 b2, .int .i64 b3, .int .i64 b4, .int .i64 b5, .int .i64 b6]) eqk46 (by decide) eqg46 rfl rfl K
@[simp] theorem eqlA46 (a0 b0 : Int) (a1 b1 : Int) (a2 b2 : Int) (a3 b3 : Int) (a4 b4 : Int) (a5 b5 : Int) (a6 b6 : Int) (K : Value → Prop) : aggBin Tryd.prog .eql 46 [.d (.s (.int .i64 a0)), .d (.s (.int .i64 a1)), .d (.s (.int .i64 a2)), .d (.s (.int .i64 a3)), .d (.s (.int .i64 a4)), .d (.s (.int .i64 a5)), .d (.s (.int .i64 a6))] [.d (.s (.int .i64 b0)), .d (.s (.int .i64 b1)), .d (.s (.int .i64 b2)), .d (.s (.int .i64 b3)), .d (.s (.int .i64 b4)), .d (.s (.int .i64 b5)), .d (.s (.int .i64 b6))] K = K (.bool ((eqVs [.int .i64 a0, .int .i64 a1, .int .i64 a2, .int .i64 a3, .int .i64 a4, .int .i64 a5, .int .i64 a6] [.int .i64 b0, .int .i64 b1, .int .i64 b2, .int .i64 b3, .int .i64 b4, .int .i64 b5, .int .i64 b6]))) := agg_eql (xs := [.int .i64 a0, .int .i64 a1, .int .i64 a2, .int .i64 a3, .int .i64 a4, .int .i64 a5, .int .i64 a6]) (ys := [.int .i64 b0, .int .i64 b1, .int .i64 b2, .int .i64 b3, .int .i64 b4, .int .i64 b5, .int .i64 b6]) eqk46 (by decide) eqg46 rfl rfl K
@[simp] theorem ze46 : zeroT Tryd.prog 46 = some [.d (.s (.int .i64 0)), .d (.s (.int .i64 0)), .d (.s (.int .i64 0)), .d (.s (.int .i64 0)), .d (.s (.int .i64 0)), .d (.s (.int .i64 0)), .d (.s (.int .i64 0))] := by kernel_rfl
@[simp] theorem fi46_0 : fieldT Tryd.prog 46 0 = some (0, 1, false) := by kernel_rfl
@[simp] theorem fi46_1 : fieldT Tryd.prog 46 1 = some (1, 1, false) := by kernel_rfl
@[simp] theorem fi46_2 : fieldT Tryd.prog 46 2 = some (2, 1, false) := by kernel_rfl
@[simp] theorem fi46_3 : fieldT Tryd.prog 46 3 = some (3, 1, false) := by kernel_rfl
@[simp] theorem fi46_4 : fieldT Tryd.prog 46 4 = some (4, 1, false) := by kernel_rfl
@[simp] theorem fi46_5 : fieldT Tryd.prog 46 5 = some (5, 1, false) := by kernel_rfl
@[simp] theorem fi46_6 : fieldT Tryd.prog 46 6 = some (6, 1, false) := by kernel_rfl
@[simp] theorem pl46 : placesT Tryd.prog 46 = some [(0, 1), (1, 1), (2, 1), (3, 1), (4, 1), (5, 1), (6, 1)] := by kernel_rfl
@[simp] theorem sz47 : szOf Tryd.prog 47 = some 10 := by kernel_rfl
@[simp] theorem ag47 : aggT Tryd.prog 47 = some true := by kernel_rfl
@[simp] theorem un47 : unitT Tryd.prog 47 = some 10 := by kernel_rfl
theorem kd47 : kindT Tryd.prog 12 47 = some [.int .i64, .int .i64, .int .i64, .int .i64, .int .i64, .int .i64, .int .i64, .int .i64, .int .i64, .int .i64] := by kernel_rfl
theorem eqk47 : eqT Tryd.prog 8 47 = some (true, [.int .i64, .int .i64, .int .i64, .int .i64, .int .i64, .int .i64, .int .i64, .int .i64, .int .i64, .int .i64]) := by kernel_rfl
theorem eqg47 : (Tryd.prog).eqGuardType (Tryd.prog).depth 47 = false := by kernel_rfl
@[simp] theorem neqA47 (a0 b0 : Int) (a1 b1 : Int) (a2 b2 : Int) (a3 b3 : Int) (a4 b4 : Int) (a5 b5 : Int) (a6 b6 : Int) (a7 b7 : Int) (a8 b8 : Int) (a9 b9 : Int) (K : Value → Prop) : aggBin Tryd.prog .neq 47 [.d (.s (.int .i64 a0)), .d (.s (.int .i64 a1)), .d (.s (.int .i64 a2)), .d (.s (.int .i64 a3)), .d (.s (.int .i64 a4)), .d (.s (.int .i64 a5)), .d (.s (.int .i64 a6)), .d (.s (.int .i64 a7)), .d (.s (.int .i64 a8)), .d (.s (.int .i64 a9))] [.d (.s (.int .i64 b0)), .d (.s (.int .i64 b1)), .d (.s (.int .i64 b2)), .d (.s (.int .i64 b3)), .d (.s (.int .i64 b4)), .d (.s (.int .i64 b5)), .d (.s (.int .i64 b6)), .d (.s (.int .i64 b7)), .d (.s (.int .i64 b8)), .d (.s (.int .i64 b9))] K = K (.bool (!(eqVs [.int .i64 a0, .int .i64 a1, .int .i64 a2, .int .i64 a3, .int .i64 a4, .int .i64 a5, .int .i64 a6, .int .i64 a7, .int .i64 a8, .int .i64 a9] [.int .i64 b0, .int .i64 b1, .int .i64 b2, .int .i64 b3, .int .i64 b4, .int .i64 b5, .int .i64 b6, .int .i64 b7, .int .i64 b8, .int .i64 b9]))) := agg_neq (xs := [.int .i64 a0, .int .i64 a1, .int .i64 a2, .int .i64 a3, .int .i64 a4, .int .i64 a5, .int .i64 a6, .int .i64 a7, .int .i64 a8, .int .i64 a9]) (ys := [.int .i64 b0, .int .i64 b1, .int .i64 b2, .int .i64 b3, .int .i64 b4, .int .i64 b5, .int .i64 b6, .int .i64 b7, .int .i64 b8, .int .i64 b9]) eqk47 (by decide) eqg47 rfl rfl K
@[simp] theorem eqlA47 (a0 b0 : Int) (a1 b1 : Int) (a2 b2 : Int) (a3 b3 : Int) (a4 b4 : Int) (a5 b5 : Int) (a6 b6 : Int) (a7 b7 : Int) (a8 b8 : Int) (a9 b9 : Int) (K : Value → Prop) : aggBin Tryd.prog .eql 47 [.d (.s (.int .i64 a0)), .d (.s (.int .i64 a1)), .d (.s (.int .i64 a2)), .d (.s (.int .i64 a3)), .d (.s (.int .i64 a4)), .d (.s (.int .i64 a5)), .d (.s (.int .i64 a6)), .d (.s (.int .i64 a7)), .d (.s (.int .i64 a8)), .d (.s (.int .i64 a9))] [.d (.s (.int .i64 b0)), .d (.s (.int .i64 b1)), .d (.s (.int .i64 b2)), .d (.s (.int .i64 b3)), .d (.s (.int .i64 b4)), .d (.s (.int .i64 b5)), .d (.s (.int .i64 b6)), .d (.s (.int .i64 b7)), .d (.s (.int .i64 b8)), .d (.s (.int .i64 b9))] K = K (.bool ((eqVs [.int .i64 a0, .int .i64 a1, .int .i64 a2, .int .i64 a3, .int .i64 a4, .int .i64 a5, .int .i64 a6, .int .i64 a7, .int .i64 a8, .int .i64 a9] [.int .i64 b0, .int .i64 b1, .int .i64 b2, .int .i64 b3, .int .i64 b4, .int .i64 b5, .int .i64 b6, .int .i64 b7, .int .i64 b8, .int .i64 b9]))) := agg_eql (xs := [.int .i64 a0, .int .i64 a1, .int .i64 a2, .int .i64 a3, .int .i64 a4, .int .i64 a5, .int .i64 a6, .int .i64 a7, .int .i64 a8, .int .i64 a9]) (ys := [.int .i64 b0, .int .i64 b1, .int .i64 b2, .int .i64 b3, .int .i64 b4, .int .i64 b5, .int .i64 b6, .int .i64 b7, .int .i64 b8, .int .i64 b9]) eqk47 (by decide) eqg47 rfl rfl K
@[simp] theorem ze47 : zeroT Tryd.prog 47 = some [.d (.s (.int .i64 0)), .d (.s (.int .i64 0)), .d (.s (.int .i64 0)), .d (.s (.int .i64 0)), .d (.s (.int .i64 0)), .d (.s (.int .i64 0)), .d (.s (.int .i64 0)), .d (.s (.int .i64 0)), .d (.s (.int .i64 0)), .d (.s (.int .i64 0))] := by kernel_rfl
@[simp] theorem fi47_0 : fieldT Tryd.prog 47 0 = some (0, 1, false) := by kernel_rfl
@[simp] theorem fi47_1 : fieldT Tryd.prog 47 1 = some (1, 7, true) := by kernel_rfl
@[simp] theorem fi47_2 : fieldT Tryd.prog 47 2 = some (8, 1, false) := by kernel_rfl
@[simp] theorem fi47_3 : fieldT Tryd.prog 47 3 = some (9, 1, false) := by kernel_rfl
@[simp] theorem pl47 : placesT Tryd.prog 47 = some [(0, 1), (1, 7), (8, 1), (9, 1)] := by kernel_rfl
@[simp] theorem sz48 : szOf Tryd.prog 48 = some 10 := by kernel_rfl
@[simp] theorem ag48 : aggT Tryd.prog 48 = some true := by kernel_rfl
@[simp] theorem un48 : unitT Tryd.prog 48 = some 10 := by kernel_rfl
theorem kd48 : kindT Tryd.prog 12 48 = some [.int .i64, .int .i64, .int .i64, .int .i64, .int .i64, .int .i64, .int .i64, .int .i64, .int .i64, .int .i64] := by kernel_rfl
theorem eqk48 : eqT Tryd.prog 8 48 = some (true, [.int .i64, .int .i64, .int .i64, .int .i64, .int .i64, .int .i64, .int .i64, .int .i64, .int .i64, .int .i64]) := by kernel_rfl
theorem eqg48 : (Tryd.prog).eqGuardType (Tryd.prog).depth 48 = false := by kernel_rfl
@[simp] theorem neqA48 (a0 b0 : Int) (a1 b1 : Int) (a2 b2 : Int) (a3 b3 : Int) (a4 b4 : Int) (a5 b5 : Int) (a6 b6 : Int) (a7 b7 : Int) (a8 b8 : Int) (a9 b9 : Int) (K : Value → Prop) : aggBin Tryd.prog .neq 48 [.d (.s (.int .i64 a0)), .d (.s (.int .i64 a1)), .d (.s (.int .i64 a2)), .d (.s (.int .i64 a3)), .d (.s (.int .i64 a4)), .d (.s (.int .i64 a5)), .d (.s (.int .i64 a6)), .d (.s (.int .i64 a7)), .d (.s (.int .i64 a8)), .d (.s (.int .i64 a9))] [.d (.s (.int .i64 b0)), .d (.s (.int .i64 b1)), .d (.s (.int .i64 b2)), .d (.s (.int .i64 b3)), .d (.s (.int .i64 b4)), .d (.s (.int .i64 b5)), .d (.s (.int .i64 b6)), .d (.s (.int .i64 b7)), .d (.s (.int .i64 b8)), .d (.s (.int .i64 b9))] K = K (.bool (!(eqVs [.int .i64 a0, .int .i64 a1, .int .i64 a2, .int .i64 a3, .int .i64 a4, .int .i64 a5, .int .i64 a6, .int .i64 a7, .int .i64 a8, .int .i64 a9] [.int .i64 b0, .int .i64 b1, .int .i64 b2, .int .i64 b3, .int .i64 b4, .int .i64 b5, .int .i64 b6, .int .i64 b7, .int .i64 b8, .int .i64 b9]))) := agg_neq (xs := [.int .i64 a0, .int .i64 a1, .int .i64 a2, .int .i64 a3, .int .i64 a4, .int .i64 a5, .int .i64 a6, .int .i64 a7, .int .i64 a8, .int .i64 a9]) (ys := [.int .i64 b0, .int .i64 b1, .int .i64 b2, .int .i64 b3, .int .i64 b4, .int .i64 b5, .int .i64 b6, .int .i64 b7, .int .i64 b8, .int .i64 b9]) eqk48 (by decide) eqg48 rfl rfl K
@[simp] theorem eqlA48 (a0 b0 : Int) (a1 b1 : Int) (a2 b2 : Int) (a3 b3 : Int) (a4 b4 : Int) (a5 b5 : Int) (a6 b6 : Int) (a7 b7 : Int) (a8 b8 : Int) (a9 b9 : Int) (K : Value → Prop) : aggBin Tryd.prog .eql 48 [.d (.s (.int .i64 a0)), .d (.s (.int .i64 a1)), .d (.s (.int .i64 a2)), .d (.s (.int .i64 a3)), .d (.s (.int .i64 a4)), .d (.s (.int .i64 a5)), .d (.s (.int .i64 a6)), .d (.s (.int .i64 a7)), .d (.s (.int .i64 a8)), .d (.s (.int .i64 a9))] [.d (.s (.int .i64 b0)), .d (.s (.int .i64 b1)), .d (.s (.int .i64 b2)), .d (.s (.int .i64 b3)), .d (.s (.int .i64 b4)), .d (.s (.int .i64 b5)), .d (.s (.int .i64 b6)), .d (.s (.int .i64 b7)), .d (.s (.int .i64 b8)), .d (.s (.int .i64 b9))] K = K (.bool ((eqVs [.int .i64 a0, .int .i64 a1, .int .i64 a2, .int .i64 a3, .int .i64 a4, .int .i64 a5, .int .i64 a6, .int .i64 a7, .int .i64 a8, .int .i64 a9] [.int .i64 b0, .int .i64 b1, .int .i64 b2, .int .i64 b3, .int .i64 b4, .int .i64 b5, .int .i64 b6, .int .i64 b7, .int .i64 b8, .int .i64 b9]))) := agg_eql (xs := [.int .i64 a0, .int .i64 a1, .int .i64 a2, .int .i64 a3, .int .i64 a4, .int .i64 a5, .int .i64 a6, .int .i64 a7, .int .i64 a8, .int .i64 a9]) (ys := [.int .i64 b0, .int .i64 b1, .int .i64 b2, .int .i64 b3, .int .i64 b4, .int .i64 b5, .int .i64 b6, .int .i64 b7, .int .i64 b8, .int .i64 b9]) eqk48 (by decide) eqg48 rfl rfl K
@[simp] theorem ze48 : zeroT Tryd.prog 48 = some [.d (.s (.int .i64 0)), .d (.s (.int .i64 0)), .d (.s (.int .i64 0)), .d (.s (.int .i64 0)), .d (.s (.int .i64 0)), .d (.s (.int .i64 0)), .d (.s (.int .i64 0)), .d (.s (.int .i64 0)), .d (.s (.int .i64 0)), .d (.s (.int .i64 0))] := by kernel_rfl
@[simp] theorem fi48_0 : fieldT Tryd.prog 48 0 = some (0, 1, false) := by kernel_rfl
@[simp] theorem fi48_1 : fieldT Tryd.prog 48 1 = some (1, 7, true) := by kernel_rfl
@[simp] theorem fi48_2 : fieldT Tryd.prog 48 2 = some (8, 1, false) := by kernel_rfl
@[simp] theorem fi48_3 : fieldT Tryd.prog 48 3 = some (9, 1, false) := by kernel_rfl
@[simp] theorem pl48 : placesT Tryd.prog 48 = some [(0, 1), (1, 7), (8, 1), (9, 1)] := by kernel_rfl
@[simp] theorem sz49 : szOf Tryd.prog 49 = some 1 := by kernel_rfl
@[simp] theorem ag49 : aggT Tryd.prog 49 = some false := by kernel_rfl
@[simp] theorem un49 : unitT Tryd.prog 49 = some 1 := by kernel_rfl
@[simp] theorem ze49 : zeroT Tryd.prog 49 = some [.d (.s .nilFunc)] := by kernel_rfl
@[simp] theorem sz50 : szOf Tryd.prog 50 = some 1 := by kernel_rfl
@[simp] theorem ag50 : aggT Tryd.prog 50 = some false := by kernel_rfl
@[simp] theorem un50 : unitT Tryd.prog 50 = some 1 := by kernel_rfl
@[simp] theorem ze50 : zeroT Tryd.prog 50 = some [.d (.s .nilFunc)] := by kernel_rfl
@[simp] theorem sz51 : szOf Tryd.prog 51 = some 1 := by kernel_rfl
@[simp] theorem ag51 : aggT Tryd.prog 51 = some false := by kernel_rfl
@[simp] theorem un51 : unitT Tryd.prog 51 = some 1 := by kernel_rfl
@[simp] theorem ze51 : zeroT Tryd.prog 51 = some [.d (.s .nilFunc)] := by kernel_rfl
@[simp] theorem sz52 : szOf Tryd.prog 52 = some 1 := by kernel_rfl
@[simp] theorem ag52 : aggT Tryd.prog 52 = some false := by kernel_rfl
@[simp] theorem un52 : unitT Tryd.prog 52 = some 1 := by kernel_rfl
@[simp] theorem ze52 : zeroT Tryd.prog 52 = some [.d (.s .nilFunc)] := by kernel_rfl
@[simp] theorem sz53 : szOf Tryd.prog 53 = some 1 := by kernel_rfl
@[simp] theorem ag53 : aggT Tryd.prog 53 = some false := by kernel_rfl
@[simp] theorem un53 : unitT Tryd.prog 53 = some 1 := by kernel_rfl
@[simp] theorem ze53 : zeroT Tryd.prog 53 = some [.d (.s .nilFunc)] := by kernel_rfl
@[simp] theorem sz54 : szOf Tryd.prog 54 = some 9 := by kernel_rfl
@[simp] theorem ag54 : aggT Tryd.prog 54 = some true := by kernel_rfl
@[simp] theorem un54 : unitT Tryd.prog 54 = some 1 := by kernel_rfl
@[simp] theorem pl54 : placesT Tryd.prog 54 = some [(0, 1), (1, 1), (2, 1), (3, 1), (4, 1), (5, 1), (6, 1), (7, 1), (8, 1)] := by kernel_rfl
@[simp] theorem ar54 : arrT Tryd.prog 54 = some (9, 2, 1) := by kernel_rfl
@[simp] theorem sl54 : sliceT Tryd.prog 54 = none := by kernel_rfl
theorem kd54 : kindT Tryd.prog 12 54 = some [.int .i64, .int .i64, .int .i64, .int .i64, .int .i64, .int .i64, .int .i64, .int .i64, .int .i64] := by kernel_rfl
@[simp] theorem ze54 : zeroT Tryd.prog 54 = some [.d (.s (.int .i64 0)), .d (.s (.int .i64 0)), .d (.s (.int .i64 0)), .d (.s (.int .i64 0)), .d (.s (.int .i64 0)), .d (.s (.int .i64 0)), .d (.s (.int .i64 0)), .d (.s (.int .i64 0)), .d (.s (.int .i64 0))] := by kernel_rfl
@[simp] theorem sz55 : szOf Tryd.prog 55 = some 1 := by kernel_rfl
@[simp] theorem ag55 : aggT Tryd.prog 55 = some false := by kernel_rfl
@[simp] theorem un55 : unitT Tryd.prog 55 = some 1 := by kernel_rfl
@[simp] theorem ze55 : zeroT Tryd.prog 55 = some [.d (.s .nilFunc)] := by kernel_rfl
@[simp] theorem sz56 : szOf Tryd.prog 56 = some 17 := by kernel_rfl
@[simp] theorem ag56 : aggT Tryd.prog 56 = some true := by kernel_rfl
@[simp] theorem un56 : unitT Tryd.prog 56 = some 1 := by kernel_rfl
@[simp] theorem pl56 : placesT Tryd.prog 56 = some [(0, 1), (1, 1), (2, 1), (3, 1), (4, 1), (5, 1), (6, 1), (7, 1), (8, 1), (9, 1), (10, 1), (11, 1), (12, 1), (13, 1), (14, 1), (15, 1), (16, 1)] := by kernel_rfl
@[simp] theorem ar56 : arrT Tryd.prog 56 = some (17, 5, 1) := by kernel_rfl
@[simp] theorem sl56 : sliceT Tryd.prog 56 = none := by kernel_rfl
theorem kd56 : kindT Tryd.prog 12 56 = some [.int .u8, .int .u8, .int .u8, .int .u8, .int .u8, .int .u8, .int .u8, .int .u8, .int .u8, .int .u8, .int .u8, .int .u8, .int .u8, .int .u8, .int .u8, .int .u8, .int .u8] := by kernel_rfl
@[simp] theorem ze56 : zeroT Tryd.prog 56 = some [.d (.s (.int .u8 0)), .d (.s (.int .u8 0)), .d (.s (.int .u8 0)), .d (.s (.int .u8 0)), .d (.s (.int .u8 0)), .d (.s (.int .u8 0)), .d (.s (.int .u8 0)), .d (.s (.int .u8 0)), .d (.s (.int .u8 0)), .d (.s (.int .u8 0)), .d (.s (.int .u8 0)), .d (.s (.int .u8 0)), .d (.s (.int .u8 0)), .d (.s (.int .u8 0)), .d (.s (.int .u8 0)), .d (.s (.int .u8 0)), .d (.s (.int .u8 0))] := by kernel_rfl
@[simp] theorem sz57 : szOf Tryd.prog 57 = some 1 := by kernel_rfl
@[simp] theorem ag57 : aggT Tryd.prog 57 = some false := by kernel_rfl
@[simp] theorem un57 : unitT Tryd.prog 57 = some 1 := by kernel_rfl
@[simp] theorem ze57 : zeroT Tryd.prog 57 = some [.d (.s .nilFunc)] := by kernel_rfl
@[simp] theorem sz58 : szOf Tryd.prog 58 = some 1 := by kernel_rfl
@[simp] theorem ag58 : aggT Tryd.prog 58 = some false := by kernel_rfl
@[simp] theorem un58 : unitT Tryd.prog 58 = some 1 := by kernel_rfl
@[simp] theorem ze58 : zeroT Tryd.prog 58 = some [.d (.s (.pointer none))] := by kernel_rfl
@[simp] theorem sz59 : szOf Tryd.prog 59 = some 1 := by kernel_rfl
@[simp] theorem ag59 : aggT Tryd.prog 59 = some false := by kernel_rfl
@[simp] theorem un59 : unitT Tryd.prog 59 = some 1 := by kernel_rfl
@[simp] theorem ze59 : zeroT Tryd.prog 59 = some [.d (.s .nilFunc)] := by kernel_rfl
@[simp] theorem sz60 : szOf Tryd.prog 60 = some 1 := by kernel_rfl
@[simp] theorem ag60 : aggT Tryd.prog 60 = some false := by kernel_rfl
@[simp] theorem un60 : unitT Tryd.prog 60 = some 1 := by kernel_rfl
@[simp] theorem ze60 : zeroT Tryd.prog 60 = some [.d (.s .nilFunc)] := by kernel_rfl
@[simp] theorem sz61 : szOf Tryd.prog 61 = some 1 := by kernel_rfl
@[simp] theorem ag61 : aggT Tryd.prog 61 = some false := by kernel_rfl
@[simp] theorem un61 : unitT Tryd.prog 61 = some 1 := by kernel_rfl
@[simp] theorem ze61 : zeroT Tryd.prog 61 = some [.d (.s .nilFunc)] := by kernel_rfl
@[simp] theorem sz62 : szOf Tryd.prog 62 = some 1 := by kernel_rfl
@[simp] theorem ag62 : aggT Tryd.prog 62 = some false := by kernel_rfl
@[simp] theorem un62 : unitT Tryd.prog 62 = some 1 := by kernel_rfl
@[simp] theorem ze62 : zeroT Tryd.prog 62 = some [.d (.s (.pointer none))] := by kernel_rfl
@[simp] theorem sz63 : szOf Tryd.prog 63 = some 1 := by kernel_rfl
@[simp] theorem ag63 : aggT Tryd.prog 63 = some false := by kernel_rfl
@[simp] theorem un63 : unitT Tryd.prog 63 = some 1 := by kernel_rfl
@[simp] theorem ze63 : zeroT Tryd.prog 63 = some [.d (.s .nilFunc)] := by kernel_rfl
@[simp] theorem sz64 : szOf Tryd.prog 64 = some 1 := by kernel_rfl
@[simp] theorem ag64 : aggT Tryd.prog 64 = some false := by kernel_rfl
@[simp] theorem un64 : unitT Tryd.prog 64 = some 1 := by kernel_rfl
@[simp] theorem ze64 : zeroT Tryd.prog 64 = some [.d (.s .nilFunc)] := by kernel_rfl
@[simp] theorem sz65 : szOf Tryd.prog 65 = some 1 := by kernel_rfl
@[simp] theorem ag65 : aggT Tryd.prog 65 = some false := by kernel_rfl
@[simp] theorem un65 : unitT Tryd.prog 65 = some 1 := by kernel_rfl
@[simp] theorem ze65 : zeroT Tryd.prog 65 = some [.d (.s .nilFunc)] := by kernel_rfl
@[simp] theorem sz66 : szOf Tryd.prog 66 = some 1 := by kernel_rfl
@[simp] theorem ag66 : aggT Tryd.prog 66 = some false := by kernel_rfl
@[simp] theorem un66 : unitT Tryd.prog 66 = some 1 := by kernel_rfl
@[simp] theorem ze66 : zeroT Tryd.prog 66 = some [.d (.s .nilFunc)] := by kernel_rfl
@[simp] theorem sz67 : szOf Tryd.prog 67 = some 1 := by kernel_rfl
@[simp] theorem ag67 : aggT Tryd.prog 67 = some false := by kernel_rfl
@[simp] theorem un67 : unitT Tryd.prog 67 = some 1 := by kernel_rfl
@[simp] theorem ze67 : zeroT Tryd.prog 67 = some [.d (.s .nilFunc)] := by kernel_rfl
@[simp] theorem sz68 : szOf Tryd.prog 68 = some 1 := by kernel_rfl
@[simp] theorem ag68 : aggT Tryd.prog 68 = some false := by kernel_rfl
@[simp] theorem un68 : unitT Tryd.prog 68 = some 1 := by kernel_rfl
@[simp] theorem ze68 : zeroT Tryd.prog 68 = some [.d (.s .nilFunc)] := by kernel_rfl
@[simp] theorem sz69 : szOf Tryd.prog 69 = some 3 := by kernel_rfl
@[simp] theorem ag69 : aggT Tryd.prog 69 = some true := by kernel_rfl
@[simp] theorem un69 : unitT Tryd.prog 69 = some 3 := by kernel_rfl
theorem kd69 : kindT Tryd.prog 12 69 = some [.int .i64, .int .i64, .int .i64] := by kernel_rfl
theorem eqk69 : eqT Tryd.prog 8 69 = some (true, [.int .i64, .int .i64, .int .i64]) := by kernel_rfl
theorem eqg69 : (Tryd.prog).eqGuardType (Tryd.prog).depth 69 = false := by kernel_rfl
@[simp] theorem neqA69 (a0 b0 : Int) (a1 b1 : Int) (a2 b2 : Int) (K : Value → Prop) : aggBin Tryd.prog .neq 69 [.d (.s (.int .i64 a0)), .d (.s (.int .i64 a1)), .d (.s (.int .i64 a2))] [.d (.s (.int .i64 b0)), .d (.s (.int .i64 b1)), .d (.s (.int .i64 b2))] K = K (.bool (!(eqVs [.int .i64 a0, .int .i64 a1, .int .i64 a2] [.int .i64 b0, .int .i64 b1, .int .i64 b2]))) := agg_neq (xs := [.int .i64 a0, .int .i64 a1, .int .i64 a2]) (ys := [.int .i64 b0, .int .i64 b1, .int .i64 b2]) eqk69 (by decide) eqg69 rfl rfl K
@[simp] theorem eqlA69 (a0 b0 : Int) (a1 b1 : Int) (a2 b2 : Int) (K : Value → Prop) : aggBin Tryd.prog .eql 69 [.d (.s (.int .i64 a0)), .d (.s (.int .i64 a1)), .d (.s (.int .i64 a2))] [.d (.s (.int .i64 b0)), .d (.s (.int .i64 b1)), .d (.s (.int .i64 b2))] K = K (.bool ((eqVs [.int .i64 a0, .int .i64 a1, .int .i64 a2] [.int .i64 b0, .int .i64 b1, .int .i64 b2]))) := agg_eql (xs := [.int .i64 a0, .int .i64 a1, .int .i64 a2]) (ys := [.int .i64 b0, .int .i64 b1, .int .i64 b2]) eqk69 (by decide) eqg69 rfl rfl K
@[simp] theorem ze69 : zeroT Tryd.prog 69 = some [.d (.s (.int .i64 0)), .d (.s (.int .i64 0)), .d (.s (.int .i64 0))] := by kernel_rfl
@[simp] theorem fi69_0 : fieldT Tryd.prog 69 0 = some (0, 1, false) := by kernel_rfl
@[simp] theorem fi69_1 : fieldT Tryd.prog 69 1 = some (1, 1, false) := by kernel_rfl
@[simp] theorem fi69_2 : fieldT Tryd.prog 69 2 = some (2, 1, false) := by kernel_rfl
@[simp] theorem pl69 : placesT Tryd.prog 69 = some [(0, 1), (1, 1), (2, 1)] := by kernel_rfl
@[simp] theorem sz70 : szOf Tryd.prog 70 = some 3 := by kernel_rfl
@[simp] theorem ag70 : aggT Tryd.prog 70 = some true := by kernel_rfl
@[simp] theorem un70 : unitT Tryd.prog 70 = some 3 := by kernel_rfl
theorem kd70 : kindT Tryd.prog 12 70 = some [.int .i64, .int .i64, .int .i64] := by kernel_rfl
theorem eqk70 : eqT Tryd.prog 8 70 = some (true, [.int .i64, .int .i64, .int .i64]) := by kernel_rfl
theorem eqg70 : (Tryd.prog).eqGuardType (Tryd.prog).depth 70 = false := by kernel_rfl
@[simp] theorem neqA70 (a0 b0 : Int) (a1 b1 : Int) (a2 b2 : Int) (K : Value → Prop) : aggBin Tryd.prog .neq 70 [.d (.s (.int .i64 a0)), .d (.s (.int .i64 a1)), .d (.s (.int .i64 a2))] [.d (.s (.int .i64 b0)), .d (.s (.int .i64 b1)), .d (.s (.int .i64 b2))] K = K (.bool (!(eqVs [.int .i64 a0, .int .i64 a1, .int .i64 a2] [.int .i64 b0, .int .i64 b1, .int .i64 b2]))) := agg_neq (xs := [.int .i64 a0, .int .i64 a1, .int .i64 a2]) (ys := [.int .i64 b0, .int .i64 b1, .int .i64 b2]) eqk70 (by decide) eqg70 rfl rfl K
@[simp] theorem eqlA70 (a0 b0 : Int) (a1 b1 : Int) (a2 b2 : Int) (K : Value → Prop) : aggBin Tryd.prog .eql 70 [.d (.s (.int .i64 a0)), .d (.s (.int .i64 a1)), .d (.s (.int .i64 a2))] [.d (.s (.int .i64 b0)), .d (.s (.int .i64 b1)), .d (.s (.int .i64 b2))] K = K (.bool ((eqVs [.int .i64 a0, .int .i64 a1, .int .i64 a2] [.int .i64 b0, .int .i64 b1, .int .i64 b2]))) := agg_eql (xs := [.int .i64 a0, .int .i64 a1, .int .i64 a2]) (ys := [.int .i64 b0, .int .i64 b1, .int .i64 b2]) eqk70 (by decide) eqg70 rfl rfl K
@[simp] theorem ze70 : zeroT Tryd.prog 70 = some [.d (.s (.int .i64 0)), .d (.s (.int .i64 0)), .d (.s (.int .i64 0))] := by kernel_rfl
@[simp] theorem fi70_0 : fieldT Tryd.prog 70 0 = some (0, 1, false) := by kernel_rfl
@[simp] theorem fi70_1 : fieldT Tryd.prog 70 1 = some (1, 1, false) := by kernel_rfl
@[simp] theorem fi70_2 : fieldT Tryd.prog 70 2 = some (2, 1, false) := by kernel_rfl
@[simp] theorem pl70 : placesT Tryd.prog 70 = some [(0, 1), (1, 1), (2, 1)] := by kernel_rfl
@[simp] theorem sz71 : szOf Tryd.prog 71 = some 1 := by kernel_rfl
@[simp] theorem ag71 : aggT Tryd.prog 71 = some false := by kernel_rfl
@[simp] theorem un71 : unitT Tryd.prog 71 = some 1 := by kernel_rfl
@[simp] theorem sz72 : szOf Tryd.prog 72 = some 1 := by kernel_rfl
@[simp] theorem ag72 : aggT Tryd.prog 72 = some false := by kernel_rfl
@[simp] theorem un72 : unitT Tryd.prog 72 = some 1 := by kernel_rfl
@[simp] theorem ze72 : zeroT Tryd.prog 72 = some [.d (.s .nilFunc)] := by kernel_rfl
@[simp] theorem sz73 : szOf Tryd.prog 73 = some 1 := by kernel_rfl
@[simp] theorem ag73 : aggT Tryd.prog 73 = some false := by kernel_rfl
@[simp] theorem un73 : unitT Tryd.prog 73 = some 1 := by kernel_rfl
@[simp] theorem ze73 : zeroT Tryd.prog 73 = some [.d (.s .nilFunc)] := by kernel_rfl
@[simp] theorem sz74 : szOf Tryd.prog 74 = some 1 := by kernel_rfl
@[simp] theorem ag74 : aggT Tryd.prog 74 = some false := by kernel_rfl
@[simp] theorem un74 : unitT Tryd.prog 74 = some 1 := by kernel_rfl
@[simp] theorem ze74 : zeroT Tryd.prog 74 = some [.d (.s .nilFunc)] := by kernel_rfl
@[simp] theorem sz75 : szOf Tryd.prog 75 = some 1 := by kernel_rfl
@[simp] theorem ag75 : aggT Tryd.prog 75 = some false := by kernel_rfl
@[simp] theorem un75 : unitT Tryd.prog 75 = some 1 := by kernel_rfl
@[simp] theorem ze75 : zeroT Tryd.prog 75 = some [.d (.s .nilFunc)] := by kernel_rfl
@[simp] theorem sz76 : szOf Tryd.prog 76 = some 1 := by kernel_rfl
@[simp] theorem ag76 : aggT Tryd.prog 76 = some false := by kernel_rfl
@[simp] theorem un76 : unitT Tryd.prog 76 = some 1 := by kernel_rfl
@[simp] theorem ze76 : zeroT Tryd.prog 76 = some [.d (.s (.pointer none))] := by kernel_rfl
@[simp] theorem sz77 : szOf Tryd.prog 77 = some 1 := by kernel_rfl
@[simp] theorem ag77 : aggT Tryd.prog 77 = some false := by kernel_rfl
@[simp] theorem un77 : unitT Tryd.prog 77 = some 1 := by kernel_rfl
@[simp] theorem ze77 : zeroT Tryd.prog 77 = some [.d (.s .nilFunc)] := by kernel_rfl
@[simp] theorem sz78 : szOf Tryd.prog 78 = some 1 := by kernel_rfl
@[simp] theorem ag78 : aggT Tryd.prog 78 = some false := by kernel_rfl
@[simp] theorem un78 : unitT Tryd.prog 78 = some 1 := by kernel_rfl
@[simp] theorem ze78 : zeroT Tryd.prog 78 = some [.d (.s .nilFunc)] := by kernel_rfl
@[simp] theorem sz79 : szOf Tryd.prog 79 = some 1 := by kernel_rfl
@[simp] theorem ag79 : aggT Tryd.prog 79 = some false := by kernel_rfl
@[simp] theorem un79 : unitT Tryd.prog 79 = some 1 := by kernel_rfl
@[simp] theorem ze79 : zeroT Tryd.prog 79 = some [.d (.s .nilFunc)] := by kernel_rfl
@[simp] theorem sz80 : szOf Tryd.prog 80 = some 1 := by kernel_rfl
@[simp] theorem ag80 : aggT Tryd.prog 80 = some false := by kernel_rfl
@[simp] theorem un80 : unitT Tryd.prog 80 = some 1 := by kernel_rfl
@[simp] theorem ze80 : zeroT Tryd.prog 80 = some [.d (.s .nilFunc)] := by kernel_rfl
@[simp] theorem sz81 : szOf Tryd.prog 81 = some 1 := by kernel_rfl
@[simp] theorem ag81 : aggT Tryd.prog 81 = some false := by kernel_rfl
@[simp] theorem un81 : unitT Tryd.prog 81 = some 1 := by kernel_rfl
@[simp] theorem ze81 : zeroT Tryd.prog 81 = some [.d (.s .nilFunc)] := by kernel_rfl
@[simp] theorem sz82 : szOf Tryd.prog 82 = some 1 := by kernel_rfl
@[simp] theorem ag82 : aggT Tryd.prog 82 = some false := by kernel_rfl
@[simp] theorem un82 : unitT Tryd.prog 82 = some 1 := by kernel_rfl
theorem kd82 : kindT Tryd.prog 12 82 = some [.int .u64] := by kernel_rfl
@[simp] theorem ze82 : zeroT Tryd.prog 82 = some [.d (.s (.int .u64 0))] := by kernel_rfl
@[simp] theorem sz83 : szOf Tryd.prog 83 = some 2 := by kernel_rfl
@[simp] theorem ag83 : aggT Tryd.prog 83 = some true := by kernel_rfl
@[simp] theorem un83 : unitT Tryd.prog 83 = some 2 := by kernel_rfl
theorem kd83 : kindT Tryd.prog 12 83 = some [.slice [.int .u8], .int .i64] := by kernel_rfl
@[simp] theorem ze83 : zeroT Tryd.prog 83 = some [.d .nil, .d (.s (.int .i64 0))] := by kernel_rfl
@[simp] theorem fi83_0 : fieldT Tryd.prog 83 0 = some (0, 1, false) := by kernel_rfl
@[simp] theorem fi83_1 : fieldT Tryd.prog 83 1 = some (1, 1, false) := by kernel_rfl
@[simp] theorem pl83 : placesT Tryd.prog 83 = some [(0, 1), (1, 1)] := by kernel_rfl
@[simp] theorem sz84 : szOf Tryd.prog 84 = some 2 := by kernel_rfl
@[simp] theorem ag84 : aggT Tryd.prog 84 = some true := by kernel_rfl
@[simp] theorem un84 : unitT Tryd.prog 84 = some 2 := by kernel_rfl
theorem kd84 : kindT Tryd.prog 12 84 = some [.slice [.int .u8], .int .i64] := by kernel_rfl
@[simp] theorem ze84 : zeroT Tryd.prog 84 = some [.d .nil, .d (.s (.int .i64 0))] := by kernel_rfl
@[simp] theorem fi84_0 : fieldT Tryd.prog 84 0 = some (0, 1, false) := by kernel_rfl
@[simp] theorem fi84_1 : fieldT Tryd.prog 84 1 = some (1, 1, false) := by kernel_rfl
@[simp] theorem pl84 : placesT Tryd.prog 84 = some [(0, 1), (1, 1)] := by kernel_rfl
@[simp] theorem sz85 : szOf Tryd.prog 85 = some 1 := by kernel_rfl
@[simp] theorem ag85 : aggT Tryd.prog 85 = some false := by kernel_rfl
@[simp] theorem un85 : unitT Tryd.prog 85 = some 1 := by kernel_rfl
@[simp] theorem ze85 : zeroT Tryd.prog 85 = some [.d (.s .nilFunc)] := by kernel_rfl
@[simp] theorem sz86 : szOf Tryd.prog 86 = some 1 := by kernel_rfl
@[simp] theorem ag86 : aggT Tryd.prog 86 = some false := by kernel_rfl
@[simp] theorem un86 : unitT Tryd.prog 86 = some 1 := by kernel_rfl
@[simp] theorem ze86 : zeroT Tryd.prog 86 = some [.d (.s .nilFunc)] := by kernel_rfl
@[simp] theorem sz87 : szOf Tryd.prog 87 = some 1 := by kernel_rfl
@[simp] theorem ag87 : aggT Tryd.prog 87 = some false := by kernel_rfl
@[simp] theorem un87 : unitT Tryd.prog 87 = some 1 := by kernel_rfl
theorem kd87 : kindT Tryd.prog 12 87 = some [.slice [.int .i64]] := by kernel_rfl
@[simp] theorem sl87 : sliceT Tryd.prog 87 = some (2, 1, 8) := by kernel_rfl
@[simp] theorem ze87 : zeroT Tryd.prog 87 = some [.d .nil] := by kernel_rfl
@[simp] theorem sz88 : szOf Tryd.prog 88 = some 1 := by kernel_rfl
@[simp] theorem ag88 : aggT Tryd.prog 88 = some false := by kernel_rfl
@[simp] theorem un88 : unitT Tryd.prog 88 = some 1 := by kernel_rfl
theorem kd88 : kindT Tryd.prog 12 88 = some [.slice [.int .i64, .int .i64, .int .i64]] := by kernel_rfl
@[simp] theorem sl88 : sliceT Tryd.prog 88 = some (70, 3, 24) := by kernel_rfl
@[simp] theorem ze88 : zeroT Tryd.prog 88 = some [.d .nil] := by kernel_rfl
@[simp] theorem sz89 : szOf Tryd.prog 89 = some 1 := by kernel_rfl
@[simp] theorem ag89 : aggT Tryd.prog 89 = some false := by kernel_rfl
@[simp] theorem un89 : unitT Tryd.prog 89 = some 1 := by kernel_rfl
@[simp] theorem ze89 : zeroT Tryd.prog 89 = some [.d (.s .nilFunc)] := by kernel_rfl
@[simp] theorem sz90 : szOf Tryd.prog 90 = some 1 := by kernel_rfl
@[simp] theorem ag90 : aggT Tryd.prog 90 = some false := by kernel_rfl
@[simp] theorem un90 : unitT Tryd.prog 90 = some 1 := by kernel_rfl
@[simp] theorem ze90 : zeroT Tryd.prog 90 = some [.d (.s .nilFunc)] := by kernel_rfl
@[simp] theorem sz91 : szOf Tryd.prog 91 = some 1 := by kernel_rfl
@[simp] theorem ag91 : aggT Tryd.prog 91 = some false := by kernel_rfl
@[simp] theorem un91 : unitT Tryd.prog 91 = some 1 := by kernel_rfl
@[simp] theorem ze91 : zeroT Tryd.prog 91 = some [.d (.s .nilFunc)] := by kernel_rfl
@[simp] theorem sz92 : szOf Tryd.prog 92 = some 4 := by kernel_rfl
@[simp] theorem ag92 : aggT Tryd.prog 92 = some true := by kernel_rfl
@[simp] theorem un92 : unitT Tryd.prog 92 = some 4 := by kernel_rfl
@[simp] theorem ze92 : zeroT Tryd.prog 92 = some [.d (.s (.pointer none)), .d (.s (.pointer none)), .d (.s (.pointer none)), .d (.s (.string ByteArray.empty))] := by kernel_rfl
@[simp] theorem fi92_0 : fieldT Tryd.prog 92 0 = some (0, 1, false) := by kernel_rfl
@[simp] theorem fi92_1 : fieldT Tryd.prog 92 1 = some (1, 1, false) := by kernel_rfl
@[simp] theorem fi92_2 : fieldT Tryd.prog 92 2 = some (2, 1, false) := by kernel_rfl
@[simp] theorem fi92_3 : fieldT Tryd.prog 92 3 = some (3, 1, false) := by kernel_rfl
@[simp] theorem pl92 : placesT Tryd.prog 92 = some [(0, 1), (1, 1), (2, 1), (3, 1)] := by kernel_rfl
@[simp] theorem sz93 : szOf Tryd.prog 93 = some 4 := by kernel_rfl
@[simp] theorem ag93 : aggT Tryd.prog 93 = some true := by kernel_rfl
@[simp] theorem un93 : unitT Tryd.prog 93 = some 4 := by kernel_rfl
@[simp] theorem ze93 : zeroT Tryd.prog 93 = some [.d (.s (.pointer none)), .d (.s (.pointer none)), .d (.s (.pointer none)), .d (.s (.string ByteArray.empty))] := by kernel_rfl
@[simp] theorem fi93_0 : fieldT Tryd.prog 93 0 = some (0, 1, false) := by kernel_rfl
@[simp] theorem fi93_1 : fieldT Tryd.prog 93 1 = some (1, 1, false) := by kernel_rfl
@[simp] theorem fi93_2 : fieldT Tryd.prog 93 2 = some (2, 1, false) := by kernel_rfl
@[simp] theorem fi93_3 : fieldT Tryd.prog 93 3 = some (3, 1, false) := by kernel_rfl
@[simp] theorem pl93 : placesT Tryd.prog 93 = some [(0, 1), (1, 1), (2, 1), (3, 1)] := by kernel_rfl
@[simp] theorem sz94 : szOf Tryd.prog 94 = some 0 := by kernel_rfl
@[simp] theorem ag94 : aggT Tryd.prog 94 = some true := by kernel_rfl
@[simp] theorem un94 : unitT Tryd.prog 94 = some 1 := by kernel_rfl
@[simp] theorem pl94 : placesT Tryd.prog 94 = some [] := by kernel_rfl
@[simp] theorem ar94 : arrT Tryd.prog 94 = some (0, 16, 1) := by kernel_rfl
@[simp] theorem sl94 : sliceT Tryd.prog 94 = none := by kernel_rfl
@[simp] theorem ze94 : zeroT Tryd.prog 94 = some [] := by kernel_rfl
@[simp] theorem sz95 : szOf Tryd.prog 95 = some 0 := by kernel_rfl
@[simp] theorem ag95 : aggT Tryd.prog 95 = some true := by kernel_rfl
@[simp] theorem un95 : unitT Tryd.prog 95 = some 0 := by kernel_rfl
@[simp] theorem ze95 : zeroT Tryd.prog 95 = some [] := by kernel_rfl
@[simp] theorem fi95_0 : fieldT Tryd.prog 95 0 = some (0, 0, true) := by kernel_rfl
@[simp] theorem pl95 : placesT Tryd.prog 95 = some [(0, 0)] := by kernel_rfl
@[simp] theorem sz96 : szOf Tryd.prog 96 = some 0 := by kernel_rfl
@[simp] theorem ag96 : aggT Tryd.prog 96 = some true := by kernel_rfl
@[simp] theorem un96 : unitT Tryd.prog 96 = some 0 := by kernel_rfl
@[simp] theorem ze96 : zeroT Tryd.prog 96 = some [] := by kernel_rfl
@[simp] theorem fi96_0 : fieldT Tryd.prog 96 0 = some (0, 0, true) := by kernel_rfl
@[simp] theorem pl96 : placesT Tryd.prog 96 = some [(0, 0)] := by kernel_rfl
@[simp] theorem sz97 : szOf Tryd.prog 97 = some 1 := by kernel_rfl
@[simp] theorem ag97 : aggT Tryd.prog 97 = some false := by kernel_rfl
@[simp] theorem un97 : unitT Tryd.prog 97 = some 1 := by kernel_rfl
@[simp] theorem ze97 : zeroT Tryd.prog 97 = some [.d (.s .nilFunc)] := by kernel_rfl
@[simp] theorem sz98 : szOf Tryd.prog 98 = some 1 := by kernel_rfl
@[simp] theorem ag98 : aggT Tryd.prog 98 = some false := by kernel_rfl
@[simp] theorem un98 : unitT Tryd.prog 98 = some 1 := by kernel_rfl
theorem kd98 : kindT Tryd.prog 12 98 = some [.int .u32] := by kernel_rfl
@[simp] theorem ze98 : zeroT Tryd.prog 98 = some [.d (.s (.int .u32 0))] := by kernel_rfl
@[simp] theorem sz99 : szOf Tryd.prog 99 = some 1 := by kernel_rfl
@[simp] theorem ag99 : aggT Tryd.prog 99 = some false := by kernel_rfl
@[simp] theorem un99 : unitT Tryd.prog 99 = some 1 := by kernel_rfl
theorem kd99 : kindT Tryd.prog 12 99 = some [.int .u8] := by kernel_rfl
@[simp] theorem ze99 : zeroT Tryd.prog 99 = some [.d (.s (.int .u8 0))] := by kernel_rfl
@[simp] theorem sz100 : szOf Tryd.prog 100 = some 1 := by kernel_rfl
@[simp] theorem ag100 : aggT Tryd.prog 100 = some false := by kernel_rfl
@[simp] theorem un100 : unitT Tryd.prog 100 = some 1 := by kernel_rfl
theorem kd100 : kindT Tryd.prog 12 100 = some [.int .u8] := by kernel_rfl
@[simp] theorem ze100 : zeroT Tryd.prog 100 = some [.d (.s (.int .u8 0))] := by kernel_rfl
@[simp] theorem sz101 : szOf Tryd.prog 101 = some 1 := by kernel_rfl
@[simp] theorem ag101 : aggT Tryd.prog 101 = some false := by kernel_rfl
@[simp] theorem un101 : unitT Tryd.prog 101 = some 1 := by kernel_rfl
@[simp] theorem ze101 : zeroT Tryd.prog 101 = some [.d (.s .nilFunc)] := by kernel_rfl
@[simp] theorem sz102 : szOf Tryd.prog 102 = some 1 := by kernel_rfl
@[simp] theorem ag102 : aggT Tryd.prog 102 = some false := by kernel_rfl
@[simp] theorem un102 : unitT Tryd.prog 102 = some 1 := by kernel_rfl
@[simp] theorem ze102 : zeroT Tryd.prog 102 = some [.d (.s (.pointer none))] := by kernel_rfl
@[simp] theorem sz103 : szOf Tryd.prog 103 = some 1 := by kernel_rfl
@[simp] theorem ag103 : aggT Tryd.prog 103 = some false := by kernel_rfl
@[simp] theorem un103 : unitT Tryd.prog 103 = some 1 := by kernel_rfl
theorem kd103 : kindT Tryd.prog 12 103 = some [.int .i32] := by kernel_rfl
@[simp] theorem ze103 : zeroT Tryd.prog 103 = some [.d (.s (.int .i32 0))] := by kernel_rfl
@[simp] theorem sz104 : szOf Tryd.prog 104 = some 1 := by kernel_rfl
@[simp] theorem ag104 : aggT Tryd.prog 104 = some false := by kernel_rfl
@[simp] theorem un104 : unitT Tryd.prog 104 = some 1 := by kernel_rfl
theorem kd104 : kindT Tryd.prog 12 104 = some [.int .i32] := by kernel_rfl
@[simp] theorem ze104 : zeroT Tryd.prog 104 = some [.d (.s (.int .i32 0))] := by kernel_rfl
@[simp] theorem sz105 : szOf Tryd.prog 105 = some 11 := by kernel_rfl
@[simp] theorem ag105 : aggT Tryd.prog 105 = some true := by kernel_rfl
@[simp] theorem un105 : unitT Tryd.prog 105 = some 11 := by kernel_rfl
@[simp] theorem ze105 : zeroT Tryd.prog 105 = some [.d (.s (.int .u64 0)), .d (.s (.int .u64 0)), .d (.s (.int .u32 0)), .d (.s (.int .u8 0)), .d (.s (.int .u8 0)), .d (.s (.int .u8 0)), .d (.s (.int .u8 0)), .d (.s .nilFunc), .d (.s (.pointer none)), .d (.s (.int .i32 0)), .d (.s (.int .i32 0))] := by kernel_rfl
@[simp] theorem fi105_0 : fieldT Tryd.prog 105 0 = some (0, 1, false) := by kernel_rfl
@[simp] theorem fi105_1 : fieldT Tryd.prog 105 1 = some (1, 1, false) := by kernel_rfl
@[simp] theorem fi105_2 : fieldT Tryd.prog 105 2 = some (2, 1, false) := by kernel_rfl
@[simp] theorem fi105_3 : fieldT Tryd.prog 105 3 = some (3, 1, false) := by kernel_rfl
@[simp] theorem fi105_4 : fieldT Tryd.prog 105 4 = some (4, 1, false) := by kernel_rfl
@[simp] theorem fi105_5 : fieldT Tryd.prog 105 5 = some (5, 1, false) := by kernel_rfl
@[simp] theorem fi105_6 : fieldT Tryd.prog 105 6 = some (6, 1, false) := by kernel_rfl
@[simp] theorem fi105_7 : fieldT Tryd.prog 105 7 = some (7, 1, false) := by kernel_rfl
@[simp] theorem fi105_8 : fieldT Tryd.prog 105 8 = some (8, 1, false) := by kernel_rfl
@[simp] theorem fi105_9 : fieldT Tryd.prog 105 9 = some (9, 1, false) := by kernel_rfl
@[simp] theorem fi105_10 : fieldT Tryd.prog 105 10 = some (10, 1, false) := by kernel_rfl
@[simp] theorem pl105 : placesT Tryd.prog 105 = some [(0, 1), (1, 1), (2, 1), (3, 1), (4, 1), (5, 1), (6, 1), (7, 1), (8, 1), (9, 1), (10, 1)] := by kernel_rfl
@[simp] theorem sz106 : szOf Tryd.prog 106 = some 11 := by kernel_rfl
@[simp] theorem ag106 : aggT Tryd.prog 106 = some true := by kernel_rfl
@[simp] theorem un106 : unitT Tryd.prog 106 = some 11 := by kernel_rfl
@[simp] theorem ze106 : zeroT Tryd.prog 106 = some [.d (.s (.int .u64 0)), .d (.s (.int .u64 0)), .d (.s (.int .u32 0)), .d (.s (.int .u8 0)), .d (.s (.int .u8 0)), .d (.s (.int .u8 0)), .d (.s (.int .u8 0)), .d (.s .nilFunc), .d (.s (.pointer none)), .d (.s (.int .i32 0)), .d (.s (.int .i32 0))] := by kernel_rfl
@[simp] theorem fi106_0 : fieldT Tryd.prog 106 0 = some (0, 1, false) := by kernel_rfl
@[simp] theorem fi106_1 : fieldT Tryd.prog 106 1 = some (1, 1, false) := by kernel_rfl
@[simp] theorem fi106_2 : fieldT Tryd.prog 106 2 = some (2, 1, false) := by kernel_rfl
@[simp] theorem fi106_3 : fieldT Tryd.prog 106 3 = some (3, 1, false) := by kernel_rfl
@[simp] theorem fi106_4 : fieldT Tryd.prog 106 4 = some (4, 1, false) := by kernel_rfl
@[simp] theorem fi106_5 : fieldT Tryd.prog 106 5 = some (5, 1, false) := by kernel_rfl
@[simp] theorem fi106_6 : fieldT Tryd.prog 106 6 = some (6, 1, false) := by kernel_rfl
@[simp] theorem fi106_7 : fieldT Tryd.prog 106 7 = some (7, 1, false) := by kernel_rfl
@[simp] theorem fi106_8 : fieldT Tryd.prog 106 8 = some (8, 1, false) := by kernel_rfl
@[simp] theorem fi106_9 : fieldT Tryd.prog 106 9 = some (9, 1, false) := by kernel_rfl
@[simp] theorem fi106_10 : fieldT Tryd.prog 106 10 = some (10, 1, false) := by kernel_rfl
@[simp] theorem pl106 : placesT Tryd.prog 106 = some [(0, 1), (1, 1), (2, 1), (3, 1), (4, 1), (5, 1), (6, 1), (7, 1), (8, 1), (9, 1), (10, 1)] := by kernel_rfl
@[simp] theorem sz107 : szOf Tryd.prog 107 = some 1 := by kernel_rfl
@[simp] theorem ag107 : aggT Tryd.prog 107 = some false := by kernel_rfl
@[simp] theorem un107 : unitT Tryd.prog 107 = some 1 := by kernel_rfl
@[simp] theorem ze107 : zeroT Tryd.prog 107 = some [.d (.s (.pointer none))] := by kernel_rfl
@[simp] theorem ca2 : callable Tryd.prog 2 = true := by kernel_rfl
@[simp] theorem ca3 : callable Tryd.prog 3 = true := by kernel_rfl
@[simp] theorem ca4 : callable Tryd.prog 4 = true := by kernel_rfl
@[simp] theorem ca5 : callable Tryd.prog 5 = true := by kernel_rfl
@[simp] theorem ca6 : callable Tryd.prog 6 = true := by kernel_rfl
@[simp] theorem ca7 : callable Tryd.prog 7 = true := by kernel_rfl
@[simp] theorem ca8 : callable Tryd.prog 8 = true := by kernel_rfl
@[simp] theorem ca9 : callable Tryd.prog 9 = true := by kernel_rfl
@[simp] theorem ca10 : callable Tryd.prog 10 = true := by kernel_rfl
@[simp] theorem ca11 : callable Tryd.prog 11 = true := by kernel_rfl
@[simp] theorem ca12 : callable Tryd.prog 12 = true := by kernel_rfl
@[simp] theorem ca13 : callable Tryd.prog 13 = true := by kernel_rfl
@[simp] theorem ca14 : callable Tryd.prog 14 = true := by kernel_rfl
@[simp] theorem ca15 : callable Tryd.prog 15 = true := by kernel_rfl
@[simp] theorem ca16 : callable Tryd.prog 16 = true := by kernel_rfl
@[simp] theorem ca17 : callable Tryd.prog 17 = true := by kernel_rfl
@[simp] theorem ca18 : callable Tryd.prog 18 = true := by kernel_rfl
@[simp] theorem ca19 : callable Tryd.prog 19 = true := by kernel_rfl
@[simp] theorem ca20 : callable Tryd.prog 20 = true := by kernel_rfl
@[simp] theorem ca21 : callable Tryd.prog 21 = true := by kernel_rfl
@[simp] theorem ca22 : callable Tryd.prog 22 = true := by kernel_rfl
@[simp] theorem ca23 : callable Tryd.prog 23 = true := by kernel_rfl
@[simp] theorem ca24 : callable Tryd.prog 24 = true := by kernel_rfl
@[simp] theorem ca25 : callable Tryd.prog 25 = true := by kernel_rfl
@[simp] theorem ca26 : callable Tryd.prog 26 = true := by kernel_rfl
@[simp] theorem ca27 : callable Tryd.prog 27 = true := by kernel_rfl
@[simp] theorem ca28 : callable Tryd.prog 28 = true := by kernel_rfl
@[simp] theorem ca29 : callable Tryd.prog 29 = true := by kernel_rfl
@[simp] theorem ca30 : callable Tryd.prog 30 = true := by kernel_rfl
@[simp] theorem ca31 : callable Tryd.prog 31 = true := by kernel_rfl
@[simp] theorem ca32 : callable Tryd.prog 32 = true := by kernel_rfl
@[simp] theorem ca33 : callable Tryd.prog 33 = true := by kernel_rfl
@[simp] theorem ca34 : callable Tryd.prog 34 = true := by kernel_rfl
@[simp] theorem ca35 : callable Tryd.prog 35 = true := by kernel_rfl
@[simp] theorem ca36 : callable Tryd.prog 36 = true := by kernel_rfl
@[simp] theorem ca37 : callable Tryd.prog 37 = true := by kernel_rfl
@[simp] theorem ca38 : callable Tryd.prog 38 = true := by kernel_rfl
@[simp] theorem ca39 : callable Tryd.prog 39 = true := by kernel_rfl
@[simp] theorem ca40 : callable Tryd.prog 40 = true := by kernel_rfl
@[simp] theorem ca41 : callable Tryd.prog 41 = true := by kernel_rfl
@[simp] theorem ca42 : callable Tryd.prog 42 = true := by kernel_rfl
@[simp] theorem ca43 : callable Tryd.prog 43 = true := by kernel_rfl
@[simp] theorem ca44 : callable Tryd.prog 44 = true := by kernel_rfl
@[simp] theorem ca45 : callable Tryd.prog 45 = true := by kernel_rfl
@[simp] theorem ca46 : callable Tryd.prog 46 = true := by kernel_rfl
@[simp] theorem ca47 : callable Tryd.prog 47 = true := by kernel_rfl
@[simp] theorem ca48 : callable Tryd.prog 48 = true := by kernel_rfl
@[simp] theorem ca49 : callable Tryd.prog 49 = true := by kernel_rfl
@[simp] theorem ca50 : callable Tryd.prog 50 = true := by kernel_rfl
@[simp] theorem ca51 : callable Tryd.prog 51 = true := by kernel_rfl
@[simp] theorem ca52 : callable Tryd.prog 52 = true := by kernel_rfl
@[simp] theorem ca53 : callable Tryd.prog 53 = true := by kernel_rfl
@[simp] theorem ca54 : callable Tryd.prog 54 = true := by kernel_rfl
@[simp] theorem ca55 : callable Tryd.prog 55 = true := by kernel_rfl
@[simp] theorem ca56 : callable Tryd.prog 56 = true := by kernel_rfl
@[simp] theorem ca57 : callable Tryd.prog 57 = true := by kernel_rfl
@[simp] theorem ca58 : callable Tryd.prog 58 = true := by kernel_rfl
@[simp] theorem ca59 : callable Tryd.prog 59 = true := by kernel_rfl
@[simp] theorem ca60 : callable Tryd.prog 60 = true := by kernel_rfl
@[simp] theorem ca80 : callable Tryd.prog 80 = true := by kernel_rfl
@[simp] theorem glob0 : globT 0 = some [.s (.int .i64 1), .s (.int .i64 1), .s (.int .i64 2), .s (.int .i64 2), .s (.int .i64 2), .s (.int .i64 2), .s (.int .i64 2), .s (.int .i64 3), .s (.int .i64 2)] := rfl
theorem mixed : Tryd.prog.follows .mixedOrders = true := by kernel_rfl
end Go.Proofs.YtceafhcjiichfaaDoor
