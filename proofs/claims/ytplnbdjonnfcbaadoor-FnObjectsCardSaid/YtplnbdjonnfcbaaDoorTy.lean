/- Closed facts on the types and functions of the translation. -/
import Derived.Test.YtplnbdjonnfcbaaDoorProg
import Derived.KernelRfl
import Derived.Test.YtplnbdjonnfcbaaDoorK4
namespace Go.Proofs.YtplnbdjonnfcbaaDoor
open Go Go.Abs Go.Proofs
@[simp] theorem sz0 : szOf Tryd.prog 0 = some 1 := by kernel_rfl
@[simp] theorem ag0 : aggT Tryd.prog 0 = some false := by kernel_rfl
@[simp] theorem un0 : unitT Tryd.prog 0 = some 1 := by kernel_rfl
@[simp] theorem sz1 : szOf Tryd.prog 1 = some 1 := by kernel_rfl
@[simp] theorem ag1 : aggT Tryd.prog 1 = some false := by kernel_rfl
@[simp] theorem un1 : unitT Tryd.prog 1 = some 1 := by kernel_rfl
@[simp] theorem ze1 : zeroT Tryd.prog 1 = some [.d (.s .nilFunc)] := by kernel_rfl
@[simp] theorem sz2 : szOf Tryd.prog 2 = some 1 := by kernel_rfl
@[simp] theorem ag2 : aggT Tryd.prog 2 = some false := by kernel_rfl
@[simp] theorem un2 : unitT Tryd.prog 2 = some 1 := by kernel_rfl
theorem kd2 : kindT Tryd.prog 12 2 = some [.int .i64] := by kernel_rfl
@[simp] theorem ze2 : zeroT Tryd.prog 2 = some [.d (.s (.int .i64 0))] := by kernel_rfl
@[simp] theorem sz3 : szOf Tryd.prog 3 = some 1 := by kernel_rfl
@[simp] theorem ag3 : aggT Tryd.prog 3 = some false := by kernel_rfl
@[simp] theorem un3 : unitT Tryd.prog 3 = some 1 := by kernel_rfl
theorem kd3 : kindT Tryd.prog 12 3 = some [.int .i64] := by kernel_rfl
@[simp] theorem ze3 : zeroT Tryd.prog 3 = some [.d (.s (.int .i64 0))] := by kernel_rfl
@[simp] theorem sz4 : szOf Tryd.prog 4 = some 1 := by kernel_rfl
@[simp] theorem ag4 : aggT Tryd.prog 4 = some false := by kernel_rfl
@[simp] theorem un4 : unitT Tryd.prog 4 = some 1 := by kernel_rfl
theorem kd4 : kindT Tryd.prog 12 4 = some [.bool] := by kernel_rfl
@[simp] theorem ze4 : zeroT Tryd.prog 4 = some [.d (.s (.bool false))] := by kernel_rfl
@[simp] theorem sz5 : szOf Tryd.prog 5 = some 1 := by kernel_rfl
@[simp] theorem ag5 : aggT Tryd.prog 5 = some false := by kernel_rfl
@[simp] theorem un5 : unitT Tryd.prog 5 = some 1 := by kernel_rfl
theorem kd5 : kindT Tryd.prog 12 5 = some [.int .u8] := by kernel_rfl
@[simp] theorem ze5 : zeroT Tryd.prog 5 = some [.d (.s (.int .u8 0))] := by kernel_rfl
@[simp] theorem sz6 : szOf Tryd.prog 6 = some 1 := by kernel_rfl
@[simp] theorem ag6 : aggT Tryd.prog 6 = some false := by kernel_rfl
@[simp] theorem un6 : unitT Tryd.prog 6 = some 1 := by kernel_rfl
theorem kd6 : kindT Tryd.prog 12 6 = some [.int .u8] := by kernel_rfl
@[simp] theorem ze6 : zeroT Tryd.prog 6 = some [.d (.s (.int .u8 0))] := by kernel_rfl
@[simp] theorem sz7 : szOf Tryd.prog 7 = some 4 := by kernel_rfl
@[simp] theorem ag7 : aggT Tryd.prog 7 = some true := by kernel_rfl
@[simp] theorem un7 : unitT Tryd.prog 7 = some 4 := by kernel_rfl
theorem kd7 : kindT Tryd.prog 12 7 = some [.int .i64, .int .i64, .bool, .int .u8] := by kernel_rfl
theorem eqk7 : eqT Tryd.prog 8 7 = some (true, [.int .i64, .int .i64, .bool, .int .u8]) := by kernel_rfl
theorem eqg7 : (Tryd.prog).eqGuardType (Tryd.prog).depth 7 = false := by kernel_rfl
@[simp] theorem neqA7 (a0 b0 : Int) (a1 b1 : Int) (a2 b2 : Bool) (a3 b3 : Int) (K : Value → Prop) : aggBin Tryd.prog .neq 7 [.d (.s (.int .i64 a0)), .d (.s (.int .i64 a1)), .d (.s (.bool a2)), .d (.s (.int .u8 a3))] [.d (.s (.int .i64 b0)), .d (.s (.int .i64 b1)), .d (.s (.bool b2)), .d (.s (.int .u8 b3))] K = K (.bool (!(eqVs [.int .i64 a0, .int .i64 a1, .bool a2, .int .u8 a3] [.int .i64 b0, .int .i64 b1, .bool b2, .int .u8 b3]))) := agg_neq (xs := [.int .i64 a0, .int .i64 a1, .bool a2, .int .u8 a3]) (ys := [.int .i64 b0, .int .i64 b1, .bool b2, .int .u8 b3]) eqk7 (by decide) eqg7 rfl rfl K
@[simp] theorem eqlA7 (a0 b0 : Int) (a1 b1 : Int) (a2 b2 : Bool) (a3 b3 : Int) (K : Value → Prop) : aggBin Tryd.prog .eql 7 [.d (.s (.int .i64 a0)), .d (.s (.int .i64 a1)), .d (.s (.bool a2)), .d (.s (.int .u8 a3))] [.d (.s (.int .i64 b0)), .d (.s (.int .i64 b1)), .d (.s (.bool b2)), .d (.s (.int .u8 b3))] K = K (.bool ((eqVs [.int .i64 a0, .int .i64 a1, .bool a2, .int .u8 a3] [.int .i64 b0, .int .i64 b1, .bool b2, .int .u8 b3]))) := agg_eql (xs := [.int .i64 a0, .int .i64 a1, .bool a2, .int .u8 a3]) (ys := [.int .i64 b0, .int .i64 b1, .bool b2, .int .u8 b3]) eqk7 (by decide) eqg7 rfl rfl K
@[simp] theorem ze7 : zeroT Tryd.prog 7 = some [.d (.s (.int .i64 0)), .d (.s (.int .i64 0)), .d (.s (.bool false)), .d (.s (.int .u8 0))] := by kernel_rfl
@[simp] theorem fi7_0 : fieldT Tryd.prog 7 0 = some (0, 1, false) := by kernel_rfl
@[simp] theorem fi7_1 : fieldT Tryd.prog 7 1 = some (1, 1, false) := by kernel_rfl
@[simp] theorem fi7_2 : fieldT Tryd.prog 7 2 = some (2, 1, false) := by kernel_rfl
@[simp] theorem fi7_3 : fieldT Tryd.prog 7 3 = some (3, 1, false) := by kernel_rfl
@[simp] theorem pl7 : placesT Tryd.prog 7 = some [(0, 1), (1, 1), (2, 1), (3, 1)] := by kernel_rfl
@[simp] theorem sz8 : szOf Tryd.prog 8 = some 4 := by kernel_rfl
@[simp] theorem ag8 : aggT Tryd.prog 8 = some true := by kernel_rfl
@[simp] theorem un8 : unitT Tryd.prog 8 = some 4 := by kernel_rfl
theorem kd8 : kindT Tryd.prog 12 8 = some [.int .i64, .int .i64, .bool, .int .u8] := by kernel_rfl
theorem eqk8 : eqT Tryd.prog 8 8 = some (true, [.int .i64, .int .i64, .bool, .int .u8]) := by kernel_rfl
theorem eqg8 : (Tryd.prog).eqGuardType (Tryd.prog).depth 8 = false := by kernel_rfl
@[simp] theorem neqA8 (a0 b0 : Int) (a1 b1 : Int) (a2 b2 : Bool) (a3 b3 : Int) (K : Value → Prop) : aggBin Tryd.prog .neq 8 [.d (.s (.int .i64 a0)), .d (.s (.int .i64 a1)), .d (.s (.bool a2)), .d (.s (.int .u8 a3))] [.d (.s (.int .i64 b0)), .d (.s (.int .i64 b1)), .d (.s (.bool b2)), .d (.s (.int .u8 b3))] K = K (.bool (!(eqVs [.int .i64 a0, .int .i64 a1, .bool a2, .int .u8 a3] [.int .i64 b0, .int .i64 b1, .bool b2, .int .u8 b3]))) := agg_neq (xs := [.int .i64 a0, .int .i64 a1, .bool a2, .int .u8 a3]) (ys := [.int .i64 b0, .int .i64 b1, .bool b2, .int .u8 b3]) eqk8 (by decide) eqg8 rfl rfl K
@[simp] theorem eqlA8 (a0 b0 : Int) (a1 b1 : Int) (a2 b2 : Bool) (a3 b3 : Int) (K : Value → Prop) : aggBin Tryd.prog .eql 8 [.d (.s (.int .i64 a0)), .d (.s (.int .i64 a1)), .d (.s (.bool a2)), .d (.s (.int .u8 a3))] [.d (.s (.int .i64 b0)), .d (.s (.int .i64 b1)), .d (.s (.bool b2)), .d (.s (.int .u8 b3))] K = K (.bool ((eqVs [.int .i64 a0, .int .i64 a1, .bool a2, .int .u8 a3] [.int .i64 b0, .int .i64 b1, .bool b2, .int .u8 b3]))) := agg_eql (xs := [.int .i64 a0, .int .i64 a1, .bool a2, .int .u8 a3]) (ys := [.int .i64 b0, .int .i64 b1, .bool b2, .int .u8 b3]) eqk8 (by decide) eqg8 rfl rfl K
@[simp] theorem ze8 : zeroT Tryd.prog 8 = some [.d (.s (.int .i64 0)), .d (.s (.int .i64 0)), .d (.s (.bool false)), .d (.s (.int .u8 0))] := by kernel_rfl
@[simp] theorem fi8_0 : fieldT Tryd.prog 8 0 = some (0, 1, false) := by kernel_rfl
@[simp] theorem fi8_1 : fieldT Tryd.prog 8 1 = some (1, 1, false) := by kernel_rfl
@[simp] theorem fi8_2 : fieldT Tryd.prog 8 2 = some (2, 1, false) := by kernel_rfl
@[simp] theorem fi8_3 : fieldT Tryd.prog 8 3 = some (3, 1, false) := by kernel_rfl
@[simp] theorem pl8 : placesT Tryd.prog 8 = some [(0, 1), (1, 1), (2, 1), (3, 1)] := by kernel_rfl
@[simp] theorem sz9 : szOf Tryd.prog 9 = some 1 := by kernel_rfl
@[simp] theorem ag9 : aggT Tryd.prog 9 = some false := by kernel_rfl
@[simp] theorem un9 : unitT Tryd.prog 9 = some 1 := by kernel_rfl
theorem kd9 : kindT Tryd.prog 12 9 = some [.str] := by kernel_rfl
@[simp] theorem ze9 : zeroT Tryd.prog 9 = some [.d (.s (.string ByteArray.empty))] := by kernel_rfl
@[simp] theorem sz10 : szOf Tryd.prog 10 = some 1 := by kernel_rfl
@[simp] theorem ag10 : aggT Tryd.prog 10 = some false := by kernel_rfl
@[simp] theorem un10 : unitT Tryd.prog 10 = some 1 := by kernel_rfl
theorem kd10 : kindT Tryd.prog 12 10 = some [.str] := by kernel_rfl
@[simp] theorem ze10 : zeroT Tryd.prog 10 = some [.d (.s (.string ByteArray.empty))] := by kernel_rfl
@[simp] theorem sz11 : szOf Tryd.prog 11 = some 1 := by kernel_rfl
@[simp] theorem ag11 : aggT Tryd.prog 11 = some false := by kernel_rfl
@[simp] theorem un11 : unitT Tryd.prog 11 = some 1 := by kernel_rfl
theorem kd11 : kindT Tryd.prog 12 11 = some [.str] := by kernel_rfl
@[simp] theorem ze11 : zeroT Tryd.prog 11 = some [.d (.s (.string ByteArray.empty))] := by kernel_rfl
@[simp] theorem sz12 : szOf Tryd.prog 12 = some 1 := by kernel_rfl
@[simp] theorem ag12 : aggT Tryd.prog 12 = some false := by kernel_rfl
@[simp] theorem un12 : unitT Tryd.prog 12 = some 1 := by kernel_rfl
theorem kd12 : kindT Tryd.prog 12 12 = some [.int .u64] := by kernel_rfl
@[simp] theorem ze12 : zeroT Tryd.prog 12 = some [.d (.s (.int .u64 0))] := by kernel_rfl
@[simp] theorem sz13 : szOf Tryd.prog 13 = some 2 := by kernel_rfl
@[simp] theorem ag13 : aggT Tryd.prog 13 = some true := by kernel_rfl
@[simp] theorem un13 : unitT Tryd.prog 13 = some 2 := by kernel_rfl
theorem kd13 : kindT Tryd.prog 12 13 = some [.str, .int .u64] := by kernel_rfl
@[simp] theorem ze13 : zeroT Tryd.prog 13 = some [.d (.s (.string ByteArray.empty)), .d (.s (.int .u64 0))] := by kernel_rfl
@[simp] theorem fi13_0 : fieldT Tryd.prog 13 0 = some (0, 1, false) := by kernel_rfl
@[simp] theorem fi13_1 : fieldT Tryd.prog 13 1 = some (1, 1, false) := by kernel_rfl
@[simp] theorem pl13 : placesT Tryd.prog 13 = some [(0, 1), (1, 1)] := by kernel_rfl
@[simp] theorem sz14 : szOf Tryd.prog 14 = some 2 := by kernel_rfl
@[simp] theorem ag14 : aggT Tryd.prog 14 = some true := by kernel_rfl
@[simp] theorem un14 : unitT Tryd.prog 14 = some 2 := by kernel_rfl
theorem kd14 : kindT Tryd.prog 12 14 = some [.str, .int .u64] := by kernel_rfl
@[simp] theorem ze14 : zeroT Tryd.prog 14 = some [.d (.s (.string ByteArray.empty)), .d (.s (.int .u64 0))] := by kernel_rfl
@[simp] theorem fi14_0 : fieldT Tryd.prog 14 0 = some (0, 1, false) := by kernel_rfl
@[simp] theorem fi14_1 : fieldT Tryd.prog 14 1 = some (1, 1, false) := by kernel_rfl
@[simp] theorem pl14 : placesT Tryd.prog 14 = some [(0, 1), (1, 1)] := by kernel_rfl
@[simp] theorem sz15 : szOf Tryd.prog 15 = some 1 := by kernel_rfl
@[simp] theorem ag15 : aggT Tryd.prog 15 = some false := by kernel_rfl
@[simp] theorem un15 : unitT Tryd.prog 15 = some 1 := by kernel_rfl
@[simp] theorem ze15 : zeroT Tryd.prog 15 = some [.d (.s (.pointer none))] := by kernel_rfl
@[simp] theorem sz16 : szOf Tryd.prog 16 = some 1 := by kernel_rfl
@[simp] theorem ag16 : aggT Tryd.prog 16 = some false := by kernel_rfl
@[simp] theorem un16 : unitT Tryd.prog 16 = some 1 := by kernel_rfl
@[simp] theorem ze16 : zeroT Tryd.prog 16 = some [.d (.s (.pointer none))] := by kernel_rfl
@[simp] theorem sz17 : szOf Tryd.prog 17 = some 1 := by kernel_rfl
@[simp] theorem ag17 : aggT Tryd.prog 17 = some false := by kernel_rfl
@[simp] theorem un17 : unitT Tryd.prog 17 = some 1 := by kernel_rfl
@[simp] theorem ze17 : zeroT Tryd.prog 17 = some [.d (.s (.pointer none))] := by kernel_rfl
@[simp] theorem sz18 : szOf Tryd.prog 18 = some 1 := by kernel_rfl
@[simp] theorem ag18 : aggT Tryd.prog 18 = some true := by kernel_rfl
@[simp] theorem un18 : unitT Tryd.prog 18 = some 1 := by kernel_rfl
@[simp] theorem ze18 : zeroT Tryd.prog 18 = some [.d (.s (.pointer none))] := by kernel_rfl
@[simp] theorem fi18_0 : fieldT Tryd.prog 18 0 = some (0, 1, false) := by kernel_rfl
@[simp] theorem pl18 : placesT Tryd.prog 18 = some [(0, 1)] := by kernel_rfl
@[simp] theorem sz19 : szOf Tryd.prog 19 = some 1 := by kernel_rfl
@[simp] theorem ag19 : aggT Tryd.prog 19 = some true := by kernel_rfl
@[simp] theorem un19 : unitT Tryd.prog 19 = some 1 := by kernel_rfl
@[simp] theorem ze19 : zeroT Tryd.prog 19 = some [.d (.s (.pointer none))] := by kernel_rfl
@[simp] theorem fi19_0 : fieldT Tryd.prog 19 0 = some (0, 1, false) := by kernel_rfl
@[simp] theorem pl19 : placesT Tryd.prog 19 = some [(0, 1)] := by kernel_rfl
@[simp] theorem sz20 : szOf Tryd.prog 20 = some 1 := by kernel_rfl
@[simp] theorem ag20 : aggT Tryd.prog 20 = some false := by kernel_rfl
@[simp] theorem un20 : unitT Tryd.prog 20 = some 1 := by kernel_rfl
@[simp] theorem ze20 : zeroT Tryd.prog 20 = some [.d (.s .nilIface)] := by kernel_rfl
@[simp] theorem sz21 : szOf Tryd.prog 21 = some 1 := by kernel_rfl
@[simp] theorem ag21 : aggT Tryd.prog 21 = some false := by kernel_rfl
@[simp] theorem un21 : unitT Tryd.prog 21 = some 1 := by kernel_rfl
theorem kd21 : kindT Tryd.prog 12 21 = some [.int .i32] := by kernel_rfl
@[simp] theorem ze21 : zeroT Tryd.prog 21 = some [.d (.s (.int .i32 0))] := by kernel_rfl
@[simp] theorem sz22 : szOf Tryd.prog 22 = some 1 := by kernel_rfl
@[simp] theorem ag22 : aggT Tryd.prog 22 = some false := by kernel_rfl
@[simp] theorem un22 : unitT Tryd.prog 22 = some 1 := by kernel_rfl
theorem kd22 : kindT Tryd.prog 12 22 = some [.slice [.int .u8]] := by kernel_rfl
@[simp] theorem sl22 : sliceT Tryd.prog 22 = some (5, 1, 1) := by kernel_rfl
@[simp] theorem ze22 : zeroT Tryd.prog 22 = some [.d .nil] := by kernel_rfl
@[simp] theorem sz23 : szOf Tryd.prog 23 = some 1 := by kernel_rfl
@[simp] theorem ag23 : aggT Tryd.prog 23 = some false := by kernel_rfl
@[simp] theorem un23 : unitT Tryd.prog 23 = some 1 := by kernel_rfl
@[simp] theorem ze23 : zeroT Tryd.prog 23 = some [.d (.s .nilFunc)] := by kernel_rfl
@[simp] theorem sz24 : szOf Tryd.prog 24 = some 7 := by kernel_rfl
@[simp] theorem ag24 : aggT Tryd.prog 24 = some true := by kernel_rfl
@[simp] theorem un24 : unitT Tryd.prog 24 = some 7 := by kernel_rfl
theorem kd24 : kindT Tryd.prog 12 24 = some [.int .i64, .int .i64, .int .i64, .int .i64, .int .i64, .int .i64, .int .i64] := by kernel_rfl
theorem eqk24 : eqT Tryd.prog 8 24 = some (true, [.int .i64, .int .i64, .int .i64, .int .i64, .int .i64, .int .i64, .int .i64]) := by kernel_rfl
theorem eqg24 : (Tryd.prog).eqGuardType (Tryd.prog).depth 24 = false := by kernel_rfl
@[simp] theorem neqA24 (a0 b0 : Int) (a1 b1 : Int) (a2 b2 : Int) (a3 b3 : Int) (a4 b4 : Int) (a5 b5 : Int) (a6 b6 : Int) (K : Value → Prop) : aggBin Tryd.prog .neq 24 [.d (.s (.int .i64 a0)), .d (.s (.int .i64 a1)), .d (.s (.int .i64 a2)), .d (.s (.int .i64 a3)), .d (.s (.int .i64 a4)), .d (.s (.int .i64 a5)), .d (.s (.int .i64 a6))] [.d (.s (.int .i64 b0)), .d (.s (.int .i64 b1)), .d (.s (.int .i64 b2)), .d (.s (.int .i64 b3)), .d (.s (.int .i64 b4)), .d (.s (.int .i64 b5)), .d (.s (.int .i64 b6))] K = K (.bool (!(eqVs [.int .i64 a0, .int .i64 a1, .int .i64 a2, .int .i64 a3, .int .i64 a4, .int .i64 a5, .int .i64 a6] [.int .i64 b0, .int .i64 b1, .int .i64 b2, .int .i64 b3, .int .i64 b4, .int .i64 b5, .int .i64 b6]))) := agg_neq (xs := [.int .i64 a0, .int .i64 a1, .int .i64 a2, .int .i64 a3, .int .i64 a4, .int .i64 a5, .int .i64 a6]) (ys := [.int .i64 b0, .int .i64 b1, .int .i64 b2, .int .i64 b3, .int .i64 b4, .int .i64 b5, .int .i64 b6]) eqk24 (by decide) eqg24 rfl rfl K
@[simp] theorem eqlA24 (a0 b0 : Int) (a1 b1 : Int) (a2 b2 : Int) (a3 b3 : Int) (a4 b4 : Int) (a5 b5 : Int) (a6 b6 : Int) (K : Value → Prop) : aggBin Tryd.prog .eql 24 [.d (.s (.int .i64 a0)), .d (.s (.int .i64 a1)), .d (.s (.int .i64 a2)), .d (.s (.int .i64 a3)), .d (.s (.int .i64 a4)), .d (.s (.int .i64 a5)), .d (.s (.int .i64 a6))] [.d (.s (.int .i64 b0)), .d (.s (.int .i64 b1)), .d (.s (.int .i64 b2)), .d (.s (.int .i64 b3)), .d (.s (.int .i64 b4)), .d (.s (.int .i64 b5)), .d (.s (.int .i64 b6))] K = K (.bool ((eqVs [.int .i64 a0, .int .i64 a1, .int .i64 a2, .int .i64 a3, .int .i64 a4, .int .i64 a5, .int .i64 a6] [.int .i64 b0, .int .i64 b1, .int .i64 b2, .int .i64 b3, .int .i64 b4, .int .i64 b5, .int .i64 b6]))) := agg_eql (xs := [.int .i64 a0, .int .i64 a1, .int .i64 a2, .int .i64 a3, .int .i64 a4, .int .i64 a5, .int .i64 a6]) (ys := [.int .i64 b0, .int .i64 b1, .int .i64 b2, .int .i64 b3, .int .i64 b4, .int .i64 b5, .int .i64 b6]) eqk24 (by decide) eqg24 rfl rfl K
@[simp] theorem ze24 : zeroT Tryd.prog 24 = some [.d (.s (.int .i64 0)), .d (.s (.int .i64 0)), .d (.s (.int .i64 0)), .d (.s (.int .i64 0)), .d (.s (.int .i64 0)), .d (.s (.int .i64 0)), .d (.s (.int .i64 0))] := by kernel_rfl
@[simp] theorem fi24_0 : fieldT Tryd.prog 24 0 = some (0, 1, false) := by kernel_rfl
@[simp] theorem fi24_1 : fieldT Tryd.prog 24 1 = some (1, 1, false) := by kernel_rfl
@[simp] theorem fi24_2 : fieldT Tryd.prog 24 2 = some (2, 1, false) := by kernel_rfl
@[simp] theorem fi24_3 : fieldT Tryd.prog 24 3 = some (3, 1, false) := by kernel_rfl
@[simp] theorem fi24_4 : fieldT Tryd.prog 24 4 = some (4, 1, false) := by kernel_rfl
@[simp] theorem fi24_5 : fieldT Tryd.prog 24 5 = some (5, 1, false) := by kernel_rfl
@[simp] theorem fi24_6 : fieldT Tryd.prog 24 6 = some (6, 1, false) := by kernel_rfl
@[simp] theorem pl24 : placesT Tryd.prog 24 = some [(0, 1), (1, 1), (2, 1), (3, 1), (4, 1), (5, 1), (6, 1)] := by kernel_rfl
@[simp] theorem sz25 : szOf Tryd.prog 25 = some 7 := by kernel_rfl
@[simp] theorem ag25 : aggT Tryd.prog 25 = some true := by kernel_rfl
@[simp] theorem un25 : unitT Tryd.prog 25 = some 7 := by kernel_rfl
theorem kd25 : kindT Tryd.prog 12 25 = some [.int .i64, .int .i64, .int .i64, .int .i64, .int .i64, .int .i64, .int .i64] := by kernel_rfl
theorem eqk25 : eqT Tryd.prog 8 25 = some (true, [.int .i64, .int .i64, .int .i64, .int .i64, .int .i64, .int .i64, .int .i64]) := by kernel_rfl
theorem eqg25 : (Tryd.prog).eqGuardType (Tryd.prog).depth 25 = false := by kernel_rfl
@[simp] theorem neqA25 (a0 b0 : Int) (a1 b1 : Int) (a2 b2 : Int) (a3 b3 : Int) (a4 b4 : Int) (a5 b5 : Int) (a6 b6 : Int) (K : Value → Prop) : aggBin Tryd.prog .neq 25 [.d (.s (.int .i64 a0)), .d (.s (.int .i64 a1)), .d (.s (.int .i64 a2)), .d (.s (.int .i64 a3)), .d (.s (.int .i64 a4)), .d (.s (.int .i64 a5)), .d (.s (.int .i64 a6))] [.d (.s (.int .i64 b0)), .d (.s (.int .i64 b1)), .d (.s (.int .i64 b2)), .d (.s (.int .i64 b3)), .d (.s (.int .i64 b4)), .d (.s (.int .i64 b5)), .d (.s (.int .i64 b6))] K = K (.bool (!(eqVs [.int .i64 a0, .int .i64 a1, .int .i64 a2, .int .i64 a3, .int .i64 a4, .int .i64 a5, .int .i64 a6] [.int .i64 b0, .int .i64 b1, .int .i64 b2, .int .i64 b3, .int .i64 b4, .int .i64 b5, .int .i64 b6]))) := agg_neq (xs := [.int .i64 a0, .int .i64 a1, .int .i64 a2, .int .i64 a3, .int .i64 a4, .int .i64 a5, .int .i64 a6]) (ys := [.int .i64 b0, .int .i64 b1, .int .i64 b2, .int .i64 b3, .int .i64 b4, .int .i64 b5, .int .i64 b6]) eqk25 (by decide) eqg25 rfl rfl K
@[simp] theorem eqlA25 (a0 b0 : Int) (a1 b1 : Int) (a2 b2 : Int) (a3 b3 : Int) (a4 b4 : Int) (a5 b5 : Int) (a6 b6 : Int) (K : Value → Prop) : aggBin Tryd.prog .eql 25 [.d (.s (.int .i64 a0)), .d (.s (.int .i64 a1)), .d (.s (.int .i64 a2)), .d (.s (.int .i64 a3)), .d (.s (.int .i64 a4)), .d (.s (.int .i64 a5)), .d (.s (.int .i64 a6))] [.d (.s (.int .i64 b0)), .d (.s (.int .i64 b1)), .d (.s (.int .i64 b2)), .d (.s (.int .i64 b3)), .d (.s (.int .i64 b4)), .d (.s (.int .i64 b5)), .d (.s (.int .i64 b6))] K = K (.bool ((eqVs [.int .i64 a0, .int .i64 a1, .int .i64 a2, .int .i64 a3, .int .i64 a4, .int .i64 a5, .int .i64 a6] [.int .i64 b0, .int .i64 b1, .int .i64 b2, .int .i64 b3, .int .i64 b4, .int .i64 b5, .int .i64 b6]))) := agg_eql (xs := [.int .i64 a0, .int .i64 a1, .int .i64 a2, .int .i64 a3, .int .i64 a4, .int .i64 a5, .int .i64 a6]) (ys := [.int .i64 b0, .int .i64 b1, .int .i64 b2, .int .i64 b3, .int .i64 b4, .int .i64 b5, .int .i64 b6]) eqk25 (by decide) eqg25 rfl rfl K
@[simp] theorem ze25 : zeroT Tryd.prog 25 = some [.d (.s (.int .i64 0)), .d (.s (.int .i64 0)), .d (.s (.int .i64 0)), .d (.s (.int .i64 0)), .d (.s (.int .i64 0)), .d (.s (.int .i64 0)), .d (.s (.int .i64 0))] := by kernel_rfl
@[simp] theorem fi25_0 : fieldT Tryd.prog 25 0 = some (0, 1, false) := by kernel_rfl
@[simp] theorem fi25_1 : fieldT Tryd.prog 25 1 = some (1, 1, false) := by kernel_rfl
@[simp] theorem fi25_2 : fieldT Tryd.prog 25 2 = some (2, 1, false) := by kernel_rfl
@[simp] theorem fi25_3 : fieldT Tryd.prog 25 3 = some (3, 1, false) := by kernel_rfl
@[simp] theorem fi25_4 : fieldT Tryd.prog 25 4 = some (4, 1, false) := by kernel_rfl
@[simp] theorem fi25_5 : fieldT Tryd.prog 25 5 = some (5, 1, false) := by kernel_rfl
@[simp] theorem fi25_6 : fieldT Tryd.prog 25 6 = some (6, 1, false) := by kernel_rfl
@[simp] theorem pl25 : placesT Tryd.prog 25 = some [(0, 1), (1, 1), (2, 1), (3, 1), (4, 1), (5, 1), (6, 1)] := by kernel_rfl
@[simp] theorem sz26 : szOf Tryd.prog 26 = some 10 := by kernel_rfl
@[simp] theorem ag26 : aggT Tryd.prog 26 = some true := by kernel_rfl
@[simp] theorem un26 : unitT Tryd.prog 26 = some 10 := by kernel_rfl
theorem kd26 : kindT Tryd.prog 12 26 = some [.int .i64, .int .i64, .int .i64, .int .i64, .int .i64, .int .i64, .int .i64, .int .i64, .int .i64, .int .i64] := by kernel_rfl
theorem eqk26 : eqT Tryd.prog 8 26 = some (true, [.int .i64, .int .i64, .int .i64, .int .i64, .int .i64, .int .i64, .int .i64, .int .i64, .int .i64, .int .i64]) := by kernel_rfl
theorem eqg26 : (Tryd.prog).eqGuardType (Tryd.prog).depth 26 = false := by kernel_rfl
@[simp] theorem neqA26 (a0 b0 : Int) (a1 b1 : Int) (a2 b2 : Int) (a3 b3 : Int) (a4 b4 : Int) (a5 b5 : Int) (a6 b6 : Int) (a7 b7 : Int) (a8 b8 : Int) (a9 b9 : Int) (K : Value → Prop) : aggBin Tryd.prog .neq 26 [.d (.s (.int .i64 a0)), .d (.s (.int .i64 a1)), .d (.s (.int .i64 a2)), .d (.s (.int .i64 a3)), .d (.s (.int .i64 a4)), .d (.s (.int .i64 a5)), .d (.s (.int .i64 a6)), .d (.s (.int .i64 a7)), .d (.s (.int .i64 a8)), .d (.s (.int .i64 a9))] [.d (.s (.int .i64 b0)), .d (.s (.int .i64 b1)), .d (.s (.int .i64 b2)), .d (.s (.int .i64 b3)), .d (.s (.int .i64 b4)), .d (.s (.int .i64 b5)), .d (.s (.int .i64 b6)), .d (.s (.int .i64 b7)), .d (.s (.int .i64 b8)), .d (.s (.int .i64 b9))] K = K (.bool (!(eqVs [.int .i64 a0, .int .i64 a1, .int .i64 a2, .int .i64 a3, .int .i64 a4, .int .i64 a5, .int .i64 a6, .int .i64 a7, .int .i64 a8, .int .i64 a9] [.int .i64 b0, .int .i64 b1, .int .i64 b2, .int .i64 b3, .int .i64 b4, .int .i64 b5, .int .i64 b6, .int .i64 b7, .int .i64 b8, .int .i64 b9]))) := agg_neq (xs := [.int .i64 a0, .int .i64 a1, .int .i64 a2, .int .i64 a3, .int .i64 a4, .int .i64 a5, .int .i64 a6, .int .i64 a7, .int .i64 a8, .int .i64 a9]) (ys := [.int .i64 b0, .int .i64 b1, .int .i64 b2, .int .i64 b3, .int .i64 b4, .int .i64 b5, .int .i64 b6, .int .i64 b7, .int .i64 b8, .int .i64 b9]) eqk26 (by decide) eqg26 rfl rfl K
@[simp] theorem eqlA26 (a0 b0 : Int) (a1 b1 : Int) (a2 b2 : Int) (a3 b3 : Int) (a4 b4 : Int) (a5 b5 : Int) (a6 b6 : Int) (a7 b7 : Int) (a8 b8 : Int) (a9 b9 : Int) (K : Value → Prop) : aggBin Tryd.prog .eql 26 [.d (.s (.int .i64 a0)), .d (.s (.int .i64 a1)), .d (.s (.int .i64 a2)), .d (.s (.int .i64 a3)), .d (.s (.int .i64 a4)), .d (.s (.int .i64 a5)), .d (.s (.int .i64 a6)), .d (.s (.int .i64 a7)), .d (.s (.int .i64 a8)), .d (.s (.int .i64 a9))] [.d (.s (.int .i64 b0)), .d (.s (.int .i64 b1)), .d (.s (.int .i64 b2)), .d (.s (.int .i64 b3)), .d (.s (.int .i64 b4)), .d (.s (.int .i64 b5)), .d (.s (.int .i64 b6)), .d (.s (.int .i64 b7)), .d (.s (.int .i64 b8)), .d (.s (.int .i64 b9))] K = K (.bool ((eqVs [.int .i64 a0, .int .i64 a1, .int .i64 a2, .int .i64 a3, .int .i64 a4, .int .i64 a5, .int .i64 a6, .int .i64 a7, .int .i64 a8, .int .i64 a9] [.int .i64 b0, .int .i64 b1, .int .i64 b2, .int .i64 b3, .int .i64 b4, .int .i64 b5, .int .i64 b6, .int .i64 b7, .int .i64 b8, .int .i64 b9]))) := agg_eql (xs := [.int .i64 a0, .int .i64 a1, .int .i64 a2, .int .i64 a3, .int .i64 a4, .int .i64 a5, .int .i64 a6, .int .i64 a7, .int .i64 a8, .int .i64 a9]) (ys := [.int .i64 b0, .int .i64 b1, .int .i64 b2, .int .i64 b3, .int .i64 b4, .int .i64 b5, .int .i64 b6, .int .i64 b7, .int .i64 b8, .int .i64 b9]) eqk26 (by decide) eqg26 rfl rfl K
@[simp] theorem ze26 : zeroT Tryd.prog 26 = some [.d (.s (.int .i64 0)), .d (.s (.int .i64 0)), .d (.s (.int .i64 0)), .d (.s (.int .i64 0)), .d (.s (.int .i64 0)), .d (.s (.int .i64 0)), .d (.s (.int .i64 0)), .d (.s (.int .i64 0)), .d (.s (.int .i64 0)), .d (.s (.int .i64 0))] := by kernel_rfl
@[simp] theorem fi26_0 : fieldT Tryd.prog 26 0 = some (0, 1, false) := by kernel_rfl
@[simp] theorem fi26_1 : fieldT Tryd.prog 26 1 = some (1, 7, true) := by kernel_rfl
@[simp] theorem fi26_2 : fieldT Tryd.prog 26 2 = some (8, 1, false) := by kernel_rfl
@[simp] theorem fi26_3 : fieldT Tryd.prog 26 3 = some (9, 1, false) := by kernel_rfl
@[simp] theorem pl26 : placesT Tryd.prog 26 = some [(0, 1), (1, 7), (8, 1), (9, 1)] := by kernel_rfl
@[simp] theorem sz27 : szOf Tryd.prog 27 = some 10 := by kernel_rfl
@[simp] theorem ag27 : aggT Tryd.prog 27 = some true := by kernel_rfl
@[simp] theorem un27 : unitT Tryd.prog 27 = some 10 := by kernel_rfl
theorem kd27 : kindT Tryd.prog 12 27 = some [.int .i64, .int .i64, .int .i64, .int .i64, .int .i64, .int .i64, .int .i64, .int .i64, .int .i64, .int .i64] := by kernel_rfl
theorem eqk27 : eqT Tryd.prog 8 27 = some (true, [.int .i64, .int .i64, .int .i64, .int .i64, .int .i64, .int .i64, .int .i64, .int .i64, .int .i64, .int .i64]) := by kernel_rfl
theorem eqg27 : (Tryd.prog).eqGuardType (Tryd.prog).depth 27 = false := by kernel_rfl
@[simp] theorem neqA27 (a0 b0 : Int) (a1 b1 : Int) (a2 b2 : Int) (a3 b3 : Int) (a4 b4 : Int) (a5 b5 : Int) (a6 b6 : Int) (a7 b7 : Int) (a8 b8 : Int) (a9 b9 : Int) (K : Value → Prop) : aggBin Tryd.prog .neq 27 [.d (.s (.int .i64 a0)), .d (.s (.int .i64 a1)), .d (.s (.int .i64 a2)), .d (.s (.int .i64 a3)), .d (.s (.int .i64 a4)), .d (.s (.int .i64 a5)), .d (.s (.int .i64 a6)), .d (.s (.int .i64 a7)), .d (.s (.int .i64 a8)), .d (.s (.int .i64 a9))] [.d (.s (.int .i64 b0)), .d (.s (.int .i64 b1)), .d (.s (.int .i64 b2)), .d (.s (.int .i64 b3)), .d (.s (.int .i64 b4)), .d (.s (.int .i64 b5)), .d (.s (.int .i64 b6)), .d (.s (.int .i64 b7)), .d (.s (.int .i64 b8)), .d (.s (.int .i64 b9))] K = K (.bool (!(eqVs [.int .i64 a0, .int .i64 a1, .int .i64 a2, .int .i64 a3, .int .i64 a4, .int .i64 a5, .int .i64 a6, .int .i64 a7, .int .i64 a8, .int .i64 a9] [.int .i64 b0, .int .i64 b1, .int .i64 b2, .int .i64 b3, .int .i64 b4, .int .i64 b5, .int .i64 b6, .int .i64 b7, .int .i64 b8, .int .i64 b9]))) := agg_neq (xs := [.int .i64 a0, .int .i64 a1, .int .i64 a2, .int .i64 a3, .int .i64 a4, .int .i64 a5, .int .i64 a6, .int .i64 a7, .int .i64 a8, .int .i64 a9]) (ys := [.int .i64 b0, .int .i64 b1, .int .i64 b2, .int .i64 b3, .int .i64 b4, .int .i64 b5, .int .i64 b6, .int .i64 b7, .int .i64 b8, .int .i64 b9]) eqk27 (by decide) eqg27 rfl rfl K
@[simp] theorem eqlA27 (a0 b0 : Int) (a1 b1 : Int) (a2 b2 : Int) (a3 b3 : Int) (a4 b4 : Int) (a5 b5 : Int) (a6 b6 : Int) (a7 b7 : Int) (a8 b8 : Int) (a9 b9 : Int) (K : Value → Prop) : aggBin Tryd.prog .eql 27 [.d (.s (.int .i64 a0)), .d (.s (.int .i64 a1)), .d (.s (.int .i64 a2)), .d (.s (.int .i64 a3)), .d (.s (.int .i64 a4)), .d (.s (.int .i64 a5)), .d (.s (.int .i64 a6)), .d (.s (.int .i64 a7)), .d (.s (.int .i64 a8)), .d (.s (.int .i64 a9))] [.d (.s (.int .i64 b0)), .d (.s (.int .i64 b1)), .d (.s (.int .i64 b2)), .d (.s (.int .i64 b3)), .d (.s (.int .i64 b4)), .d (.s (.int .i64 b5)), .d (.s (.int .i64 b6)), .d (.s (.int .i64 b7)), .d (.s (.int .i64 b8)), .d (.s (.int .i64 b9))] K = K (.bool ((eqVs [.int .i64 a0, .int .i64 a1, .int .i64 a2, .int .i64 a3, .int .i64 a4, .int .i64 a5, .int .i64 a6, .int .i64 a7, .int .i64 a8, .int .i64 a9] [.int .i64 b0, .int .i64 b1, .int .i64 b2, .int .i64 b3, .int .i64 b4, .int .i64 b5, .int .i64 b6, .int .i64 b7, .int .i64 b8, .int .i64 b9]))) := agg_eql (xs := [.int .i64 a0, .int .i64 a1, .int .i64 a2, .int .i64 a3, .int .i64 a4, .int .i64 a5, .int .i64 a6, .int .i64 a7, .int .i64 a8, .int .i64 a9]) (ys := [.int .i64 b0, .int .i64 b1, .int .i64 b2, .int .i64 b3, .int .i64 b4, .int .i64 b5, .int .i64 b6, .int .i64 b7, .int .i64 b8, .int .i64 b9]) eqk27 (by decide) eqg27 rfl rfl K
@[simp] theorem ze27 : zeroT Tryd.prog 27 = some [.d (.s (.int .i64 0)), .d (.s (.int .i64 0)), .d (.s (.int .i64 0)), .d (.s (.int .i64 0)), .d (.s (.int .i64 0)), .d (.s (.int .i64 0)), .d (.s (.int .i64 0)), .d (.s (.int .i64 0)), .d (.s (.int .i64 0)), .d (.s (.int .i64 0))] := by kernel_rfl
@[simp] theorem fi27_0 : fieldT Tryd.prog 27 0 = some (0, 1, false) := by kernel_rfl
@[simp] theorem fi27_1 : fieldT Tryd.prog 27 1 = some (1, 7, true) := by kernel_rfl
@[simp] theorem fi27_2 : fieldT Tryd.prog 27 2 = some (8, 1, false) := by kernel_rfl
@[simp] theorem fi27_3 : fieldT Tryd.prog 27 3 = some (9, 1, false) := by kernel_rfl
@[simp] theorem pl27 : placesT Tryd.prog 27 = some [(0, 1), (1, 7), (8, 1), (9, 1)] := by kernel_rfl
@[simp] theorem sz28 : szOf Tryd.prog 28 = some 1 := by kernel_rfl
@[simp] theorem ag28 : aggT Tryd.prog 28 = some false := by kernel_rfl
@[simp] theorem un28 : unitT Tryd.prog 28 = some 1 := by kernel_rfl
@[simp] theorem ze28 : zeroT Tryd.prog 28 = some [.d (.s .nilFunc)] := by kernel_rfl
@[simp] theorem sz29 : szOf Tryd.prog 29 = some 2 := by kernel_rfl
@[simp] theorem ag29 : aggT Tryd.prog 29 = some true := by kernel_rfl
@[simp] theorem un29 : unitT Tryd.prog 29 = some 2 := by kernel_rfl
theorem kd29 : kindT Tryd.prog 12 29 = some [.int .i64, .slice [.int .u8]] := by kernel_rfl
@[simp] theorem ze29 : zeroT Tryd.prog 29 = some [.d (.s (.int .i64 0)), .d .nil] := by kernel_rfl
@[simp] theorem fi29_0 : fieldT Tryd.prog 29 0 = some (0, 1, false) := by kernel_rfl
@[simp] theorem fi29_1 : fieldT Tryd.prog 29 1 = some (1, 1, false) := by kernel_rfl
@[simp] theorem pl29 : placesT Tryd.prog 29 = some [(0, 1), (1, 1)] := by kernel_rfl
@[simp] theorem sz30 : szOf Tryd.prog 30 = some 2 := by kernel_rfl
@[simp] theorem ag30 : aggT Tryd.prog 30 = some true := by kernel_rfl
@[simp] theorem un30 : unitT Tryd.prog 30 = some 2 := by kernel_rfl
theorem kd30 : kindT Tryd.prog 12 30 = some [.int .i64, .slice [.int .u8]] := by kernel_rfl
@[simp] theorem ze30 : zeroT Tryd.prog 30 = some [.d (.s (.int .i64 0)), .d .nil] := by kernel_rfl
@[simp] theorem fi30_0 : fieldT Tryd.prog 30 0 = some (0, 1, false) := by kernel_rfl
@[simp] theorem fi30_1 : fieldT Tryd.prog 30 1 = some (1, 1, false) := by kernel_rfl
@[simp] theorem pl30 : placesT Tryd.prog 30 = some [(0, 1), (1, 1)] := by kernel_rfl
@[simp] theorem sz31 : szOf Tryd.prog 31 = some 1 := by kernel_rfl
@[simp] theorem ag31 : aggT Tryd.prog 31 = some false := by kernel_rfl
@[simp] theorem un31 : unitT Tryd.prog 31 = some 1 := by kernel_rfl
@[simp] theorem ze31 : zeroT Tryd.prog 31 = some [.d (.s .nilFunc)] := by kernel_rfl
@[simp] theorem sz32 : szOf Tryd.prog 32 = some 1 := by kernel_rfl
@[simp] theorem ag32 : aggT Tryd.prog 32 = some false := by kernel_rfl
@[simp] theorem un32 : unitT Tryd.prog 32 = some 1 := by kernel_rfl
@[simp] theorem ze32 : zeroT Tryd.prog 32 = some [.d (.s .nilFunc)] := by kernel_rfl
@[simp] theorem sz33 : szOf Tryd.prog 33 = some 11 := by kernel_rfl
@[simp] theorem ag33 : aggT Tryd.prog 33 = some true := by kernel_rfl
@[simp] theorem un33 : unitT Tryd.prog 33 = some 11 := by kernel_rfl
theorem kd33 : kindT Tryd.prog 12 33 = some [.int .i64, .int .i64, .int .i64, .int .i64, .int .i64, .int .i64, .int .i64, .int .i64, .int .i64, .int .i64, .int .i64] := by kernel_rfl
theorem eqk33 : eqT Tryd.prog 8 33 = some (true, [.int .i64, .int .i64, .int .i64, .int .i64, .int .i64, .int .i64, .int .i64, .int .i64, .int .i64, .int .i64, .int .i64]) := by kernel_rfl
theorem eqg33 : (Tryd.prog).eqGuardType (Tryd.prog).depth 33 = false := by kernel_rfl
@[simp] theorem neqA33 (a0 b0 : Int) (a1 b1 : Int) (a2 b2 : Int) (a3 b3 : Int) (a4 b4 : Int) (a5 b5 : Int) (a6 b6 : Int) (a7 b7 : Int) (a8 b8 : Int) (a9 b9 : Int) (a10 b10 : Int) (K : Value → Prop) : aggBin Tryd.prog .neq 33 [.d (.s (.int .i64 a0)), .d (.s (.int .i64 a1)), .d (.s (.int .i64 a2)), .d (.s (.int .i64 a3)), .d (.s (.int .i64 a4)), .d (.s (.int .i64 a5)), .d (.s (.int .i64 a6)), .d (.s (.int .i64 a7)), .d (.s (.int .i64 a8)), .d (.s (.int .i64 a9)), .d (.s (.int .i64 a10))] [.d (.s (.int .i64 b0)), .d (.s (.int .i64 b1)), .d (.s (.int .i64 b2)), .d (.s (.int .i64 b3)), .d (.s (.int .i64 b4)), .d (.s (.int .i64 b5)), .d (.s (.int .i64 b6)), .d (.s (.int .i64 b7)), .d (.s (.int .i64 b8)), .d (.s (.int .i64 b9)), .d (.s (.int .i64 b10))] K = K (.bool (!(eqVs [.int .i64 a0, .int .i64 a1, .int .i64 a2, .int .i64 a3, .int .i64 a4, .int .i64 a5, .int .i64 a6, .int .i64 a7, .int .i64 a8, .int .i64 a9, .int .i64 a10] [.int .i64 b0, .int .i64 b1, .int .i64 b2, .int .i64 b3, .int .i64 b4, .int .i64 b5, .int .i64 b6, .int .i64 b7, .int .i64 b8, .int .i64 b9, .int .i64 b10]))) := agg_neq (xs := [.int .i64 a0, .int .i64 a1, .int .i64 a2, .int .i64 a3, .int .i64 a4, .int .i64 a5, .int .i64 a6, .int .i64 a7, .int .i64 a8, .int .i64 a9, .int .i64 a10]) (ys := [.int .i64 b0, .int .i64 b1, .int .i64 b2, .int .i64 b3, .int .i64 b4, .int .i64 b5, .int .i64 b6, .int .i64 b7, .int .i64 b8, .int .i64 b9, .int .i64 b10]) eqk33 (by decide) eqg33 rfl rfl K
@[simp] theorem eqlA33 (a0 b0 : Int) (a1 b1 : Int) (a2 b2 : Int) (a3 b3 : Int) (a4 b4 : Int) (a5 b5 : Int) (a6 b6 : Int) (a7 b7 : Int) (a8 b8 : Int) (a9 b9 : Int) (a10 b10 : Int) (K : Value → Prop) : aggBin Tryd.prog .eql 33 [.d (.s (.int .i64 a0)), .d (.s (.int .i64 a1)), .d (.s (.int .i64 a2)), .d (.s (.int .i64 a3)), .d (.s (.int .i64 a4)), .d (.s (.int .i64 a5)), .d (.s (.int .i64 a6)), .d (.s (.int .i64 a7)), .d (.s (.int .i64 a8)), .d (.s (.int .i64 a9)), .d (.s (.int .i64 a10))] [.d (.s (.int .i64 b0)), .d (.s (.int .i64 b1)), .d (.s (.int .i64 b2)), .d (.s (.int .i64 b3)), .d (.s (.int .i64 b4)), .d (.s (.int .i64 b5)), .d (.s (.int .i64 b6)), .d (.s (.int .i64 b7)), .d (.s (.int .i64 b8)), .d (.s (.int .i64 b9)), .d (.s (.int .i64 b10))] K = K (.bool ((eqVs [.int .i64 a0, .int .i64 a1, .int .i64 a2, .int .i64 a3, .int .i64 a4, .int .i64 a5, .int .i64 a6, .int .i64 a7, .int .i64 a8, .int .i64 a9, .int .i64 a10] [.int .i64 b0, .int .i64 b1, .int .i64 b2, .int .i64 b3, .int .i64 b4, .int .i64 b5, .int .i64 b6, .int .i64 b7, .int .i64 b8, .int .i64 b9, .int .i64 b10]))) := agg_eql (xs := [.int .i64 a0, .int .i64 a1, .int .i64 a2, .int .i64 a3, .int .i64 a4, .int .i64 a5, .int .i64 a6, .int .i64 a7, .int .i64 a8, .int .i64 a9, .int .i64 a10]) (ys := [.int .i64 b0, .int .i64 b1, .int .i64 b2, .int .i64 b3, .int .i64 b4, .int .i64 b5, .int .i64 b6, .int .i64 b7, .int .i64 b8, .int .i64 b9, .int .i64 b10]) eqk33 (by decide) eqg33 rfl rfl K
@[simp] theorem ze33 : zeroT Tryd.prog 33 = some [.d (.s (.int .i64 0)), .d (.s (.int .i64 0)), .d (.s (.int .i64 0)), .d (.s (.int .i64 0)), .d (.s (.int .i64 0)), .d (.s (.int .i64 0)), .d (.s (.int .i64 0)), .d (.s (.int .i64 0)), .d (.s (.int .i64 0)), .d (.s (.int .i64 0)), .d (.s (.int .i64 0))] := by kernel_rfl
@[simp] theorem fi33_0 : fieldT Tryd.prog 33 0 = some (0, 1, false) := by kernel_rfl
@[simp] theorem fi33_1 : fieldT Tryd.prog 33 1 = some (1, 10, true) := by kernel_rfl
@[simp] theorem pl33 : placesT Tryd.prog 33 = some [(0, 1), (1, 10)] := by kernel_rfl
@[simp] theorem sz34 : szOf Tryd.prog 34 = some 11 := by kernel_rfl
@[simp] theorem ag34 : aggT Tryd.prog 34 = some true := by kernel_rfl
@[simp] theorem un34 : unitT Tryd.prog 34 = some 11 := by kernel_rfl
theorem kd34 : kindT Tryd.prog 12 34 = some [.int .i64, .int .i64, .int .i64, .int .i64, .int .i64, .int .i64, .int .i64, .int .i64, .int .i64, .int .i64, .int .i64] := by kernel_rfl
theorem eqk34 : eqT Tryd.prog 8 34 = some (true, [.int .i64, .int .i64, .int .i64, .int .i64, .int .i64, .int .i64, .int .i64, .int .i64, .int .i64, .int .i64, .int .i64]) := by kernel_rfl
theorem eqg34 : (Tryd.prog).eqGuardType (Tryd.prog).depth 34 = false := by kernel_rfl
@[simp] theorem neqA34 (a0 b0 : Int) (a1 b1 : Int) (a2 b2 : Int) (a3 b3 : Int) (a4 b4 : Int) (a5 b5 : Int) (a6 b6 : Int) (a7 b7 : Int) (a8 b8 : Int) (a9 b9 : Int) (a10 b10 : Int) (K : Value → Prop) : aggBin Tryd.prog .neq 34 [.d (.s (.int .i64 a0)), .d (.s (.int .i64 a1)), .d (.s (.int .i64 a2)), .d (.s (.int .i64 a3)), .d (.s (.int .i64 a4)), .d (.s (.int .i64 a5)), .d (.s (.int .i64 a6)), .d (.s (.int .i64 a7)), .d (.s (.int .i64 a8)), .d (.s (.int .i64 a9)), .d (.s (.int .i64 a10))] [.d (.s (.int .i64 b0)), .d (.s (.int .i64 b1)), .d (.s (.int .i64 b2)), .d (.s (.int .i64 b3)), .d (.s (.int .i64 b4)), .d (.s (.int .i64 b5)), .d (.s (.int .i64 b6)), .d (.s (.int .i64 b7)), .d (.s (.int .i64 b8)), .d (.s (.int .i64 b9)), .d (.s (.int .i64 b10))] K = K (.bool (!(eqVs [.int .i64 a0, .int .i64 a1, .int .i64 a2, .int .i64 a3, .int .i64 a4, .int .i64 a5, .int .i64 a6, .int .i64 a7, .int .i64 a8, .int .i64 a9, .int .i64 a10] [.int .i64 b0, .int .i64 b1, .int .i64 b2, .int .i64 b3, .int .i64 b4, .int .i64 b5, .int .i64 b6, .int .i64 b7, .int .i64 b8, .int .i64 b9, .int .i64 b10]))) := agg_neq (xs := [.int .i64 a0, .int .i64 a1, .int .i64 a2, .int .i64 a3, .int .i64 a4, .int .i64 a5, .int .i64 a6, .int .i64 a7, .int .i64 a8, .int .i64 a9, .int .i64 a10]) (ys := [.int .i64 b0, .int .i64 b1, .int .i64 b2, .int .i64 b3, .int .i64 b4, .int .i64 b5, .int .i64 b6, .int .i64 b7, .int .i64 b8, .int .i64 b9, .int .i64 b10]) eqk34 (by decide) eqg34 rfl rfl K
@[simp] theorem eqlA34 (a0 b0 : Int) (a1 b1 : Int) (a2 b2 : Int) (a3 b3 : Int) (a4 b4 : Int) (a5 b5 : Int) (a6 b6 : Int) (a7 b7 : Int) (a8 b8 : Int) (a9 b9 : Int) (a10 b10 : Int) (K : Value → Prop) : aggBin Tryd.prog .eql 34 [.d (.s (.int .i64 a0)), .d (.s (.int .i64 a1)), .d (.s (.int .i64 a2)), .d (.s (.int .i64 a3)), .d (.s (.int .i64 a4)), .d (.s (.int .i64 a5)), .d (.s (.int .i64 a6)), .d (.s (.int .i64 a7)), .d (.s (.int .i64 a8)), .d (.s (.int .i64 a9)), .d (.s (.int .i64 a10))] [.d (.s (.int .i64 b0)), .d (.s (.int .i64 b1)), .d (.s (.int .i64 b2)), .d (.s (.int .i64 b3)), .d (.s (.int .i64 b4)), .d (.s (.int .i64 b5)), .d (.s (.int .i64 b6)), .d (.s (.int .i64 b7)), .d (.s (.int .i64 b8)), .d (.s (.int .i64 b9)), .d (.s (.int .i64 b10))] K = K (.bool ((eqVs [.int .i64 a0, .int .i64 a1, .int .i64 a2, .int .i64 a3, .int .i64 a4, .int .i64 a5, .int .i64 a6, .int .i64 a7, .int .i64 a8, .int .i64 a9, .int .i64 a10] [.int .i64 b0, .int .i64 b1, .int .i64 b2, .int .i64 b3, .int .i64 b4, .int .i64 b5, .int .i64 b6, .int .i64 b7, .int .i64 b8, .int .i64 b9, .int .i64 b10]))) := agg_eql (xs := [.int .i64 a0, .int .i64 a1, .int .i64 a2, .int .i64 a3, .int .i64 a4, .int .i64 a5, .int .i64 a6, .int .i64 a7, .int .i64 a8, .int .i64 a9, .int .i64 a10]) (ys := [.int .i64 b0, .int .i64 b1, .int .i64 b2, .int .i64 b3, .int .i64 b4, .int .i64 b5, .int .i64 b6, .int .i64 b7, .int .i64 b8, .int .i64 b9, .int .i64 b10]) eqk34 (by decide) eqg34 rfl rfl K
@[simp] theorem ze34 : zeroT Tryd.prog 34 = some [.d (.s (.int .i64 0)), .d (.s (.int .i64 0)), .d (.s (.int .i64 0)), .d (.s (.int .i64 0)), .d (.s (.int .i64 0)), .d (.s (.int .i64 0)), .d (.s (.int .i64 0)), .d (.s (.int .i64 0)), .d (.s (.int .i64 0)), .d (.s (.int .i64 0)), .d (.s (.int .i64 0))] := by kernel_rfl
@[simp] theorem fi34_0 : fieldT Tryd.prog 34 0 = some (0, 1, false) := by kernel_rfl
@[simp] theorem fi34_1 : fieldT Tryd.prog 34 1 = some (1, 10, true) := by kernel_rfl
@[simp] theorem pl34 : placesT Tryd.prog 34 = some [(0, 1), (1, 10)] := by kernel_rfl
@[simp] theorem sz35 : szOf Tryd.prog 35 = some 1 := by kernel_rfl
@[simp] theorem ag35 : aggT Tryd.prog 35 = some false := by kernel_rfl
@[simp] theorem un35 : unitT Tryd.prog 35 = some 1 := by kernel_rfl
@[simp] theorem ze35 : zeroT Tryd.prog 35 = some [.d (.s .nilFunc)] := by kernel_rfl
@[simp] theorem sz36 : szOf Tryd.prog 36 = some 1 := by kernel_rfl
@[simp] theorem ag36 : aggT Tryd.prog 36 = some false := by kernel_rfl
@[simp] theorem un36 : unitT Tryd.prog 36 = some 1 := by kernel_rfl
@[simp] theorem ze36 : zeroT Tryd.prog 36 = some [.d (.s .nilFunc)] := by kernel_rfl
@[simp] theorem sz37 : szOf Tryd.prog 37 = some 1 := by kernel_rfl
@[simp] theorem ag37 : aggT Tryd.prog 37 = some false := by kernel_rfl
@[simp] theorem un37 : unitT Tryd.prog 37 = some 1 := by kernel_rfl
@[simp] theorem sz38 : szOf Tryd.prog 38 = some 1 := by kernel_rfl
@[simp] theorem ag38 : aggT Tryd.prog 38 = some false := by kernel_rfl
@[simp] theorem un38 : unitT Tryd.prog 38 = some 1 := by kernel_rfl
@[simp] theorem ze38 : zeroT Tryd.prog 38 = some [.d (.s .nilFunc)] := by kernel_rfl
@[simp] theorem sz39 : szOf Tryd.prog 39 = some 2 := by kernel_rfl
@[simp] theorem ag39 : aggT Tryd.prog 39 = some true := by kernel_rfl
@[simp] theorem un39 : unitT Tryd.prog 39 = some 2 := by kernel_rfl
theorem kd39 : kindT Tryd.prog 12 39 = some [.int .i64, .int .i64] := by kernel_rfl
theorem eqk39 : eqT Tryd.prog 8 39 = some (true, [.int .i64, .int .i64]) := by kernel_rfl
theorem eqg39 : (Tryd.prog).eqGuardType (Tryd.prog).depth 39 = false := by kernel_rfl
@[simp] theorem neqA39 (a0 b0 : Int) (a1 b1 : Int) (K : Value → Prop) : aggBin Tryd.prog .neq 39 [.d (.s (.int .i64 a0)), .d (.s (.int .i64 a1))] [.d (.s (.int .i64 b0)), .d (.s (.int .i64 b1))] K = K (.bool (!(eqVs [.int .i64 a0, .int .i64 a1] [.int .i64 b0, .int .i64 b1]))) := agg_neq (xs := [.int .i64 a0, .int .i64 a1]) (ys := [.int .i64 b0, .int .i64 b1]) eqk39 (by decide) eqg39 rfl rfl K
@[simp] theorem eqlA39 (a0 b0 : Int) (a1 b1 : Int) (K : Value → Prop) : aggBin Tryd.prog .eql 39 [.d (.s (.int .i64 a0)), .d (.s (.int .i64 a1))] [.d (.s (.int .i64 b0)), .d (.s (.int .i64 b1))] K = K (.bool ((eqVs [.int .i64 a0, .int .i64 a1] [.int .i64 b0, .int .i64 b1]))) := agg_eql (xs := [.int .i64 a0, .int .i64 a1]) (ys := [.int .i64 b0, .int .i64 b1]) eqk39 (by decide) eqg39 rfl rfl K
@[simp] theorem ze39 : zeroT Tryd.prog 39 = some [.d (.s (.int .i64 0)), .d (.s (.int .i64 0))] := by kernel_rfl
@[simp] theorem fi39_0 : fieldT Tryd.prog 39 0 = some (0, 1, false) := by kernel_rfl
@[simp] theorem fi39_1 : fieldT Tryd.prog 39 1 = some (1, 1, false) := by kernel_rfl
@[simp] theorem pl39 : placesT Tryd.prog 39 = some [(0, 1), (1, 1)] := by kernel_rfl
@[simp] theorem sz40 : szOf Tryd.prog 40 = some 2 := by kernel_rfl
@[simp] theorem ag40 : aggT Tryd.prog 40 = some true := by kernel_rfl
@[simp] theorem un40 : unitT Tryd.prog 40 = some 2 := by kernel_rfl
theorem kd40 : kindT Tryd.prog 12 40 = some [.int .i64, .int .i64] := by kernel_rfl
theorem eqk40 : eqT Tryd.prog 8 40 = some (true, [.int .i64, .int .i64]) := by kernel_rfl
theorem eqg40 : (Tryd.prog).eqGuardType (Tryd.prog).depth 40 = false := by kernel_rfl
@[simp] theorem neqA40 (a0 b0 : Int) (a1 b1 : Int) (K : Value → Prop) : aggBin Tryd.prog .neq 40 [.d (.s (.int .i64 a0)), .d (.s (.int .i64 a1))] [.d (.s (.int .i64 b0)), .d (.s (.int .i64 b1))] K = K (.bool (!(eqVs [.int .i64 a0, .int .i64 a1] [.int .i64 b0, .int .i64 b1]))) := agg_neq (xs := [.int .i64 a0, .int .i64 a1]) (ys := [.int .i64 b0, .int .i64 b1]) eqk40 (by decide) eqg40 rfl rfl K
@[simp] theorem eqlA40 (a0 b0 : Int) (a1 b1 : Int) (K : Value → Prop) : aggBin Tryd.prog .eql 40 [.d (.s (.int .i64 a0)), .d (.s (.int .i64 a1))] [.d (.s (.int .i64 b0)), .d (.s (.int .i64 b1))] K = K (.bool ((eqVs [.int .i64 a0, .int .i64 a1] [.int .i64 b0, .int .i64 b1]))) := agg_eql (xs := [.int .i64 a0, .int .i64 a1]) (ys := [.int .i64 b0, .int .i64 b1]) eqk40 (by decide) eqg40 rfl rfl K
@[simp] theorem ze40 : zeroT Tryd.prog 40 = some [.d (.s (.int .i64 0)), .d (.s (.int .i64 0))] := by kernel_rfl
@[simp] theorem fi40_0 : fieldT Tryd.prog 40 0 = some (0, 1, false) := by kernel_rfl
@[simp] theorem fi40_1 : fieldT Tryd.prog 40 1 = some (1, 1, false) := by kernel_rfl
@[simp] theorem pl40 : placesT Tryd.prog 40 = some [(0, 1), (1, 1)] := by kernel_rfl
@[simp] theorem sz41 : szOf Tryd.prog 41 = some 1 := by kernel_rfl
@[simp] theorem ag41 : aggT Tryd.prog 41 = some false := by kernel_rfl
@[simp] theorem un41 : unitT Tryd.prog 41 = some 1 := by kernel_rfl
@[simp] theorem ze41 : zeroT Tryd.prog 41 = some [.d (.s .nilFunc)] := by kernel_rfl
@[simp] theorem sz42 : szOf Tryd.prog 42 = some 1 := by kernel_rfl
@[simp] theorem ag42 : aggT Tryd.prog 42 = some false := by kernel_rfl
@[simp] theorem un42 : unitT Tryd.prog 42 = some 1 := by kernel_rfl
@[simp] theorem ze42 : zeroT Tryd.prog 42 = some [.d (.s .nilFunc)] := by kernel_rfl
@[simp] theorem sz43 : szOf Tryd.prog 43 = some 1 := by kernel_rfl
@[simp] theorem ag43 : aggT Tryd.prog 43 = some false := by kernel_rfl
@[simp] theorem un43 : unitT Tryd.prog 43 = some 1 := by kernel_rfl
@[simp] theorem ze43 : zeroT Tryd.prog 43 = some [.d (.s .nilFunc)] := by kernel_rfl
@[simp] theorem sz44 : szOf Tryd.prog 44 = some 1 := by kernel_rfl
@[simp] theorem ag44 : aggT Tryd.prog 44 = some false := by kernel_rfl
@[simp] theorem un44 : unitT Tryd.prog 44 = some 1 := by kernel_rfl
@[simp] theorem ze44 : zeroT Tryd.prog 44 = some [.d (.s .nilFunc)] := by kernel_rfl
@[simp] theorem sz45 : szOf Tryd.prog 45 = some 1 := by kernel_rfl
@[simp] theorem ag45 : aggT Tryd.prog 45 = some false := by kernel_rfl
@[simp] theorem un45 : unitT Tryd.prog 45 = some 1 := by kernel_rfl
@[simp] theorem ze45 : zeroT Tryd.prog 45 = some [.d (.s .nilFunc)] := by kernel_rfl
@[simp] theorem sz46 : szOf Tryd.prog 46 = some 1 := by kernel_rfl
@[simp] theorem ag46 : aggT Tryd.prog 46 = some false := by kernel_rfl
@[simp] theorem un46 : unitT Tryd.prog 46 = some 1 := by kernel_rfl
theorem kd46 : kindT Tryd.prog 12 46 = some [.slice [.int .i64, .int .i64, .int .i64, .int .i64, .int .i64, .int .i64, .int .i64]] := by kernel_rfl
@[simp] theorem sl46 : sliceT Tryd.prog 46 = some (50, 7, 56) := by kernel_rfl
@[simp] theorem ze46 : zeroT Tryd.prog 46 = some [.d .nil] := by kernel_rfl
@[simp] theorem sz47 : szOf Tryd.prog 47 = some 1 := by kernel_rfl
@[simp] theorem ag47 : aggT Tryd.prog 47 = some false := by kernel_rfl
@[simp] theorem un47 : unitT Tryd.prog 47 = some 1 := by kernel_rfl
theorem kd47 : kindT Tryd.prog 12 47 = some [.slice [.int .i64, .bool, .int .i64, .int .i64, .int .i64, .int .i64, .int .i64, .int .i64, .int .i64]] := by kernel_rfl
@[simp] theorem sl47 : sliceT Tryd.prog 47 = some (124, 9, 72) := by kernel_rfl
@[simp] theorem ze47 : zeroT Tryd.prog 47 = some [.d .nil] := by kernel_rfl
@[simp] theorem sz48 : szOf Tryd.prog 48 = some 3 := by kernel_rfl
@[simp] theorem ag48 : aggT Tryd.prog 48 = some true := by kernel_rfl
@[simp] theorem un48 : unitT Tryd.prog 48 = some 3 := by kernel_rfl
theorem kd48 : kindT Tryd.prog 12 48 = some [.int .i64, .slice [.int .i64, .int .i64, .int .i64, .int .i64, .int .i64, .int .i64, .int .i64], .slice [.int .i64, .bool, .int .i64, .int .i64, .int .i64, .int .i64, .int .i64, .int .i64, .int .i64]] := by kernel_rfl
@[simp] theorem ze48 : zeroT Tryd.prog 48 = some [.d (.s (.int .i64 0)), .d .nil, .d .nil] := by kernel_rfl
@[simp] theorem fi48_0 : fieldT Tryd.prog 48 0 = some (0, 1, false) := by kernel_rfl
@[simp] theorem fi48_1 : fieldT Tryd.prog 48 1 = some (1, 1, false) := by kernel_rfl
@[simp] theorem fi48_2 : fieldT Tryd.prog 48 2 = some (2, 1, false) := by kernel_rfl
@[simp] theorem pl48 : placesT Tryd.prog 48 = some [(0, 1), (1, 1), (2, 1)] := by kernel_rfl
@[simp] theorem sz49 : szOf Tryd.prog 49 = some 3 := by kernel_rfl
@[simp] theorem ag49 : aggT Tryd.prog 49 = some true := by kernel_rfl
@[simp] theorem un49 : unitT Tryd.prog 49 = some 3 := by kernel_rfl
theorem kd49 : kindT Tryd.prog 12 49 = some [.int .i64, .slice [.int .i64, .int .i64, .int .i64, .int .i64, .int .i64, .int .i64, .int .i64], .slice [.int .i64, .bool, .int .i64, .int .i64, .int .i64, .int .i64, .int .i64, .int .i64, .int .i64]] := by kernel_rfl
@[simp] theorem ze49 : zeroT Tryd.prog 49 = some [.d (.s (.int .i64 0)), .d .nil, .d .nil] := by kernel_rfl
@[simp] theorem fi49_0 : fieldT Tryd.prog 49 0 = some (0, 1, false) := by kernel_rfl
@[simp] theorem fi49_1 : fieldT Tryd.prog 49 1 = some (1, 1, false) := by kernel_rfl
@[simp] theorem fi49_2 : fieldT Tryd.prog 49 2 = some (2, 1, false) := by kernel_rfl
@[simp] theorem pl49 : placesT Tryd.prog 49 = some [(0, 1), (1, 1), (2, 1)] := by kernel_rfl
@[simp] theorem sz50 : szOf Tryd.prog 50 = some 7 := by kernel_rfl
@[simp] theorem ag50 : aggT Tryd.prog 50 = some true := by kernel_rfl
@[simp] theorem un50 : unitT Tryd.prog 50 = some 7 := by kernel_rfl
theorem kd50 : kindT Tryd.prog 12 50 = some [.int .i64, .int .i64, .int .i64, .int .i64, .int .i64, .int .i64, .int .i64] := by kernel_rfl
theorem eqk50 : eqT Tryd.prog 8 50 = some (true, [.int .i64, .int .i64, .int .i64, .int .i64, .int .i64, .int .i64, .int .i64]) := by kernel_rfl
theorem eqg50 : (Tryd.prog).eqGuardType (Tryd.prog).depth 50 = false := by kernel_rfl
@[simp] theorem neqA50 (a0 b0 : Int) (a1 b1 : Int) (a2 b2 : Int) (a3 b3 : Int) (a4 b4 : Int) (a5 b5 : Int) (a6 b6 : Int) (K : Value → Prop) : aggBin Tryd.prog .neq 50 [.d (.s (.int .i64 a0)), .d (.s (.int .i64 a1)), .d (.s (.int .i64 a2)), .d (.s (.int .i64 a3)), .d (.s (.int .i64 a4)), .d (.s (.int .i64 a5)), .d (.s (.int .i64 a6))] [.d (.s (.int .i64 b0)), .d (.s (.int .i64 b1)), .d (.s (.int .i64 b2)), .d (.s (.int .i64 b3)), .d (.s (.int .i64 b4)), .d (.s (.int .i64 b5)), .d (.s (.int .i64 b6))] K = K (.bool (!(eqVs [.int .i64 a0, .int .i64 a1, .int .i64 a2, .int .i64 a3, .int .i64 a4, .int .i64 a5, .int .i64 a6] [.int .i64 b0, .int .i64 b1, .int .i64 b2, .int .i64 b3, .int .i64 b4, .int .i64 b5, .int .i64 b6]))) := agg_neq (xs := [.int .i64 a0, .int .i64 a1, .int .i64 a2, .int .i64 a3, .int .i64 a4, .int .i64 a5, .int .i64 a6]) (ys := [.int .i64 b0, .int .i64 b1, .int .i64 b2, .int .i64 b3, .int .i64 b4, .int .i64 b5, .int .i64 b6]) eqk50 (by decide) eqg50 rfl rfl K
@[simp] theorem eqlA50 (a0 b0 : Int) (a1 b1 : Int) (a2 b2 : Int) (a3 b3 : Int) (a4 b4 : Int) (a5 b5 : Int) (a6 b6 : Int) (K : Value → Prop) : aggBin Tryd.prog .eql 50 [.d (.s (.int .i64 a0)), .d (.s (.int .i64 a1)), .d (.s (.int .i64 a2)), .d (.s (.int .i64 a3)), .d (.s (.int .i64 a4)), .d (.s (.int .i64 a5)), .d (.s (.int .i64 a6))] [.d (.s (.int .i64 b0)), .d (.s (.int .i64 b1)), .d (.s (.int .i64 b2)), .d (.s (.int .i64 b3)), .d (.s (.int .i64 b4)), .d (.s (.int .i64 b5)), .d (.s (.int .i64 b6))] K = K (.bool ((eqVs [.int .i64 a0, .int .i64 a1, .int .i64 a2, .int .i64 a3, .int .i64 a4, .int .i64 a5, .int .i64 a6] [.int .i64 b0, .int .i64 b1, .int .i64 b2, .int .i64 b3, .int .i64 b4, .int .i64 b5, .int .i64 b6]))) := agg_eql (xs := [.int .i64 a0, .int .i64 a1, .int .i64 a2, .int .i64 a3, .int .i64 a4, .int .i64 a5, .int .i64 a6]) (ys := [.int .i64 b0, .int .i64 b1, .int .i64 b2, .int .i64 b3, .int .i64 b4, .int .i64 b5, .int .i64 b6]) eqk50 (by decide) eqg50 rfl rfl K
@[simp] theorem ze50 : zeroT Tryd.prog 50 = some [.d (.s (.int .i64 0)), .d (.s (.int .i64 0)), .d (.s (.int .i64 0)), .d (.s (.int .i64 0)), .d (.s (.int .i64 0)), .d (.s (.int .i64 0)), .d (.s (.int .i64 0))] := by kernel_rfl
@[simp] theorem fi50_0 : fieldT Tryd.prog 50 0 = some (0, 1, false) := by kernel_rfl
@[simp] theorem fi50_1 : fieldT Tryd.prog 50 1 = some (1, 1, false) := by kernel_rfl
@[simp] theorem fi50_2 : fieldT Tryd.prog 50 2 = some (2, 1, false) := by kernel_rfl
@[simp] theorem fi50_3 : fieldT Tryd.prog 50 3 = some (3, 1, false) := by kernel_rfl
@[simp] theorem fi50_4 : fieldT Tryd.prog 50 4 = some (4, 1, false) := by kernel_rfl
@[simp] theorem fi50_5 : fieldT Tryd.prog 50 5 = some (5, 1, false) := by kernel_rfl
@[simp] theorem fi50_6 : fieldT Tryd.prog 50 6 = some (6, 1, false) := by kernel_rfl
@[simp] theorem pl50 : placesT Tryd.prog 50 = some [(0, 1), (1, 1), (2, 1), (3, 1), (4, 1), (5, 1), (6, 1)] := by kernel_rfl
@[simp] theorem sz51 : szOf Tryd.prog 51 = some 10 := by kernel_rfl
@[simp] theorem ag51 : aggT Tryd.prog 51 = some true := by kernel_rfl
@[simp] theorem un51 : unitT Tryd.prog 51 = some 10 := by kernel_rfl
theorem kd51 : kindT Tryd.prog 12 51 = some [.int .i64, .int .i64, .int .i64, .int .i64, .int .i64, .int .i64, .int .i64, .int .i64, .int .i64, .int .i64] := by kernel_rfl
theorem eqk51 : eqT Tryd.prog 8 51 = some (true, [.int .i64, .int .i64, .int .i64, .int .i64, .int .i64, .int .i64, .int .i64, .int .i64, .int .i64, .int .i64]) := by kernel_rfl
theorem eqg51 : (Tryd.prog).eqGuardType (Tryd.prog).depth 51 = false := by kernel_rfl
@[simp] theorem neqA51 (a0 b0 : Int) (a1 b1 : Int) (a2 b2 : Int) (a3 b3 : Int) (a4 b4 : Int) (a5 b5 : Int) (a6 b6 : Int) (a7 b7 : Int) (a8 b8 : Int) (a9 b9 : Int) (K : Value → Prop) : aggBin Tryd.prog .neq 51 [.d (.s (.int .i64 a0)), .d (.s (.int .i64 a1)), .d (.s (.int .i64 a2)), .d (.s (.int .i64 a3)), .d (.s (.int .i64 a4)), .d (.s (.int .i64 a5)), .d (.s (.int .i64 a6)), .d (.s (.int .i64 a7)), .d (.s (.int .i64 a8)), .d (.s (.int .i64 a9))] [.d (.s (.int .i64 b0)), .d (.s (.int .i64 b1)), .d (.s (.int .i64 b2)), .d (.s (.int .i64 b3)), .d (.s (.int .i64 b4)), .d (.s (.int .i64 b5)), .d (.s (.int .i64 b6)), .d (.s (.int .i64 b7)), .d (.s (.int .i64 b8)), .d (.s (.int .i64 b9))] K = K (.bool (!(eqVs [.int .i64 a0, .int .i64 a1, .int .i64 a2, .int .i64 a3, .int .i64 a4, .int .i64 a5, .int .i64 a6, .int .i64 a7, .int .i64 a8, .int .i64 a9] [.int .i64 b0, .int .i64 b1, .int .i64 b2, .int .i64 b3, .int .i64 b4, .int .i64 b5, .int .i64 b6, .int .i64 b7, .int .i64 b8, .int .i64 b9]))) := agg_neq (xs := [.int .i64 a0, .int .i64 a1, .int .i64 a2, .int .i64 a3, .int .i64 a4, .int .i64 a5, .int .i64 a6, .int .i64 a7, .int .i64 a8, .int .i64 a9]) (ys := [.int .i64 b0, .int .i64 b1, .int .i64 b2, .int .i64 b3, .int .i64 b4, .int .i64 b5, .int .i64 b6, .int .i64 b7, .int .i64 b8, .int .i64 b9]) eqk51 (by decide) eqg51 rfl rfl K
@[simp] theorem eqlA51 (a0 b0 : Int) (a1 b1 : Int) (a2 b2 : Int) (a3 b3 : Int) (a4 b4 : Int) (a5 b5 : Int) (a6 b6 : Int) (a7 b7 : Int) (a8 b8 : Int) (a9 b9 : Int) (K : Value → Prop) : aggBin Tryd.prog .eql 51 [.d (.s (.int .i64 a0)), .d (.s (.int .i64 a1)), .d (.s (.int .i64 a2)), .d (.s (.int .i64 a3)), .d (.s (.int .i64 a4)), .d (.s (.int .i64 a5)), .d (.s (.int .i64 a6)), .d (.s (.int .i64 a7)), .d (.s (.int .i64 a8)), .d (.s (.int .i64 a9))] [.d (.s (.int .i64 b0)), .d (.s (.int .i64 b1)), .d (.s (.int .i64 b2)), .d (.s (.int .i64 b3)), .d (.s (.int .i64 b4)), .d (.s (.int .i64 b5)), .d (.s (.int .i64 b6)), .d (.s (.int .i64 b7)), .d (.s (.int .i64 b8)), .d (.s (.int .i64 b9))] K = K (.bool ((eqVs [.int .i64 a0, .int .i64 a1, .int .i64 a2, .int .i64 a3, .int .i64 a4, .int .i64 a5, .int .i64 a6, .int .i64 a7, .int .i64 a8, .int .i64 a9] [.int .i64 b0, .int .i64 b1, .int .i64 b2, .int .i64 b3, .int .i64 b4, .int .i64 b5, .int .i64 b6, .int .i64 b7, .int .i64 b8, .int .i64 b9]))) := agg_eql (xs := [.int .i64 a0, .int .i64 a1, .int .i64 a2, .int .i64 a3, .int .i64 a4, .int .i64 a5, .int .i64 a6, .int .i64 a7, .int .i64 a8, .int .i64 a9]) (ys := [.int .i64 b0, .int .i64 b1, .int .i64 b2, .int .i64 b3, .int .i64 b4, .int .i64 b5, .int .i64 b6, .int .i64 b7, .int .i64 b8, .int .i64 b9]) eqk51 (by decide) eqg51 rfl rfl K
@[simp] theorem ze51 : zeroT Tryd.prog 51 = some [.d (.s (.int .i64 0)), .d (.s (.int .i64 0)), .d (.s (.int .i64 0)), .d (.s (.int .i64 0)), .d (.s (.int .i64 0)), .d (.s (.int .i64 0)), .d (.s (.int .i64 0)), .d (.s (.int .i64 0)), .d (.s (.int .i64 0)), .d (.s (.int .i64 0))] := by kernel_rfl
@[simp] theorem fi51_0 : fieldT Tryd.prog 51 0 = some (0, 1, false) := by kernel_rfl
@[simp] theorem fi51_1 : fieldT Tryd.prog 51 1 = some (1, 7, true) := by kernel_rfl
@[simp] theorem fi51_2 : fieldT Tryd.prog 51 2 = some (8, 1, false) := by kernel_rfl
@[simp] theorem fi51_3 : fieldT Tryd.prog 51 3 = some (9, 1, false) := by kernel_rfl
@[simp] theorem pl51 : placesT Tryd.prog 51 = some [(0, 1), (1, 7), (8, 1), (9, 1)] := by kernel_rfl
@[simp] theorem sz52 : szOf Tryd.prog 52 = some 10 := by kernel_rfl
@[simp] theorem ag52 : aggT Tryd.prog 52 = some true := by kernel_rfl
@[simp] theorem un52 : unitT Tryd.prog 52 = some 10 := by kernel_rfl
theorem kd52 : kindT Tryd.prog 12 52 = some [.int .i64, .int .i64, .int .i64, .int .i64, .int .i64, .int .i64, .int .i64, .int .i64, .int .i64, .int .i64] := by kernel_rfl
theorem eqk52 : eqT Tryd.prog 8 52 = some (true, [.int .i64, .int .i64, .int .i64, .int .i64, .int .i64, .int .i64, .int .i64, .int .i64, .int .i64, .int .i64]) := by kernel_rfl
theorem eqg52 : (Tryd.prog).eqGuardType (Tryd.prog).depth 52 = false := by kernel_rfl
@[simp] theorem neqA52 (a0 b0 : Int) (a1 b1 : Int) (a2 b2 : Int) (a3 b3 : Int) (a4 b4 : Int) (a5 b5 : Int) (a6 b6 : Int) (a7 b7 : Int) (a8 b8 : Int) (a9 b9 : Int) (K : Value → Prop) : aggBin Tryd.prog .neq 52 [.d (.s (.int .i64 a0)), .d (.s (.int .i64 a1)), .d (.s (.int .i64 a2)), .d (.s (.int .i64 a3)), .d (.s (.int .i64 a4)), .d (.s (.int .i64 a5)), .d (.s (.int .i64 a6)), .d (.s (.int .i64 a7)), .d (.s (.int .i64 a8)), .d (.s (.int .i64 a9))] [.d (.s (.int .i64 b0)), .d (.s (.int .i64 b1)), .d (.s (.int .i64 b2)), .d (.s (.int .i64 b3)), .d (.s (.int .i64 b4)), .d (.s (.int .i64 b5)), .d (.s (.int .i64 b6)), .d (.s (.int .i64 b7)), .d (.s (.int .i64 b8)), .d (.s (.int .i64 b9))] K = K (.bool (!(eqVs [.int .i64 a0, .int .i64 a1, .int .i64 a2, .int .i64 a3, .int .i64 a4, .int .i64 a5, .int .i64 a6, .int .i64 a7, .int .i64 a8, .int .i64 a9] [.int .i64 b0, .int .i64 b1, .int .i64 b2, .int .i64 b3, .int .i64 b4, .int .i64 b5, .int .i64 b6, .int .i64 b7, .int .i64 b8, .int .i64 b9]))) := agg_neq (xs := [.int .i64 a0, .int .i64 a1, .int .i64 a2, .int .i64 a3, .int .i64 a4, .int .i64 a5, .int .i64 a6, .int .i64 a7, .int .i64 a8, .int .i64 a9]) (ys := [.int .i64 b0, .int .i64 b1, .int .i64 b2, .int .i64 b3, .int .i64 b4, .int .i64 b5, .int .i64 b6, .int .i64 b7, .int .i64 b8, .int .i64 b9]) eqk52 (by decide) eqg52 rfl rfl K
@[simp] theorem eqlA52 (a0 b0 : Int) (a1 b1 : Int) (a2 b2 : Int) (a3 b3 : Int) (a4 b4 : Int) (a5 b5 : Int) (a6 b6 : Int) (a7 b7 : Int) (a8 b8 : Int) (a9 b9 : Int) (K : Value → Prop) : aggBin Tryd.prog .eql 52 [.d (.s (.int .i64 a0)), .d (.s (.int .i64 a1)), .d (.s (.int .i64 a2)), .d (.s (.int .i64 a3)), .d (.s (.int .i64 a4)), .d (.s (.int .i64 a5)), .d (.s (.int .i64 a6)), .d (.s (.int .i64 a7)), .d (.s (.int .i64 a8)), .d (.s (.int .i64 a9))] [.d (.s (.int .i64 b0)), .d (.s (.int .i64 b1)), .d (.s (.int .i64 b2)), .d (.s (.int .i64 b3)), .d (.s (.int .i64 b4)), .d (.s (.int .i64 b5)), .d (.s (.int .i64 b6)), .d (.s (.int .i64 b7)), .d (.s (.int .i64 b8)), .d (.s (.int .i64 b9))] K = K (.bool ((eqVs [.int .i64 a0, .int .i64 a1, .int .i64 a2, .int .i64 a3, .int .i64 a4, .int .i64 a5, .int .i64 a6, .int .i64 a7, .int .i64 a8, .int .i64 a9] [.int .i64 b0, .int .i64 b1, .int .i64 b2, .int .i64 b3, .int .i64 b4, .int .i64 b5, .int .i64 b6, .int .i64 b7, .int .i64 b8, .int .i64 b9]))) := agg_eql (xs := [.int .i64 a0, .int .i64 a1, .int .i64 a2, .int .i64 a3, .int .i64 a4, .int .i64 a5, .int .i64 a6, .int .i64 a7, .int .i64 a8, .int .i64 a9]) (ys := [.int .i64 b0, .int .i64 b1, .int .i64 b2, .int .i64 b3, .int .i64 b4, .int .i64 b5, .int .i64 b6, .int .i64 b7, .int .i64 b8, .int .i64 b9]) eqk52 (by decide) eqg52 rfl rfl K
@[simp] theorem ze52 : zeroT Tryd.prog 52 = some [.d (.s (.int .i64 0)), .d (.s (.int .i64 0)), .d (.s (.int .i64 0)), .d (.s (.int .i64 0)), .d (.s (.int .i64 0)), .d (.s (.int .i64 0)), .d (.s (.int .i64 0)), .d (.s (.int .i64 0)), .d (.s (.int .i64 0)), .d (.s (.int .i64 0))] := by kernel_rfl
@[simp] theorem fi52_0 : fieldT Tryd.prog 52 0 = some (0, 1, false) := by kernel_rfl
@[simp] theorem fi52_1 : fieldT Tryd.prog 52 1 = some (1, 7, true) := by kernel_rfl
@[simp] theorem fi52_2 : fieldT Tryd.prog 52 2 = some (8, 1, false) := by kernel_rfl
@[simp] theorem fi52_3 : fieldT Tryd.prog 52 3 = some (9, 1, false) := by kernel_rfl
@[simp] theorem pl52 : placesT Tryd.prog 52 = some [(0, 1), (1, 7), (8, 1), (9, 1)] := by kernel_rfl
@[simp] theorem sz53 : szOf Tryd.prog 53 = some 1 := by kernel_rfl
@[simp] theorem ag53 : aggT Tryd.prog 53 = some false := by kernel_rfl
@[simp] theorem un53 : unitT Tryd.prog 53 = some 1 := by kernel_rfl
@[simp] theorem ze53 : zeroT Tryd.prog 53 = some [.d (.s .nilFunc)] := by kernel_rfl
@[simp] theorem sz54 : szOf Tryd.prog 54 = some 1 := by kernel_rfl
@[simp] theorem ag54 : aggT Tryd.prog 54 = some false := by kernel_rfl
@[simp] theorem un54 : unitT Tryd.prog 54 = some 1 := by kernel_rfl
@[simp] theorem ze54 : zeroT Tryd.prog 54 = some [.d (.s .nilFunc)] := by kernel_rfl
@[simp] theorem sz55 : szOf Tryd.prog 55 = some 1 := by kernel_rfl
@[simp] theorem ag55 : aggT Tryd.prog 55 = some false := by kernel_rfl
@[simp] theorem un55 : unitT Tryd.prog 55 = some 1 := by kernel_rfl
theorem kd55 : kindT Tryd.prog 12 55 = some [.slice [.int .i64, .int .i64, .int .i64, .int .i64, .int .i64, .int .i64, .int .i64]] := by kernel_rfl
@[simp] theorem sl55 : sliceT Tryd.prog 55 = some (25, 7, 56) := by kernel_rfl
@[simp] theorem ze55 : zeroT Tryd.prog 55 = some [.d .nil] := by kernel_rfl
@[simp] theorem sz56 : szOf Tryd.prog 56 = some 1 := by kernel_rfl
@[simp] theorem ag56 : aggT Tryd.prog 56 = some false := by kernel_rfl
@[simp] theorem un56 : unitT Tryd.prog 56 = some 1 := by kernel_rfl
theorem kd56 : kindT Tryd.prog 12 56 = some [.slice [.int .i64, .bool, .int .i64, .int .i64, .int .i64, .int .i64, .int .i64, .int .i64, .int .i64]] := by kernel_rfl
@[simp] theorem sl56 : sliceT Tryd.prog 56 = some (121, 9, 72) := by kernel_rfl
@[simp] theorem ze56 : zeroT Tryd.prog 56 = some [.d .nil] := by kernel_rfl
@[simp] theorem sz57 : szOf Tryd.prog 57 = some 3 := by kernel_rfl
@[simp] theorem ag57 : aggT Tryd.prog 57 = some true := by kernel_rfl
@[simp] theorem un57 : unitT Tryd.prog 57 = some 3 := by kernel_rfl
theorem kd57 : kindT Tryd.prog 12 57 = some [.int .i64, .slice [.int .i64, .int .i64, .int .i64, .int .i64, .int .i64, .int .i64, .int .i64], .slice [.int .i64, .bool, .int .i64, .int .i64, .int .i64, .int .i64, .int .i64, .int .i64, .int .i64]] := by kernel_rfl
@[simp] theorem ze57 : zeroT Tryd.prog 57 = some [.d (.s (.int .i64 0)), .d .nil, .d .nil] := by kernel_rfl
@[simp] theorem fi57_0 : fieldT Tryd.prog 57 0 = some (0, 1, false) := by kernel_rfl
@[simp] theorem fi57_1 : fieldT Tryd.prog 57 1 = some (1, 1, false) := by kernel_rfl
@[simp] theorem fi57_2 : fieldT Tryd.prog 57 2 = some (2, 1, false) := by kernel_rfl
@[simp] theorem pl57 : placesT Tryd.prog 57 = some [(0, 1), (1, 1), (2, 1)] := by kernel_rfl
@[simp] theorem sz58 : szOf Tryd.prog 58 = some 3 := by kernel_rfl
@[simp] theorem ag58 : aggT Tryd.prog 58 = some true := by kernel_rfl
@[simp] theorem un58 : unitT Tryd.prog 58 = some 3 := by kernel_rfl
theorem kd58 : kindT Tryd.prog 12 58 = some [.int .i64, .slice [.int .i64, .int .i64, .int .i64, .int .i64, .int .i64, .int .i64, .int .i64], .slice [.int .i64, .bool, .int .i64, .int .i64, .int .i64, .int .i64, .int .i64, .int .i64, .int .i64]] := by kernel_rfl
@[simp] theorem ze58 : zeroT Tryd.prog 58 = some [.d (.s (.int .i64 0)), .d .nil, .d .nil] := by kernel_rfl
@[simp] theorem fi58_0 : fieldT Tryd.prog 58 0 = some (0, 1, false) := by kernel_rfl
@[simp] theorem fi58_1 : fieldT Tryd.prog 58 1 = some (1, 1, false) := by kernel_rfl
@[simp] theorem fi58_2 : fieldT Tryd.prog 58 2 = some (2, 1, false) := by kernel_rfl
@[simp] theorem pl58 : placesT Tryd.prog 58 = some [(0, 1), (1, 1), (2, 1)] := by kernel_rfl
@[simp] theorem sz59 : szOf Tryd.prog 59 = some 1 := by kernel_rfl
@[simp] theorem ag59 : aggT Tryd.prog 59 = some false := by kernel_rfl
@[simp] theorem un59 : unitT Tryd.prog 59 = some 1 := by kernel_rfl
@[simp] theorem ze59 : zeroT Tryd.prog 59 = some [.d (.s .nilFunc)] := by kernel_rfl
@[simp] theorem sz60 : szOf Tryd.prog 60 = some 1 := by kernel_rfl
@[simp] theorem ag60 : aggT Tryd.prog 60 = some false := by kernel_rfl
@[simp] theorem un60 : unitT Tryd.prog 60 = some 1 := by kernel_rfl
@[simp] theorem ze60 : zeroT Tryd.prog 60 = some [.d (.s .nilFunc)] := by kernel_rfl
@[simp] theorem sz61 : szOf Tryd.prog 61 = some 1 := by kernel_rfl
@[simp] theorem ag61 : aggT Tryd.prog 61 = some false := by kernel_rfl
@[simp] theorem un61 : unitT Tryd.prog 61 = some 1 := by kernel_rfl
@[simp] theorem ze61 : zeroT Tryd.prog 61 = some [.d (.s .nilFunc)] := by kernel_rfl
@[simp] theorem sz62 : szOf Tryd.prog 62 = some 1 := by kernel_rfl
@[simp] theorem ag62 : aggT Tryd.prog 62 = some false := by kernel_rfl
@[simp] theorem un62 : unitT Tryd.prog 62 = some 1 := by kernel_rfl
@[simp] theorem ze62 : zeroT Tryd.prog 62 = some [.d (.s .nilFunc)] := by kernel_rfl
@[simp] theorem sz63 : szOf Tryd.prog 63 = some 9 := by kernel_rfl
@[simp] theorem ag63 : aggT Tryd.prog 63 = some true := by kernel_rfl
@[simp] theorem un63 : unitT Tryd.prog 63 = some 1 := by kernel_rfl
@[simp] theorem pl63 : placesT Tryd.prog 63 = some [(0, 1), (1, 1), (2, 1), (3, 1), (4, 1), (5, 1), (6, 1), (7, 1), (8, 1)] := by kernel_rfl
@[simp] theorem ar63 : arrT Tryd.prog 63 = some (9, 2, 1) := by kernel_rfl
@[simp] theorem sl63 : sliceT Tryd.prog 63 = none := by kernel_rfl
theorem kd63 : kindT Tryd.prog 12 63 = some [.int .i64, .int .i64, .int .i64, .int .i64, .int .i64, .int .i64, .int .i64, .int .i64, .int .i64] := by kernel_rfl
@[simp] theorem ze63 : zeroT Tryd.prog 63 = some [.d (.s (.int .i64 0)), .d (.s (.int .i64 0)), .d (.s (.int .i64 0)), .d (.s (.int .i64 0)), .d (.s (.int .i64 0)), .d (.s (.int .i64 0)), .d (.s (.int .i64 0)), .d (.s (.int .i64 0)), .d (.s (.int .i64 0))] := by kernel_rfl
@[simp] theorem sz64 : szOf Tryd.prog 64 = some 1 := by kernel_rfl
@[simp] theorem ag64 : aggT Tryd.prog 64 = some false := by kernel_rfl
@[simp] theorem un64 : unitT Tryd.prog 64 = some 1 := by kernel_rfl
@[simp] theorem ze64 : zeroT Tryd.prog 64 = some [.d (.s .nilFunc)] := by kernel_rfl
@[simp] theorem sz65 : szOf Tryd.prog 65 = some 17 := by kernel_rfl
@[simp] theorem ag65 : aggT Tryd.prog 65 = some true := by kernel_rfl
@[simp] theorem un65 : unitT Tryd.prog 65 = some 1 := by kernel_rfl
@[simp] theorem pl65 : placesT Tryd.prog 65 = some [(0, 1), (1, 1), (2, 1), (3, 1), (4, 1), (5, 1), (6, 1), (7, 1), (8, 1), (9, 1), (10, 1), (11, 1), (12, 1), (13, 1), (14, 1), (15, 1), (16, 1)] := by kernel_rfl
@[simp] theorem ar65 : arrT Tryd.prog 65 = some (17, 5, 1) := by kernel_rfl
@[simp] theorem sl65 : sliceT Tryd.prog 65 = none := by kernel_rfl
theorem kd65 : kindT Tryd.prog 12 65 = some [.int .u8, .int .u8, .int .u8, .int .u8, .int .u8, .int .u8, .int .u8, .int .u8, .int .u8, .int .u8, .int .u8, .int .u8, .int .u8, .int .u8, .int .u8, .int .u8, .int .u8] := by kernel_rfl
@[simp] theorem ze65 : zeroT Tryd.prog 65 = some [.d (.s (.int .u8 0)), .d (.s (.int .u8 0)), .d (.s (.int .u8 0)), .d (.s (.int .u8 0)), .d (.s (.int .u8 0)), .d (.s (.int .u8 0)), .d (.s (.int .u8 0)), .d (.s (.int .u8 0)), .d (.s (.int .u8 0)), .d (.s (.int .u8 0)), .d (.s (.int .u8 0)), .d (.s (.int .u8 0)), .d (.s (.int .u8 0)), .d (.s (.int .u8 0)), .d (.s (.int .u8 0)), .d (.s (.int .u8 0)), .d (.s (.int .u8 0))] := by kernel_rfl
@[simp] theorem sz66 : szOf Tryd.prog 66 = some 1 := by kernel_rfl
@[simp] theorem ag66 : aggT Tryd.prog 66 = some false := by kernel_rfl
@[simp] theorem un66 : unitT Tryd.prog 66 = some 1 := by kernel_rfl
@[simp] theorem ze66 : zeroT Tryd.prog 66 = some [.d (.s .nilFunc)] := by kernel_rfl
@[simp] theorem sz67 : szOf Tryd.prog 67 = some 1 := by kernel_rfl
@[simp] theorem ag67 : aggT Tryd.prog 67 = some false := by kernel_rfl
@[simp] theorem un67 : unitT Tryd.prog 67 = some 1 := by kernel_rfl
@[simp] theorem ze67 : zeroT Tryd.prog 67 = some [.d (.s (.pointer none))] := by kernel_rfl
@[simp] theorem sz68 : szOf Tryd.prog 68 = some 1 := by kernel_rfl
@[simp] theorem ag68 : aggT Tryd.prog 68 = some false := by kernel_rfl
@[simp] theorem un68 : unitT Tryd.prog 68 = some 1 := by kernel_rfl
@[simp] theorem ze68 : zeroT Tryd.prog 68 = some [.d (.s .nilFunc)] := by kernel_rfl
@[simp] theorem sz69 : szOf Tryd.prog 69 = some 1 := by kernel_rfl
@[simp] theorem ag69 : aggT Tryd.prog 69 = some false := by kernel_rfl
@[simp] theorem un69 : unitT Tryd.prog 69 = some 1 := by kernel_rfl
@[simp] theorem ze69 : zeroT Tryd.prog 69 = some [.d (.s .nilFunc)] := by kernel_rfl
@[simp] theorem sz70 : szOf Tryd.prog 70 = some 1 := by kernel_rfl
@[simp] theorem ag70 : aggT Tryd.prog 70 = some false := by kernel_rfl
@[simp] theorem un70 : unitT Tryd.prog 70 = some 1 := by kernel_rfl
@[simp] theorem ze70 : zeroT Tryd.prog 70 = some [.d (.s .nilFunc)] := by kernel_rfl
@[simp] theorem sz71 : szOf Tryd.prog 71 = some 1 := by kernel_rfl
@[simp] theorem ag71 : aggT Tryd.prog 71 = some false := by kernel_rfl
@[simp] theorem un71 : unitT Tryd.prog 71 = some 1 := by kernel_rfl
@[simp] theorem ze71 : zeroT Tryd.prog 71 = some [.d (.s (.pointer none))] := by kernel_rfl
@[simp] theorem sz72 : szOf Tryd.prog 72 = some 1 := by kernel_rfl
@[simp] theorem ag72 : aggT Tryd.prog 72 = some false := by kernel_rfl
@[simp] theorem un72 : unitT Tryd.prog 72 = some 1 := by kernel_rfl
@[simp] theorem ze72 : zeroT Tryd.prog 72 = some [.d (.s .nilFunc)] := by kernel_rfl
@[simp] theorem sz73 : szOf Tryd.prog 73 = some 1 := by kernel_rfl
@[simp] theorem ag73 : aggT Tryd.prog 73 = some false := by kernel_rfl
@[simp] theorem un73 : unitT Tryd.prog 73 = some 1 := by kernel_rfl
@[simp] theorem ze73 : zeroT Tryd.prog 73 = some [.d (.s .nilFunc)] := by kernel_rfl
@[simp] theorem sz74 : szOf Tryd.prog 74 = some 1 := by kernel_rfl
@[simp] theorem ag74 : aggT Tryd.prog 74 = some false := by kernel_rfl
@[simp] theorem un74 : unitT Tryd.prog 74 = some 1 := by kernel_rfl
@[simp] theorem ze74 : zeroT Tryd.prog 74 = some [.d (.s .nilFunc)] := by kernel_rfl
@[simp] theorem sz75 : szOf Tryd.prog 75 = some 1 := by kernel_rfl
@[simp] theorem ag75 : aggT Tryd.prog 75 = some false := by kernel_rfl
@[simp] theorem un75 : unitT Tryd.prog 75 = some 1 := by kernel_rfl
@[simp] theorem ze75 : zeroT Tryd.prog 75 = some [.d (.s .nilFunc)] := by kernel_rfl
@[simp] theorem sz76 : szOf Tryd.prog 76 = some 1 := by kernel_rfl
@[simp] theorem ag76 : aggT Tryd.prog 76 = some false := by kernel_rfl
@[simp] theorem un76 : unitT Tryd.prog 76 = some 1 := by kernel_rfl
@[simp] theorem ze76 : zeroT Tryd.prog 76 = some [.d (.s .nilFunc)] := by kernel_rfl
@[simp] theorem sz77 : szOf Tryd.prog 77 = some 1 := by kernel_rfl
@[simp] theorem ag77 : aggT Tryd.prog 77 = some false := by kernel_rfl
@[simp] theorem un77 : unitT Tryd.prog 77 = some 1 := by kernel_rfl
@[simp] theorem ze77 : zeroT Tryd.prog 77 = some [.d (.s .nilFunc)] := by kernel_rfl
@[simp] theorem sz78 : szOf Tryd.prog 78 = some 3 := by kernel_rfl
@[simp] theorem ag78 : aggT Tryd.prog 78 = some true := by kernel_rfl
@[simp] theorem un78 : unitT Tryd.prog 78 = some 3 := by kernel_rfl
theorem kd78 : kindT Tryd.prog 12 78 = some [.int .i64, .int .i64, .int .i64] := by kernel_rfl
theorem eqk78 : eqT Tryd.prog 8 78 = some (true, [.int .i64, .int .i64, .int .i64]) := by kernel_rfl
theorem eqg78 : (Tryd.prog).eqGuardType (Tryd.prog).depth 78 = false := by kernel_rfl
@[simp] theorem neqA78 (a0 b0 : Int) (a1 b1 : Int) (a2 b2 : Int) (K : Value → Prop) : aggBin Tryd.prog .neq 78 [.d (.s (.int .i64 a0)), .d (.s (.int .i64 a1)), .d (.s (.int .i64 a2))] [.d (.s (.int .i64 b0)), .d (.s (.int .i64 b1)), .d (.s (.int .i64 b2))] K = K (.bool (!(eqVs [.int .i64 a0, .int .i64 a1, .int .i64 a2] [.int .i64 b0, .int .i64 b1, .int .i64 b2]))) := agg_neq (xs := [.int .i64 a0, .int .i64 a1, .int .i64 a2]) (ys := [.int .i64 b0, .int .i64 b1, .int .i64 b2]) eqk78 (by decide) eqg78 rfl rfl K
@[simp] theorem eqlA78 (a0 b0 : Int) (a1 b1 : Int) (a2 b2 : Int) (K : Value → Prop) : aggBin Tryd.prog .eql 78 [.d (.s (.int .i64 a0)), .d (.s (.int .i64 a1)), .d (.s (.int .i64 a2))] [.d (.s (.int .i64 b0)), .d (.s (.int .i64 b1)), .d (.s (.int .i64 b2))] K = K (.bool ((eqVs [.int .i64 a0, .int .i64 a1, .int .i64 a2] [.int .i64 b0, .int .i64 b1, .int .i64 b2]))) := agg_eql (xs := [.int .i64 a0, .int .i64 a1, .int .i64 a2]) (ys := [.int .i64 b0, .int .i64 b1, .int .i64 b2]) eqk78 (by decide) eqg78 rfl rfl K
@[simp] theorem ze78 : zeroT Tryd.prog 78 = some [.d (.s (.int .i64 0)), .d (.s (.int .i64 0)), .d (.s (.int .i64 0))] := by kernel_rfl
@[simp] theorem fi78_0 : fieldT Tryd.prog 78 0 = some (0, 1, false) := by kernel_rfl
@[simp] theorem fi78_1 : fieldT Tryd.prog 78 1 = some (1, 1, false) := by kernel_rfl
@[simp] theorem fi78_2 : fieldT Tryd.prog 78 2 = some (2, 1, false) := by kernel_rfl
@[simp] theorem pl78 : placesT Tryd.prog 78 = some [(0, 1), (1, 1), (2, 1)] := by kernel_rfl
@[simp] theorem sz79 : szOf Tryd.prog 79 = some 3 := by kernel_rfl
@[simp] theorem ag79 : aggT Tryd.prog 79 = some true := by kernel_rfl
@[simp] theorem un79 : unitT Tryd.prog 79 = some 3 := by kernel_rfl
theorem kd79 : kindT Tryd.prog 12 79 = some [.int .i64, .int .i64, .int .i64] := by kernel_rfl
theorem eqk79 : eqT Tryd.prog 8 79 = some (true, [.int .i64, .int .i64, .int .i64]) := by kernel_rfl
theorem eqg79 : (Tryd.prog).eqGuardType (Tryd.prog).depth 79 = false := by kernel_rfl
@[simp] theorem neqA79 (a0 b0 : Int) (a1 b1 : Int) (a2 b2 : Int) (K : Value → Prop) : aggBin Tryd.prog .neq 79 [.d (.s (.int .i64 a0)), .d (.s (.int .i64 a1)), .d (.s (.int .i64 a2))] [.d (.s (.int .i64 b0)), .d (.s (.int .i64 b1)), .d (.s (.int .i64 b2))] K = K (.bool (!(eqVs [.int .i64 a0, .int .i64 a1, .int .i64 a2] [.int .i64 b0, .int .i64 b1, .int .i64 b2]))) := agg_neq (xs := [.int .i64 a0, .int .i64 a1, .int .i64 a2]) (ys := [.int .i64 b0, .int .i64 b1, .int .i64 b2]) eqk79 (by decide) eqg79 rfl rfl K
@[simp] theorem eqlA79 (a0 b0 : Int) (a1 b1 : Int) (a2 b2 : Int) (K : Value → Prop) : aggBin Tryd.prog .eql 79 [.d (.s (.int .i64 a0)), .d (.s (.int .i64 a1)), .d (.s (.int .i64 a2))] [.d (.s (.int .i64 b0)), .d (.s (.int .i64 b1)), .d (.s (.int .i64 b2))] K = K (.bool ((eqVs [.int .i64 a0, .int .i64 a1, .int .i64 a2] [.int .i64 b0, .int .i64 b1, .int .i64 b2]))) := agg_eql (xs := [.int .i64 a0, .int .i64 a1, .int .i64 a2]) (ys := [.int .i64 b0, .int .i64 b1, .int .i64 b2]) eqk79 (by decide) eqg79 rfl rfl K
@[simp] theorem ze79 : zeroT Tryd.prog 79 = some [.d (.s (.int .i64 0)), .d (.s (.int .i64 0)), .d (.s (.int .i64 0))] := by kernel_rfl
@[simp] theorem fi79_0 : fieldT Tryd.prog 79 0 = some (0, 1, false) := by kernel_rfl
@[simp] theorem fi79_1 : fieldT Tryd.prog 79 1 = some (1, 1, false) := by kernel_rfl
@[simp] theorem fi79_2 : fieldT Tryd.prog 79 2 = some (2, 1, false) := by kernel_rfl
@[simp] theorem pl79 : placesT Tryd.prog 79 = some [(0, 1), (1, 1), (2, 1)] := by kernel_rfl
@[simp] theorem sz80 : szOf Tryd.prog 80 = some 1 := by kernel_rfl
@[simp] theorem ag80 : aggT Tryd.prog 80 = some false := by kernel_rfl
@[simp] theorem un80 : unitT Tryd.prog 80 = some 1 := by kernel_rfl
@[simp] theorem sz81 : szOf Tryd.prog 81 = some 1 := by kernel_rfl
@[simp] theorem ag81 : aggT Tryd.prog 81 = some false := by kernel_rfl
@[simp] theorem un81 : unitT Tryd.prog 81 = some 1 := by kernel_rfl
@[simp] theorem ze81 : zeroT Tryd.prog 81 = some [.d (.s .nilFunc)] := by kernel_rfl
@[simp] theorem sz82 : szOf Tryd.prog 82 = some 1 := by kernel_rfl
@[simp] theorem ag82 : aggT Tryd.prog 82 = some false := by kernel_rfl
@[simp] theorem un82 : unitT Tryd.prog 82 = some 1 := by kernel_rfl
@[simp] theorem ze82 : zeroT Tryd.prog 82 = some [.d (.s .nilFunc)] := by kernel_rfl
@[simp] theorem sz83 : szOf Tryd.prog 83 = some 1 := by kernel_rfl
@[simp] theorem ag83 : aggT Tryd.prog 83 = some false := by kernel_rfl
@[simp] theorem un83 : unitT Tryd.prog 83 = some 1 := by kernel_rfl
@[simp] theorem ze83 : zeroT Tryd.prog 83 = some [.d (.s .nilFunc)] := by kernel_rfl
@[simp] theorem sz84 : szOf Tryd.prog 84 = some 1 := by kernel_rfl
@[simp] theorem ag84 : aggT Tryd.prog 84 = some false := by kernel_rfl
@[simp] theorem un84 : unitT Tryd.prog 84 = some 1 := by kernel_rfl
@[simp] theorem ze84 : zeroT Tryd.prog 84 = some [.d (.s .nilFunc)] := by kernel_rfl
@[simp] theorem sz85 : szOf Tryd.prog 85 = some 1 := by kernel_rfl
@[simp] theorem ag85 : aggT Tryd.prog 85 = some false := by kernel_rfl
@[simp] theorem un85 : unitT Tryd.prog 85 = some 1 := by kernel_rfl
@[simp] theorem ze85 : zeroT Tryd.prog 85 = some [.d (.s (.pointer none))] := by kernel_rfl
@[simp] theorem sz86 : szOf Tryd.prog 86 = some 1 := by kernel_rfl
@[simp] theorem ag86 : aggT Tryd.prog 86 = some false := by kernel_rfl
@[simp] theorem un86 : unitT Tryd.prog 86 = some 1 := by kernel_rfl
@[simp] theorem ze86 : zeroT Tryd.prog 86 = some [.d (.s .nilFunc)] := by kernel_rfl
@[simp] theorem sz87 : szOf Tryd.prog 87 = some 1 := by kernel_rfl
@[simp] theorem ag87 : aggT Tryd.prog 87 = some false := by kernel_rfl
@[simp] theorem un87 : unitT Tryd.prog 87 = some 1 := by kernel_rfl
@[simp] theorem ze87 : zeroT Tryd.prog 87 = some [.d (.s .nilFunc)] := by kernel_rfl
@[simp] theorem sz88 : szOf Tryd.prog 88 = some 1 := by kernel_rfl
@[simp] theorem ag88 : aggT Tryd.prog 88 = some false := by kernel_rfl
@[simp] theorem un88 : unitT Tryd.prog 88 = some 1 := by kernel_rfl
@[simp] theorem ze88 : zeroT Tryd.prog 88 = some [.d (.s .nilFunc)] := by kernel_rfl
@[simp] theorem sz89 : szOf Tryd.prog 89 = some 1 := by kernel_rfl
@[simp] theorem ag89 : aggT Tryd.prog 89 = some false := by kernel_rfl
@[simp] theorem un89 : unitT Tryd.prog 89 = some 1 := by kernel_rfl
@[simp] theorem ze89 : zeroT Tryd.prog 89 = some [.d (.s .nilFunc)] := by kernel_rfl
@[simp] theorem sz90 : szOf Tryd.prog 90 = some 1 := by kernel_rfl
@[simp] theorem ag90 : aggT Tryd.prog 90 = some false := by kernel_rfl
@[simp] theorem un90 : unitT Tryd.prog 90 = some 1 := by kernel_rfl
@[simp] theorem ze90 : zeroT Tryd.prog 90 = some [.d (.s .nilFunc)] := by kernel_rfl
@[simp] theorem sz91 : szOf Tryd.prog 91 = some 1 := by kernel_rfl
@[simp] theorem ag91 : aggT Tryd.prog 91 = some false := by kernel_rfl
@[simp] theorem un91 : unitT Tryd.prog 91 = some 1 := by kernel_rfl
@[simp] theorem ze91 : zeroT Tryd.prog 91 = some [.d (.s (.pointer none))] := by kernel_rfl
@[simp] theorem sz92 : szOf Tryd.prog 92 = some 1 := by kernel_rfl
@[simp] theorem ag92 : aggT Tryd.prog 92 = some false := by kernel_rfl
@[simp] theorem un92 : unitT Tryd.prog 92 = some 1 := by kernel_rfl
@[simp] theorem ze92 : zeroT Tryd.prog 92 = some [.d (.s .nilFunc)] := by kernel_rfl
@[simp] theorem sz93 : szOf Tryd.prog 93 = some 1 := by kernel_rfl
@[simp] theorem ag93 : aggT Tryd.prog 93 = some false := by kernel_rfl
@[simp] theorem un93 : unitT Tryd.prog 93 = some 1 := by kernel_rfl
@[simp] theorem ze93 : zeroT Tryd.prog 93 = some [.d (.s .nilFunc)] := by kernel_rfl
@[simp] theorem sz94 : szOf Tryd.prog 94 = some 1 := by kernel_rfl
@[simp] theorem ag94 : aggT Tryd.prog 94 = some false := by kernel_rfl
@[simp] theorem un94 : unitT Tryd.prog 94 = some 1 := by kernel_rfl
@[simp] theorem ze94 : zeroT Tryd.prog 94 = some [.d (.s .nilFunc)] := by kernel_rfl
@[simp] theorem sz95 : szOf Tryd.prog 95 = some 1 := by kernel_rfl
@[simp] theorem ag95 : aggT Tryd.prog 95 = some false := by kernel_rfl
@[simp] theorem un95 : unitT Tryd.prog 95 = some 1 := by kernel_rfl
@[simp] theorem ze95 : zeroT Tryd.prog 95 = some [.d (.s .nilFunc)] := by kernel_rfl
@[simp] theorem sz96 : szOf Tryd.prog 96 = some 1 := by kernel_rfl
@[simp] theorem ag96 : aggT Tryd.prog 96 = some false := by kernel_rfl
@[simp] theorem un96 : unitT Tryd.prog 96 = some 1 := by kernel_rfl
@[simp] theorem ze96 : zeroT Tryd.prog 96 = some [.d (.s .nilIface)] := by kernel_rfl
@[simp] theorem sz97 : szOf Tryd.prog 97 = some 1 := by kernel_rfl
@[simp] theorem ag97 : aggT Tryd.prog 97 = some false := by kernel_rfl
@[simp] theorem un97 : unitT Tryd.prog 97 = some 1 := by kernel_rfl
@[simp] theorem ze97 : zeroT Tryd.prog 97 = some [.d (.s .nilIface)] := by kernel_rfl
@[simp] theorem sz98 : szOf Tryd.prog 98 = some 1 := by kernel_rfl
@[simp] theorem ag98 : aggT Tryd.prog 98 = some false := by kernel_rfl
@[simp] theorem un98 : unitT Tryd.prog 98 = some 1 := by kernel_rfl
@[simp] theorem ze98 : zeroT Tryd.prog 98 = some [.d (.s .nilFunc)] := by kernel_rfl
@[simp] theorem sz99 : szOf Tryd.prog 99 = some 1 := by kernel_rfl
@[simp] theorem ag99 : aggT Tryd.prog 99 = some false := by kernel_rfl
@[simp] theorem un99 : unitT Tryd.prog 99 = some 1 := by kernel_rfl
@[simp] theorem ze99 : zeroT Tryd.prog 99 = some [.d (.s .nilFunc)] := by kernel_rfl
@[simp] theorem sz100 : szOf Tryd.prog 100 = some 1 := by kernel_rfl
@[simp] theorem ag100 : aggT Tryd.prog 100 = some false := by kernel_rfl
@[simp] theorem un100 : unitT Tryd.prog 100 = some 1 := by kernel_rfl
@[simp] theorem ze100 : zeroT Tryd.prog 100 = some [.d (.s .nilFunc)] := by kernel_rfl
@[simp] theorem sz101 : szOf Tryd.prog 101 = some 1 := by kernel_rfl
@[simp] theorem ag101 : aggT Tryd.prog 101 = some false := by kernel_rfl
@[simp] theorem un101 : unitT Tryd.prog 101 = some 1 := by kernel_rfl
@[simp] theorem ze101 : zeroT Tryd.prog 101 = some [.d (.s .nilFunc)] := by kernel_rfl
@[simp] theorem sz102 : szOf Tryd.prog 102 = some 1 := by kernel_rfl
@[simp] theorem ag102 : aggT Tryd.prog 102 = some false := by kernel_rfl
@[simp] theorem un102 : unitT Tryd.prog 102 = some 1 := by kernel_rfl
theorem kd102 : kindT Tryd.prog 12 102 = some [.int .u64] := by kernel_rfl
@[simp] theorem ze102 : zeroT Tryd.prog 102 = some [.d (.s (.int .u64 0))] := by kernel_rfl
@[simp] theorem sz103 : szOf Tryd.prog 103 = some 2 := by kernel_rfl
@[simp] theorem ag103 : aggT Tryd.prog 103 = some true := by kernel_rfl
@[simp] theorem un103 : unitT Tryd.prog 103 = some 2 := by kernel_rfl
theorem kd103 : kindT Tryd.prog 12 103 = some [.slice [.int .u8], .int .i64] := by kernel_rfl
@[simp] theorem ze103 : zeroT Tryd.prog 103 = some [.d .nil, .d (.s (.int .i64 0))] := by kernel_rfl
@[simp] theorem fi103_0 : fieldT Tryd.prog 103 0 = some (0, 1, false) := by kernel_rfl
@[simp] theorem fi103_1 : fieldT Tryd.prog 103 1 = some (1, 1, false) := by kernel_rfl
@[simp] theorem pl103 : placesT Tryd.prog 103 = some [(0, 1), (1, 1)] := by kernel_rfl
@[simp] theorem sz104 : szOf Tryd.prog 104 = some 2 := by kernel_rfl
@[simp] theorem ag104 : aggT Tryd.prog 104 = some true := by kernel_rfl
@[simp] theorem un104 : unitT Tryd.prog 104 = some 2 := by kernel_rfl
theorem kd104 : kindT Tryd.prog 12 104 = some [.slice [.int .u8], .int .i64] := by kernel_rfl
@[simp] theorem ze104 : zeroT Tryd.prog 104 = some [.d .nil, .d (.s (.int .i64 0))] := by kernel_rfl
@[simp] theorem fi104_0 : fieldT Tryd.prog 104 0 = some (0, 1, false) := by kernel_rfl
@[simp] theorem fi104_1 : fieldT Tryd.prog 104 1 = some (1, 1, false) := by kernel_rfl
@[simp] theorem pl104 : placesT Tryd.prog 104 = some [(0, 1), (1, 1)] := by kernel_rfl
@[simp] theorem sz105 : szOf Tryd.prog 105 = some 1 := by kernel_rfl
@[simp] theorem ag105 : aggT Tryd.prog 105 = some false := by kernel_rfl
@[simp] theorem un105 : unitT Tryd.prog 105 = some 1 := by kernel_rfl
@[simp] theorem ze105 : zeroT Tryd.prog 105 = some [.d (.s .nilFunc)] := by kernel_rfl
@[simp] theorem sz106 : szOf Tryd.prog 106 = some 1 := by kernel_rfl
@[simp] theorem ag106 : aggT Tryd.prog 106 = some false := by kernel_rfl
@[simp] theorem un106 : unitT Tryd.prog 106 = some 1 := by kernel_rfl
@[simp] theorem ze106 : zeroT Tryd.prog 106 = some [.d (.s .nilFunc)] := by kernel_rfl
@[simp] theorem sz107 : szOf Tryd.prog 107 = some 1 := by kernel_rfl
@[simp] theorem ag107 : aggT Tryd.prog 107 = some false := by kernel_rfl
@[simp] theorem un107 : unitT Tryd.prog 107 = some 1 := by kernel_rfl
theorem kd107 : kindT Tryd.prog 12 107 = some [.slice [.int .i64]] := by kernel_rfl
@[simp] theorem sl107 : sliceT Tryd.prog 107 = some (2, 1, 8) := by kernel_rfl
@[simp] theorem ze107 : zeroT Tryd.prog 107 = some [.d .nil] := by kernel_rfl
@[simp] theorem sz108 : szOf Tryd.prog 108 = some 1 := by kernel_rfl
@[simp] theorem ag108 : aggT Tryd.prog 108 = some false := by kernel_rfl
@[simp] theorem un108 : unitT Tryd.prog 108 = some 1 := by kernel_rfl
theorem kd108 : kindT Tryd.prog 12 108 = some [.slice [.int .i64, .int .i64, .int .i64]] := by kernel_rfl
@[simp] theorem sl108 : sliceT Tryd.prog 108 = some (79, 3, 24) := by kernel_rfl
@[simp] theorem ze108 : zeroT Tryd.prog 108 = some [.d .nil] := by kernel_rfl
@[simp] theorem sz109 : szOf Tryd.prog 109 = some 1 := by kernel_rfl
@[simp] theorem ag109 : aggT Tryd.prog 109 = some false := by kernel_rfl
@[simp] theorem un109 : unitT Tryd.prog 109 = some 1 := by kernel_rfl
@[simp] theorem ze109 : zeroT Tryd.prog 109 = some [.d (.s .nilFunc)] := by kernel_rfl
@[simp] theorem sz110 : szOf Tryd.prog 110 = some 1 := by kernel_rfl
@[simp] theorem ag110 : aggT Tryd.prog 110 = some false := by kernel_rfl
@[simp] theorem un110 : unitT Tryd.prog 110 = some 1 := by kernel_rfl
@[simp] theorem ze110 : zeroT Tryd.prog 110 = some [.d (.s .nilFunc)] := by kernel_rfl
@[simp] theorem sz111 : szOf Tryd.prog 111 = some 1 := by kernel_rfl
@[simp] theorem ag111 : aggT Tryd.prog 111 = some false := by kernel_rfl
@[simp] theorem un111 : unitT Tryd.prog 111 = some 1 := by kernel_rfl
@[simp] theorem ze111 : zeroT Tryd.prog 111 = some [.d (.s .nilFunc)] := by kernel_rfl
@[simp] theorem sz112 : szOf Tryd.prog 112 = some 8 := by kernel_rfl
@[simp] theorem ag112 : aggT Tryd.prog 112 = some true := by kernel_rfl
@[simp] theorem un112 : unitT Tryd.prog 112 = some 8 := by kernel_rfl
theorem kd112 : kindT Tryd.prog 12 112 = some [.bool, .int .i64, .int .i64, .int .i64, .int .i64, .int .i64, .int .i64, .int .i64] := by kernel_rfl
theorem eqk112 : eqT Tryd.prog 8 112 = some (true, [.bool, .int .i64, .int .i64, .int .i64, .int .i64, .int .i64, .int .i64, .int .i64]) := by kernel_rfl
theorem eqg112 : (Tryd.prog).eqGuardType (Tryd.prog).depth 112 = false := by kernel_rfl
@[simp] theorem neqA112 (a0 b0 : Bool) (a1 b1 : Int) (a2 b2 : Int) (a3 b3 : Int) (a4 b4 : Int) (a5 b5 : Int) (a6 b6 : Int) (a7 b7 : Int) (K : Value → Prop) : aggBin Tryd.prog .neq 112 [.d (.s (.bool a0)), .d (.s (.int .i64 a1)), .d (.s (.int .i64 a2)), .d (.s (.int .i64 a3)), .d (.s (.int .i64 a4)), .d (.s (.int .i64 a5)), .d (.s (.int .i64 a6)), .d (.s (.int .i64 a7))] [.d (.s (.bool b0)), .d (.s (.int .i64 b1)), .d (.s (.int .i64 b2)), .d (.s (.int .i64 b3)), .d (.s (.int .i64 b4)), .d (.s (.int .i64 b5)), .d (.s (.int .i64 b6)), .d (.s (.int .i64 b7))] K = K (.bool (!(eqVs [.bool a0, .int .i64 a1, .int .i64 a2, .int .i64 a3, .int .i64 a4, .int .i64 a5, .int .i64 a6, .int .i64 a7] [.bool b0, .int .i64 b1, .int .i64 b2, .int .i64 b3, .int .i64 b4, .int .i64 b5, .int .i64 b6, .int .i64 b7]))) := agg_neq (xs := [.bool a0, .int .i64 a1, .int .i64 a2, .int .i64 a3, .int .i64 a4, .int .i64 a5, .int .i64 a6, .int .i64 a7]) (ys := [.bool b0, .int .i64 b1, .int .i64 b2, .int .i64 b3, .int .i64 b4, .int .i64 b5, .int .i64 b6, .int .i64 b7]) eqk112 (by decide) eqg112 rfl rfl K
@[simp] theorem eqlA112 (a0 b0 : Bool) (a1 b1 : Int) (a2 b2 : Int) (a3 b3 : Int) (a4 b4 : Int) (a5 b5 : Int) (a6 b6 : Int) (a7 b7 : Int) (K : Value → Prop) : aggBin Tryd.prog .eql 112 [.d (.s (.bool a0)), .d (.s (.int .i64 a1)), .d (.s (.int .i64 a2)), .d (.s (.int .i64 a3)), .d (.s (.int .i64 a4)), .d (.s (.int .i64 a5)), .d (.s (.int .i64 a6)), .d (.s (.int .i64 a7))] [.d (.s (.bool b0)), .d (.s (.int .i64 b1)), .d (.s (.int .i64 b2)), .d (.s (.int .i64 b3)), .d (.s (.int .i64 b4)), .d (.s (.int .i64 b5)), .d (.s (.int .i64 b6)), .d (.s (.int .i64 b7))] K = K (.bool ((eqVs [.bool a0, .int .i64 a1, .int .i64 a2, .int .i64 a3, .int .i64 a4, .int .i64 a5, .int .i64 a6, .int .i64 a7] [.bool b0, .int .i64 b1, .int .i64 b2, .int .i64 b3, .int .i64 b4, .int .i64 b5, .int .i64 b6, .int .i64 b7]))) := agg_eql (xs := [.bool a0, .int .i64 a1, .int .i64 a2, .int .i64 a3, .int .i64 a4, .int .i64 a5, .int .i64 a6, .int .i64 a7]) (ys := [.bool b0, .int .i64 b1, .int .i64 b2, .int .i64 b3, .int .i64 b4, .int .i64 b5, .int .i64 b6, .int .i64 b7]) eqk112 (by decide) eqg112 rfl rfl K
@[simp] theorem ze112 : zeroT Tryd.prog 112 = some [.d (.s (.bool false)), .d (.s (.int .i64 0)), .d (.s (.int .i64 0)), .d (.s (.int .i64 0)), .d (.s (.int .i64 0)), .d (.s (.int .i64 0)), .d (.s (.int .i64 0)), .d (.s (.int .i64 0))] := by kernel_rfl
@[simp] theorem fi112_0 : fieldT Tryd.prog 112 0 = some (0, 1, false) := by kernel_rfl
@[simp] theorem fi112_1 : fieldT Tryd.prog 112 1 = some (1, 7, true) := by kernel_rfl
@[simp] theorem pl112 : placesT Tryd.prog 112 = some [(0, 1), (1, 7)] := by kernel_rfl
@[simp] theorem sz113 : szOf Tryd.prog 113 = some 8 := by kernel_rfl
@[simp] theorem ag113 : aggT Tryd.prog 113 = some true := by kernel_rfl
@[simp] theorem un113 : unitT Tryd.prog 113 = some 8 := by kernel_rfl
theorem kd113 : kindT Tryd.prog 12 113 = some [.bool, .int .i64, .int .i64, .int .i64, .int .i64, .int .i64, .int .i64, .int .i64] := by kernel_rfl
theorem eqk113 : eqT Tryd.prog 8 113 = some (true, [.bool, .int .i64, .int .i64, .int .i64, .int .i64, .int .i64, .int .i64, .int .i64]) := by kernel_rfl
theorem eqg113 : (Tryd.prog).eqGuardType (Tryd.prog).depth 113 = false := by kernel_rfl
@[simp] theorem neqA113 (a0 b0 : Bool) (a1 b1 : Int) (a2 b2 : Int) (a3 b3 : Int) (a4 b4 : Int) (a5 b5 : Int) (a6 b6 : Int) (a7 b7 : Int) (K : Value → Prop) : aggBin Tryd.prog .neq 113 [.d (.s (.bool a0)), .d (.s (.int .i64 a1)), .d (.s (.int .i64 a2)), .d (.s (.int .i64 a3)), .d (.s (.int .i64 a4)), .d (.s (.int .i64 a5)), .d (.s (.int .i64 a6)), .d (.s (.int .i64 a7))] [.d (.s (.bool b0)), .d (.s (.int .i64 b1)), .d (.s (.int .i64 b2)), .d (.s (.int .i64 b3)), .d (.s (.int .i64 b4)), .d (.s (.int .i64 b5)), .d (.s (.int .i64 b6)), .d (.s (.int .i64 b7))] K = K (.bool (!(eqVs [.bool a0, .int .i64 a1, .int .i64 a2, .int .i64 a3, .int .i64 a4, .int .i64 a5, .int .i64 a6, .int .i64 a7] [.bool b0, .int .i64 b1, .int .i64 b2, .int .i64 b3, .int .i64 b4, .int .i64 b5, .int .i64 b6, .int .i64 b7]))) := agg_neq (xs := [.bool a0, .int .i64 a1, .int .i64 a2, .int .i64 a3, .int .i64 a4, .int .i64 a5, .int .i64 a6, .int .i64 a7]) (ys := [.bool b0, .int .i64 b1, .int .i64 b2, .int .i64 b3, .int .i64 b4, .int .i64 b5, .int .i64 b6, .int .i64 b7]) eqk113 (by decide) eqg113 rfl rfl K
@[simp] theorem eqlA113 (a0 b0 : Bool) (a1 b1 : Int) (a2 b2 : Int) (a3 b3 : Int) (a4 b4 : Int) (a5 b5 : Int) (a6 b6 : Int) (a7 b7 : Int) (K : Value → Prop) : aggBin Tryd.prog .eql 113 [.d (.s (.bool a0)), .d (.s (.int .i64 a1)), .d (.s (.int .i64 a2)), .d (.s (.int .i64 a3)), .d (.s (.int .i64 a4)), .d (.s (.int .i64 a5)), .d (.s (.int .i64 a6)), .d (.s (.int .i64 a7))] [.d (.s (.bool b0)), .d (.s (.int .i64 b1)), .d (.s (.int .i64 b2)), .d (.s (.int .i64 b3)), .d (.s (.int .i64 b4)), .d (.s (.int .i64 b5)), .d (.s (.int .i64 b6)), .d (.s (.int .i64 b7))] K = K (.bool ((eqVs [.bool a0, .int .i64 a1, .int .i64 a2, .int .i64 a3, .int .i64 a4, .int .i64 a5, .int .i64 a6, .int .i64 a7] [.bool b0, .int .i64 b1, .int .i64 b2, .int .i64 b3, .int .i64 b4, .int .i64 b5, .int .i64 b6, .int .i64 b7]))) := agg_eql (xs := [.bool a0, .int .i64 a1, .int .i64 a2, .int .i64 a3, .int .i64 a4, .int .i64 a5, .int .i64 a6, .int .i64 a7]) (ys := [.bool b0, .int .i64 b1, .int .i64 b2, .int .i64 b3, .int .i64 b4, .int .i64 b5, .int .i64 b6, .int .i64 b7]) eqk113 (by decide) eqg113 rfl rfl K
@[simp] theorem ze113 : zeroT Tryd.prog 113 = some [.d (.s (.bool false)), .d (.s (.int .i64 0)), .d (.s (.int .i64 0)), .d (.s (.int .i64 0)), .d (.s (.int .i64 0)), .d (.s (.int .i64 0)), .d (.s (.int .i64 0)), .d (.s (.int .i64 0))] := by kernel_rfl
@[simp] theorem fi113_0 : fieldT Tryd.prog 113 0 = some (0, 1, false) := by kernel_rfl
@[simp] theorem fi113_1 : fieldT Tryd.prog 113 1 = some (1, 7, true) := by kernel_rfl
@[simp] theorem pl113 : placesT Tryd.prog 113 = some [(0, 1), (1, 7)] := by kernel_rfl
@[simp] theorem sz114 : szOf Tryd.prog 114 = some 1 := by kernel_rfl
@[simp] theorem ag114 : aggT Tryd.prog 114 = some false := by kernel_rfl
@[simp] theorem un114 : unitT Tryd.prog 114 = some 1 := by kernel_rfl
@[simp] theorem ze114 : zeroT Tryd.prog 114 = some [.d (.s .nilFunc)] := by kernel_rfl
@[simp] theorem sz115 : szOf Tryd.prog 115 = some 2 := by kernel_rfl
@[simp] theorem ag115 : aggT Tryd.prog 115 = some true := by kernel_rfl
@[simp] theorem un115 : unitT Tryd.prog 115 = some 2 := by kernel_rfl
theorem kd115 : kindT Tryd.prog 12 115 = some [.int .i64, .int .i64] := by kernel_rfl
theorem eqk115 : eqT Tryd.prog 8 115 = some (true, [.int .i64, .int .i64]) := by kernel_rfl
theorem eqg115 : (Tryd.prog).eqGuardType (Tryd.prog).depth 115 = false := by kernel_rfl
@[simp] theorem neqA115 (a0 b0 : Int) (a1 b1 : Int) (K : Value → Prop) : aggBin Tryd.prog .neq 115 [.d (.s (.int .i64 a0)), .d (.s (.int .i64 a1))] [.d (.s (.int .i64 b0)), .d (.s (.int .i64 b1))] K = K (.bool (!(eqVs [.int .i64 a0, .int .i64 a1] [.int .i64 b0, .int .i64 b1]))) := agg_neq (xs := [.int .i64 a0, .int .i64 a1]) (ys := [.int .i64 b0, .int .i64 b1]) eqk115 (by decide) eqg115 rfl rfl K
@[simp] theorem eqlA115 (a0 b0 : Int) (a1 b1 : Int) (K : Value → Prop) : aggBin Tryd.prog .eql 115 [.d (.s (.int .i64 a0)), .d (.s (.int .i64 a1))] [.d (.s (.int .i64 b0)), .d (.s (.int .i64 b1))] K = K (.bool ((eqVs [.int .i64 a0, .int .i64 a1] [.int .i64 b0, .int .i64 b1]))) := agg_eql (xs := [.int .i64 a0, .int .i64 a1]) (ys := [.int .i64 b0, .int .i64 b1]) eqk115 (by decide) eqg115 rfl rfl K
@[simp] theorem ze115 : zeroT Tryd.prog 115 = some [.d (.s (.int .i64 0)), .d (.s (.int .i64 0))] := by kernel_rfl
@[simp] theorem fi115_0 : fieldT Tryd.prog 115 0 = some (0, 1, false) := by kernel_rfl
@[simp] theorem fi115_1 : fieldT Tryd.prog 115 1 = some (1, 1, false) := by kernel_rfl
@[simp] theorem pl115 : placesT Tryd.prog 115 = some [(0, 1), (1, 1)] := by kernel_rfl
@[simp] theorem sz116 : szOf Tryd.prog 116 = some 2 := by kernel_rfl
@[simp] theorem ag116 : aggT Tryd.prog 116 = some true := by kernel_rfl
@[simp] theorem un116 : unitT Tryd.prog 116 = some 2 := by kernel_rfl
theorem kd116 : kindT Tryd.prog 12 116 = some [.int .i64, .int .i64] := by kernel_rfl
theorem eqk116 : eqT Tryd.prog 8 116 = some (true, [.int .i64, .int .i64]) := by kernel_rfl
theorem eqg116 : (Tryd.prog).eqGuardType (Tryd.prog).depth 116 = false := by kernel_rfl
@[simp] theorem neqA116 (a0 b0 : Int) (a1 b1 : Int) (K : Value → Prop) : aggBin Tryd.prog .neq 116 [.d (.s (.int .i64 a0)), .d (.s (.int .i64 a1))] [.d (.s (.int .i64 b0)), .d (.s (.int .i64 b1))] K = K (.bool (!(eqVs [.int .i64 a0, .int .i64 a1] [.int .i64 b0, .int .i64 b1]))) := agg_neq (xs := [.int .i64 a0, .int .i64 a1]) (ys := [.int .i64 b0, .int .i64 b1]) eqk116 (by decide) eqg116 rfl rfl K
@[simp] theorem eqlA116 (a0 b0 : Int) (a1 b1 : Int) (K : Value → Prop) : aggBin Tryd.prog .eql 116 [.d (.s (.int .i64 a0)), .d (.s (.int .i64 a1))] [.d (.s (.int .i64 b0)), .d (.s (.int .i64 b1))] K = K (.bool ((eqVs [.int .i64 a0, .int .i64 a1] [.int .i64 b0, .int .i64 b1]))) := agg_eql (xs := [.int .i64 a0, .int .i64 a1]) (ys := [.int .i64 b0, .int .i64 b1]) eqk116 (by decide) eqg116 rfl rfl K
@[simp] theorem ze116 : zeroT Tryd.prog 116 = some [.d (.s (.int .i64 0)), .d (.s (.int .i64 0))] := by kernel_rfl
@[simp] theorem fi116_0 : fieldT Tryd.prog 116 0 = some (0, 1, false) := by kernel_rfl
@[simp] theorem fi116_1 : fieldT Tryd.prog 116 1 = some (1, 1, false) := by kernel_rfl
@[simp] theorem pl116 : placesT Tryd.prog 116 = some [(0, 1), (1, 1)] := by kernel_rfl
@[simp] theorem sz117 : szOf Tryd.prog 117 = some 1 := by kernel_rfl
@[simp] theorem ag117 : aggT Tryd.prog 117 = some false := by kernel_rfl
@[simp] theorem un117 : unitT Tryd.prog 117 = some 1 := by kernel_rfl
@[simp] theorem ze117 : zeroT Tryd.prog 117 = some [.d (.s .nilFunc)] := by kernel_rfl
@[simp] theorem sz118 : szOf Tryd.prog 118 = some 1 := by kernel_rfl
@[simp] theorem ag118 : aggT Tryd.prog 118 = some false := by kernel_rfl
@[simp] theorem un118 : unitT Tryd.prog 118 = some 1 := by kernel_rfl
@[simp] theorem ze118 : zeroT Tryd.prog 118 = some [.d (.s .nilFunc)] := by kernel_rfl
@[simp] theorem sz119 : szOf Tryd.prog 119 = some 1 := by kernel_rfl
@[simp] theorem ag119 : aggT Tryd.prog 119 = some false := by kernel_rfl
@[simp] theorem un119 : unitT Tryd.prog 119 = some 1 := by kernel_rfl
@[simp] theorem ze119 : zeroT Tryd.prog 119 = some [.d (.s (.pointer none))] := by kernel_rfl
@[simp] theorem sz120 : szOf Tryd.prog 120 = some 9 := by kernel_rfl
@[simp] theorem ag120 : aggT Tryd.prog 120 = some true := by kernel_rfl
@[simp] theorem un120 : unitT Tryd.prog 120 = some 9 := by kernel_rfl
theorem kd120 : kindT Tryd.prog 12 120 = some [.int .i64, .bool, .int .i64, .int .i64, .int .i64, .int .i64, .int .i64, .int .i64, .int .i64] := by kernel_rfl
theorem eqk120 : eqT Tryd.prog 8 120 = some (true, [.int .i64, .bool, .int .i64, .int .i64, .int .i64, .int .i64, .int .i64, .int .i64, .int .i64]) := by kernel_rfl
theorem eqg120 : (Tryd.prog).eqGuardType (Tryd.prog).depth 120 = false := by kernel_rfl
@[simp] theorem neqA120 (a0 b0 : Int) (a1 b1 : Bool) (a2 b2 : Int) (a3 b3 : Int) (a4 b4 : Int) (a5 b5 : Int) (a6 b6 : Int) (a7 b7 : Int) (a8 b8 : Int) (K : Value → Prop) : aggBin Tryd.prog .neq 120 [.d (.s (.int .i64 a0)), .d (.s (.bool a1)), .d (.s (.int .i64 a2)), .d (.s (.int .i64 a3)), .d (.s (.int .i64 a4)), .d (.s (.int .i64 a5)), .d (.s (.int .i64 a6)), .d (.s (.int .i64 a7)), .d (.s (.int .i64 a8))] [.d (.s (.int .i64 b0)), .d (.s (.bool b1)), .d (.s (.int .i64 b2)), .d (.s (.int .i64 b3)), .d (.s (.int .i64 b4)), .d (.s (.int .i64 b5)), .d (.s (.int .i64 b6)), .d (.s (.int .i64 b7)), .d (.s (.int .i64 b8))] K = K (.bool (!(eqVs [.int .i64 a0, .bool a1, .int .i64 a2, .int .i64 a3, .int .i64 a4, .int .i64 a5, .int .i64 a6, .int .i64 a7, .int .i64 a8] [.int .i64 b0, .bool b1, .int .i64 b2, .int .i64 b3, .int .i64 b4, .int .i64 b5, .int .i64 b6, .int .i64 b7, .int .i64 b8]))) := agg_neq (xs := [.int .i64 a0, .bool a1, .int .i64 a2, .int .i64 a3, .int .i64 a4, .int .i64 a5, .int .i64 a6, .int .i64 a7, .int .i64 a8]) (ys := [.int .i64 b0, .bool b1, .int .i64 b2, .int .i64 b3, .int .i64 b4, .int .i64 b5, .int .i64 b6, .int .i64 b7, .int .i64 b8]) eqk120 (by decide) eqg120 rfl rfl K
@[simp] theorem eqlA120 (a0 b0 : Int) (a1 b1 : Bool) (a2 b2 : Int) (a3 b3 : Int) (a4 b4 : Int) (a5 b5 : Int) (a6 b6 : Int) (a7 b7 : Int) (a8 b8 : Int) (K : Value → Prop) : aggBin Tryd.prog .eql 120 [.d (.s (.int .i64 a0)), .d (.s (.bool a1)), .d (.s (.int .i64 a2)), .d (.s (.int .i64 a3)), .d (.s (.int .i64 a4)), .d (.s (.int .i64 a5)), .d (.s (.int .i64 a6)), .d (.s (.int .i64 a7)), .d (.s (.int .i64 a8))] [.d (.s (.int .i64 b0)), .d (.s (.bool b1)), .d (.s (.int .i64 b2)), .d (.s (.int .i64 b3)), .d (.s (.int .i64 b4)), .d (.s (.int .i64 b5)), .d (.s (.int .i64 b6)), .d (.s (.int .i64 b7)), .d (.s (.int .i64 b8))] K = K (.bool ((eqVs [.int .i64 a0, .bool a1, .int .i64 a2, .int .i64 a3, .int .i64 a4, .int .i64 a5, .int .i64 a6, .int .i64 a7, .int .i64 a8] [.int .i64 b0, .bool b1, .int .i64 b2, .int .i64 b3, .int .i64 b4, .int .i64 b5, .int .i64 b6, .int .i64 b7, .int .i64 b8]))) := agg_eql (xs := [.int .i64 a0, .bool a1, .int .i64 a2, .int .i64 a3, .int .i64 a4, .int .i64 a5, .int .i64 a6, .int .i64 a7, .int .i64 a8]) (ys := [.int .i64 b0, .bool b1, .int .i64 b2, .int .i64 b3, .int .i64 b4, .int .i64 b5, .int .i64 b6, .int .i64 b7, .int .i64 b8]) eqk120 (by decide) eqg120 rfl rfl K
@[simp] theorem ze120 : zeroT Tryd.prog 120 = some [.d (.s (.int .i64 0)), .d (.s (.bool false)), .d (.s (.int .i64 0)), .d (.s (.int .i64 0)), .d (.s (.int .i64 0)), .d (.s (.int .i64 0)), .d (.s (.int .i64 0)), .d (.s (.int .i64 0)), .d (.s (.int .i64 0))] := by kernel_rfl
@[simp] theorem fi120_0 : fieldT Tryd.prog 120 0 = some (0, 1, false) := by kernel_rfl
@[simp] theorem fi120_1 : fieldT Tryd.prog 120 1 = some (1, 1, false) := by kernel_rfl
@[simp] theorem fi120_2 : fieldT Tryd.prog 120 2 = some (2, 7, true) := by kernel_rfl
@[simp] theorem pl120 : placesT Tryd.prog 120 = some [(0, 1), (1, 1), (2, 7)] := by kernel_rfl
@[simp] theorem sz121 : szOf Tryd.prog 121 = some 9 := by kernel_rfl
@[simp] theorem ag121 : aggT Tryd.prog 121 = some true := by kernel_rfl
@[simp] theorem un121 : unitT Tryd.prog 121 = some 9 := by kernel_rfl
theorem kd121 : kindT Tryd.prog 12 121 = some [.int .i64, .bool, .int .i64, .int .i64, .int .i64, .int .i64, .int .i64, .int .i64, .int .i64] := by kernel_rfl
theorem eqk121 : eqT Tryd.prog 8 121 = some (true, [.int .i64, .bool, .int .i64, .int .i64, .int .i64, .int .i64, .int .i64, .int .i64, .int .i64]) := by kernel_rfl
theorem eqg121 : (Tryd.prog).eqGuardType (Tryd.prog).depth 121 = false := by kernel_rfl
@[simp] theorem neqA121 (a0 b0 : Int) (a1 b1 : Bool) (a2 b2 : Int) (a3 b3 : Int) (a4 b4 : Int) (a5 b5 : Int) (a6 b6 : Int) (a7 b7 : Int) (a8 b8 : Int) (K : Value → Prop) : aggBin Tryd.prog .neq 121 [.d (.s (.int .i64 a0)), .d (.s (.bool a1)), .d (.s (.int .i64 a2)), .d (.s (.int .i64 a3)), .d (.s (.int .i64 a4)), .d (.s (.int .i64 a5)), .d (.s (.int .i64 a6)), .d (.s (.int .i64 a7)), .d (.s (.int .i64 a8))] [.d (.s (.int .i64 b0)), .d (.s (.bool b1)), .d (.s (.int .i64 b2)), .d (.s (.int .i64 b3)), .d (.s (.int .i64 b4)), .d (.s (.int .i64 b5)), .d (.s (.int .i64 b6)), .d (.s (.int .i64 b7)), .d (.s (.int .i64 b8))] K = K (.bool (!(eqVs [.int .i64 a0, .bool a1, .int .i64 a2, .int .i64 a3, .int .i64 a4, .int .i64 a5, .int .i64 a6, .int .i64 a7, .int .i64 a8] [.int .i64 b0, .bool b1, .int .i64 b2, .int .i64 b3, .int .i64 b4, .int .i64 b5, .int .i64 b6, .int .i64 b7, .int .i64 b8]))) := agg_neq (xs := [.int .i64 a0, .bool a1, .int .i64 a2, .int .i64 a3, .int .i64 a4, .int .i64 a5, .int .i64 a6, .int .i64 a7, .int .i64 a8]) (ys := [.int .i64 b0, .bool b1, .int .i64 b2, .int .i64 b3, .int .i64 b4, .int .i64 b5, .int .i64 b6, .int .i64 b7, .int .i64 b8]) eqk121 (by decide) eqg121 rfl rfl K
@[simp] theorem eqlA121 (a0 b0 : Int) (a1 b1 : Bool) (a2 b2 : Int) (a3 b3 : Int) (a4 b4 : Int) (a5 b5 : Int) (a6 b6 : Int) (a7 b7 : Int) (a8 b8 : Int) (K : Value → Prop) : aggBin Tryd.prog .eql 121 [.d (.s (.int .i64 a0)), .d (.s (.bool a1)), .d (.s (.int .i64 a2)), .d (.s (.int .i64 a3)), .d (.s (.int .i64 a4)), .d (.s (.int .i64 a5)), .d (.s (.int .i64 a6)), .d (.s (.int .i64 a7)), .d (.s (.int .i64 a8))] [.d (.s (.int .i64 b0)), .d (.s (.bool b1)), .d (.s (.int .i64 b2)), .d (.s (.int .i64 b3)), .d (.s (.int .i64 b4)), .d (.s (.int .i64 b5)), .d (.s (.int .i64 b6)), .d (.s (.int .i64 b7)), .d (.s (.int .i64 b8))] K = K (.bool ((eqVs [.int .i64 a0, .bool a1, .int .i64 a2, .int .i64 a3, .int .i64 a4, .int .i64 a5, .int .i64 a6, .int .i64 a7, .int .i64 a8] [.int .i64 b0, .bool b1, .int .i64 b2, .int .i64 b3, .int .i64 b4, .int .i64 b5, .int .i64 b6, .int .i64 b7, .int .i64 b8]))) := agg_eql (xs := [.int .i64 a0, .bool a1, .int .i64 a2, .int .i64 a3, .int .i64 a4, .int .i64 a5, .int .i64 a6, .int .i64 a7, .int .i64 a8]) (ys := [.int .i64 b0, .bool b1, .int .i64 b2, .int .i64 b3, .int .i64 b4, .int .i64 b5, .int .i64 b6, .int .i64 b7, .int .i64 b8]) eqk121 (by decide) eqg121 rfl rfl K
@[simp] theorem ze121 : zeroT Tryd.prog 121 = some [.d (.s (.int .i64 0)), .d (.s (.bool false)), .d (.s (.int .i64 0)), .d (.s (.int .i64 0)), .d (.s (.int .i64 0)), .d (.s (.int .i64 0)), .d (.s (.int .i64 0)), .d (.s (.int .i64 0)), .d (.s (.int .i64 0))] := by kernel_rfl
@[simp] theorem fi121_0 : fieldT Tryd.prog 121 0 = some (0, 1, false) := by kernel_rfl
@[simp] theorem fi121_1 : fieldT Tryd.prog 121 1 = some (1, 1, false) := by kernel_rfl
@[simp] theorem fi121_2 : fieldT Tryd.prog 121 2 = some (2, 7, true) := by kernel_rfl
@[simp] theorem pl121 : placesT Tryd.prog 121 = some [(0, 1), (1, 1), (2, 7)] := by kernel_rfl
@[simp] theorem sz122 : szOf Tryd.prog 122 = some 1 := by kernel_rfl
@[simp] theorem ag122 : aggT Tryd.prog 122 = some false := by kernel_rfl
@[simp] theorem un122 : unitT Tryd.prog 122 = some 1 := by kernel_rfl
@[simp] theorem ze122 : zeroT Tryd.prog 122 = some [.d (.s .nilFunc)] := by kernel_rfl
@[simp] theorem sz123 : szOf Tryd.prog 123 = some 9 := by kernel_rfl
@[simp] theorem ag123 : aggT Tryd.prog 123 = some true := by kernel_rfl
@[simp] theorem un123 : unitT Tryd.prog 123 = some 9 := by kernel_rfl
theorem kd123 : kindT Tryd.prog 12 123 = some [.int .i64, .bool, .int .i64, .int .i64, .int .i64, .int .i64, .int .i64, .int .i64, .int .i64] := by kernel_rfl
theorem eqk123 : eqT Tryd.prog 8 123 = some (true, [.int .i64, .bool, .int .i64, .int .i64, .int .i64, .int .i64, .int .i64, .int .i64, .int .i64]) := by kernel_rfl
theorem eqg123 : (Tryd.prog).eqGuardType (Tryd.prog).depth 123 = false := by kernel_rfl
@[simp] theorem neqA123 (a0 b0 : Int) (a1 b1 : Bool) (a2 b2 : Int) (a3 b3 : Int) (a4 b4 : Int) (a5 b5 : Int) (a6 b6 : Int) (a7 b7 : Int) (a8 b8 : Int) (K : Value → Prop) : aggBin Tryd.prog .neq 123 [.d (.s (.int .i64 a0)), .d (.s (.bool a1)), .d (.s (.int .i64 a2)), .d (.s (.int .i64 a3)), .d (.s (.int .i64 a4)), .d (.s (.int .i64 a5)), .d (.s (.int .i64 a6)), .d (.s (.int .i64 a7)), .d (.s (.int .i64 a8))] [.d (.s (.int .i64 b0)), .d (.s (.bool b1)), .d (.s (.int .i64 b2)), .d (.s (.int .i64 b3)), .d (.s (.int .i64 b4)), .d (.s (.int .i64 b5)), .d (.s (.int .i64 b6)), .d (.s (.int .i64 b7)), .d (.s (.int .i64 b8))] K = K (.bool (!(eqVs [.int .i64 a0, .bool a1, .int .i64 a2, .int .i64 a3, .int .i64 a4, .int .i64 a5, .int .i64 a6, .int .i64 a7, .int .i64 a8] [.int .i64 b0, .bool b1, .int .i64 b2, .int .i64 b3, .int .i64 b4, .int .i64 b5, .int .i64 b6, .int .i64 b7, .int .i64 b8]))) := agg_neq (xs := [.int .i64 a0, .bool a1, .int .i64 a2, .int .i64 a3, .int .i64 a4, .int .i64 a5, .int .i64 a6, .int .i64 a7, .int .i64 a8]) (ys := [.int .i64 b0, .bool b1, .int .i64 b2, .int .i64 b3, .int .i64 b4, .int .i64 b5, .int .i64 b6, .int .i64 b7, .int .i64 b8]) eqk123 (by decide) eqg123 rfl rfl K
@[simp] theorem eqlA123 (a0 b0 : Int) (a1 b1 : Bool) (a2 b2 : Int) (a3 b3 : Int) (a4 b4 : Int) (a5 b5 : Int) (a6 b6 : Int) (a7 b7 : Int) (a8 b8 : Int) (K : Value → Prop) : aggBin Tryd.prog .eql 123 [.d (.s (.int .i64 a0)), .d (.s (.bool a1)), .d (.s (.int .i64 a2)), .d (.s (.int .i64 a3)), .d (.s (.int .i64 a4)), .d (.s (.int .i64 a5)), .d (.s (.int .i64 a6)), .d (.s (.int .i64 a7)), .d (.s (.int .i64 a8))] [.d (.s (.int .i64 b0)), .d (.s (.bool b1)), .d (.s (.int .i64 b2)), .d (.s (.int .i64 b3)), .d (.s (.int .i64 b4)), .d (.s (.int .i64 b5)), .d (.s (.int .i64 b6)), .d (.s (.int .i64 b7)), .d (.s (.int .i64 b8))] K = K (.bool ((eqVs [.int .i64 a0, .bool a1, .int .i64 a2, .int .i64 a3, .int .i64 a4, .int .i64 a5, .int .i64 a6, .int .i64 a7, .int .i64 a8] [.int .i64 b0, .bool b1, .int .i64 b2, .int .i64 b3, .int .i64 b4, .int .i64 b5, .int .i64 b6, .int .i64 b7, .int .i64 b8]))) := agg_eql (xs := [.int .i64 a0, .bool a1, .int .i64 a2, .int .i64 a3, .int .i64 a4, .int .i64 a5, .int .i64 a6, .int .i64 a7, .int .i64 a8]) (ys := [.int .i64 b0, .bool b1, .int .i64 b2, .int .i64 b3, .int .i64 b4, .int .i64 b5, .int .i64 b6, .int .i64 b7, .int .i64 b8]) eqk123 (by decide) eqg123 rfl rfl K
@[simp] theorem ze123 : zeroT Tryd.prog 123 = some [.d (.s (.int .i64 0)), .d (.s (.bool false)), .d (.s (.int .i64 0)), .d (.s (.int .i64 0)), .d (.s (.int .i64 0)), .d (.s (.int .i64 0)), .d (.s (.int .i64 0)), .d (.s (.int .i64 0)), .d (.s (.int .i64 0))] := by kernel_rfl
@[simp] theorem fi123_0 : fieldT Tryd.prog 123 0 = some (0, 1, false) := by kernel_rfl
@[simp] theorem fi123_1 : fieldT Tryd.prog 123 1 = some (1, 1, false) := by kernel_rfl
@[simp] theorem fi123_2 : fieldT Tryd.prog 123 2 = some (2, 7, true) := by kernel_rfl
@[simp] theorem pl123 : placesT Tryd.prog 123 = some [(0, 1), (1, 1), (2, 7)] := by kernel_rfl
@[simp] theorem sz124 : szOf Tryd.prog 124 = some 9 := by kernel_rfl
@[simp] theorem ag124 : aggT Tryd.prog 124 = some true := by kernel_rfl
@[simp] theorem un124 : unitT Tryd.prog 124 = some 9 := by kernel_rfl
theorem kd124 : kindT Tryd.prog 12 124 = some [.int .i64, .bool, .int .i64, .int .i64, .int .i64, .int .i64, .int .i64, .int .i64, .int .i64] := by kernel_rfl
theorem eqk124 : eqT Tryd.prog 8 124 = some (true, [.int .i64, .bool, .int .i64, .int .i64, .int .i64, .int .i64, .int .i64, .int .i64, .int .i64]) := by kernel_rfl
theorem eqg124 : (Tryd.prog).eqGuardType (Tryd.prog).depth 124 = false := by kernel_rfl
@[simp] theorem neqA124 (a0 b0 : Int) (a1 b1 : Bool) (a2 b2 : Int) (a3 b3 : Int) (a4 b4 : Int) (a5 b5 : Int) (a6 b6 : Int) (a7 b7 : Int) (a8 b8 : Int) (K : Value → Prop) : aggBin Tryd.prog .neq 124 [.d (.s (.int .i64 a0)), .d (.s (.bool a1)), .d (.s (.int .i64 a2)), .d (.s (.int .i64 a3)), .d (.s (.int .i64 a4)), .d (.s (.int .i64 a5)), .d (.s (.int .i64 a6)), .d (.s (.int .i64 a7)), .d (.s (.int .i64 a8))] [.d (.s (.int .i64 b0)), .d (.s (.bool b1)), .d (.s (.int .i64 b2)), .d (.s (.int .i64 b3)), .d (.s (.int .i64 b4)), .d (.s (.int .i64 b5)), .d (.s (.int .i64 b6)), .d (.s (.int .i64 b7)), .d (.s (.int .i64 b8))] K = K (.bool (!(eqVs [.int .i64 a0, .bool a1, .int .i64 a2, .int .i64 a3, .int .i64 a4, .int .i64 a5, .int .i64 a6, .int .i64 a7, .int .i64 a8] [.int .i64 b0, .bool b1, .int .i64 b2, .int .i64 b3, .int .i64 b4, .int .i64 b5, .int .i64 b6, .int .i64 b7, .int .i64 b8]))) := agg_neq (xs := [.int .i64 a0, .bool a1, .int .i64 a2, .int .i64 a3, .int .i64 a4, .int .i64 a5, .int .i64 a6, .int .i64 a7, .int .i64 a8]) (ys := [.int .i64 b0, .bool b1, .int .i64 b2, .int .i64 b3, .int .i64 b4, .int .i64 b5, .int .i64 b6, .int .i64 b7, .int .i64 b8]) eqk124 (by decide) eqg124 rfl rfl K
@[simp] theorem eqlA124 (a0 b0 : Int) (a1 b1 : Bool) (a2 b2 : Int) (a3 b3 : Int) (a4 b4 : Int) (a5 b5 : Int) (a6 b6 : Int) (a7 b7 : Int) (a8 b8 : Int) (K : Value → Prop) : aggBin Tryd.prog .eql 124 [.d (.s (.int .i64 a0)), .d (.s (.bool a1)), .d (.s (.int .i64 a2)), .d (.s (.int .i64 a3)), .d (.s (.int .i64 a4)), .d (.s (.int .i64 a5)), .d (.s (.int .i64 a6)), .d (.s (.int .i64 a7)), .d (.s (.int .i64 a8))] [.d (.s (.int .i64 b0)), .d (.s (.bool b1)), .d (.s (.int .i64 b2)), .d (.s (.int .i64 b3)), .d (.s (.int .i64 b4)), .d (.s (.int .i64 b5)), .d (.s (.int .i64 b6)), .d (.s (.int .i64 b7)), .d (.s (.int .i64 b8))] K = K (.bool ((eqVs [.int .i64 a0, .bool a1, .int .i64 a2, .int .i64 a3, .int .i64 a4, .int .i64 a5, .int .i64 a6, .int .i64 a7, .int .i64 a8] [.int .i64 b0, .bool b1, .int .i64 b2, .int .i64 b3, .int .i64 b4, .int .i64 b5, .int .i64 b6, .int .i64 b7, .int .i64 b8]))) := agg_eql (xs := [.int .i64 a0, .bool a1, .int .i64 a2, .int .i64 a3, .int .i64 a4, .int .i64 a5, .int .i64 a6, .int .i64 a7, .int .i64 a8]) (ys := [.int .i64 b0, .bool b1, .int .i64 b2, .int .i64 b3, .int .i64 b4, .int .i64 b5, .int .i64 b6, .int .i64 b7, .int .i64 b8]) eqk124 (by decide) eqg124 rfl rfl K
@[simp] theorem ze124 : zeroT Tryd.prog 124 = some [.d (.s (.int .i64 0)), .d (.s (.bool false)), .d (.s (.int .i64 0)), .d (.s (.int .i64 0)), .d (.s (.int .i64 0)), .d (.s (.int .i64 0)), .d (.s (.int .i64 0)), .d (.s (.int .i64 0)), .d (.s (.int .i64 0))] := by kernel_rfl
@[simp] theorem fi124_0 : fieldT Tryd.prog 124 0 = some (0, 1, false) := by kernel_rfl
@[simp] theorem fi124_1 : fieldT Tryd.prog 124 1 = some (1, 1, false) := by kernel_rfl
@[simp] theorem fi124_2 : fieldT Tryd.prog 124 2 = some (2, 7, true) := by kernel_rfl
@[simp] theorem pl124 : placesT Tryd.prog 124 = some [(0, 1), (1, 1), (2, 7)] := by kernel_rfl
@[simp] theorem sz125 : szOf Tryd.prog 125 = some 1 := by kernel_rfl
@[simp] theorem ag125 : aggT Tryd.prog 125 = some false := by kernel_rfl
@[simp] theorem un125 : unitT Tryd.prog 125 = some 1 := by kernel_rfl
@[simp] theorem ze125 : zeroT Tryd.prog 125 = some [.d (.s .nilFunc)] := by kernel_rfl
@[simp] theorem sz126 : szOf Tryd.prog 126 = some 1 := by kernel_rfl
@[simp] theorem ag126 : aggT Tryd.prog 126 = some false := by kernel_rfl
@[simp] theorem un126 : unitT Tryd.prog 126 = some 1 := by kernel_rfl
@[simp] theorem ze126 : zeroT Tryd.prog 126 = some [.d (.s .nilFunc)] := by kernel_rfl
@[simp] theorem sz127 : szOf Tryd.prog 127 = some 1 := by kernel_rfl
@[simp] theorem ag127 : aggT Tryd.prog 127 = some false := by kernel_rfl
@[simp] theorem un127 : unitT Tryd.prog 127 = some 1 := by kernel_rfl
@[simp] theorem ze127 : zeroT Tryd.prog 127 = some [.d (.s .nilFunc)] := by kernel_rfl
@[simp] theorem sz128 : szOf Tryd.prog 128 = some 1 := by kernel_rfl
@[simp] theorem ag128 : aggT Tryd.prog 128 = some false := by kernel_rfl
@[simp] theorem un128 : unitT Tryd.prog 128 = some 1 := by kernel_rfl
@[simp] theorem mpT128 : mapT Tryd.prog 128 = some (116, 25) := by kernel_rfl
@[simp] theorem ze128 : zeroT Tryd.prog 128 = some [.d (.s (.map none))] := by kernel_rfl
@[simp] theorem sz129 : szOf Tryd.prog 129 = some 1 := by kernel_rfl
@[simp] theorem ag129 : aggT Tryd.prog 129 = some false := by kernel_rfl
@[simp] theorem un129 : unitT Tryd.prog 129 = some 1 := by kernel_rfl
@[simp] theorem ze129 : zeroT Tryd.prog 129 = some [.d (.s .nilFunc)] := by kernel_rfl
@[simp] theorem sz130 : szOf Tryd.prog 130 = some 1 := by kernel_rfl
@[simp] theorem ag130 : aggT Tryd.prog 130 = some false := by kernel_rfl
@[simp] theorem un130 : unitT Tryd.prog 130 = some 1 := by kernel_rfl
@[simp] theorem sz131 : szOf Tryd.prog 131 = some 1 := by kernel_rfl
@[simp] theorem ag131 : aggT Tryd.prog 131 = some false := by kernel_rfl
@[simp] theorem un131 : unitT Tryd.prog 131 = some 1 := by kernel_rfl
@[simp] theorem ze131 : zeroT Tryd.prog 131 = some [.d (.s .nilFunc)] := by kernel_rfl
@[simp] theorem sz132 : szOf Tryd.prog 132 = some 1 := by kernel_rfl
@[simp] theorem ag132 : aggT Tryd.prog 132 = some false := by kernel_rfl
@[simp] theorem un132 : unitT Tryd.prog 132 = some 1 := by kernel_rfl
@[simp] theorem ze132 : zeroT Tryd.prog 132 = some [.d (.s .nilFunc)] := by kernel_rfl
@[simp] theorem sz133 : szOf Tryd.prog 133 = some 1 := by kernel_rfl
@[simp] theorem ag133 : aggT Tryd.prog 133 = some false := by kernel_rfl
@[simp] theorem un133 : unitT Tryd.prog 133 = some 1 := by kernel_rfl
@[simp] theorem ze133 : zeroT Tryd.prog 133 = some [.d (.s .nilFunc)] := by kernel_rfl
@[simp] theorem sz134 : szOf Tryd.prog 134 = some 19 := by kernel_rfl
@[simp] theorem ag134 : aggT Tryd.prog 134 = some true := by kernel_rfl
@[simp] theorem un134 : unitT Tryd.prog 134 = some 19 := by kernel_rfl
theorem kd134 : kindT Tryd.prog 12 134 = some [.int .i64, .int .i64, .int .i64, .int .i64, .int .i64, .int .i64, .int .i64, .int .i64, .int .i64, .int .i64, .int .i64, .int .i64, .int .i64, .int .i64, .int .i64, .int .i64, .int .i64, .bool, .int .i64] := by kernel_rfl
theorem eqk134 : eqT Tryd.prog 8 134 = some (true, [.int .i64, .int .i64, .int .i64, .int .i64, .int .i64, .int .i64, .int .i64, .int .i64, .int .i64, .int .i64, .int .i64, .int .i64, .int .i64, .int .i64, .int .i64, .int .i64, .int .i64, .bool, .int .i64]) := by kernel_rfl
theorem eqg134 : (Tryd.prog).eqGuardType (Tryd.prog).depth 134 = false := by kernel_rfl
@[simp] theorem neqA134 (a0 b0 : Int) (a1 b1 : Int) (a2 b2 : Int) (a3 b3 : Int) (a4 b4 : Int) (a5 b5 : Int) (a6 b6 : Int) (a7 b7 : Int) (a8 b8 : Int) (a9 b9 : Int) (a10 b10 : Int) (a11 b11 : Int) (a12 b12 : Int) (a13 b13 : Int) (a14 b14 : Int) (a15 b15 : Int) (a16 b16 : Int) (a17 b17 : Bool) (a18 b18 : Int) (K : Value → Prop) : aggBin Tryd.prog .neq 134 [.d (.s (.int .i64 a0)), .d (.s (.int .i64 a1)), .d (.s (.int .i64 a2)), .d (.s (.int .i64 a3)), .d (.s (.int .i64 a4)), .d (.s (.int .i64 a5)), .d (.s (.int .i64 a6)), .d (.s (.int .i64 a7)), .d (.s (.int .i64 a8)), .d (.s (.int .i64 a9)), .d (.s (.int .i64 a10)), .d (.s (.int .i64 a11)), .d (.s (.int .i64 a12)), .d (.s (.int .i64 a13)), .d (.s (.int .i64 a14)), .d (.s (.int .i64 a15)), .d (.s (.int .i64 a16)), .d (.s (.bool a17)), .d (.s (.int .i64 a18))] [.d (.s (.int .i64 b0)), .d (.s (.int .i64 b1)), .d (.s (.int .i64 b2)), .d (.s (.int .i64 b3)), .d (.s (.int .i64 b4)), .d (.s (.int .i64 b5)), .d (.s (.int .i64 b6)), .d (.s (.int .i64 b7)), .d (.s (.int .i64 b8)), .d (.s (.int .i64 b9)), .d (.s (.int .i64 b10)), .d (.s (.int .i64 b11)), .d (.s (.int .i64 b12)), .d (.s (.int .i64 b13)), .d (.s (.int .i64 b14)), .d (.s (.int .i64 b15)), .d (.s (.int .i64 b16)), .d (.s (.bool b17)), .d (.s (.int .i64 b18))] K = K (.bool (!(eqVs [.int .i64 a0, .int .i64 a1, .int .i64 a2, .int .i64 a3, .int .i64 a4, .int .i64 a5, .int .i64 a6, .int .i64 a7, .int .i64 a8, .int .i64 a9, .int .i64 a10, .int .i64 a11, .int .i64 a12, .int .i64 a13, .int .i64 a14, .int .i64 a15, .int .i64 a16, .bool a17, .int .i64 a18] [.int .i64 b0, .int .i64 b1, .int .i64 b2, .int .i64 b3, .int .i64 b4, .int .i64 b5, .int .i64 b6, .int .i64 b7, .int .i64 b8, .int .i64 b9, .int .i64 b10, .int .i64 b11, .int .i64 b12, .int .i64 b13, .int .i64 b14, .int .i64 b15, .int .i64 b16, .bool b17, .int .i64 b18]))) := agg_neq (xs := [.int .i64 a0, .int .i64 a1, .int .i64 a2, .int .i64 a3, .int .i64 a4, .int .i64 a5, .int .i64 a6, .int .i64 a7, .int .i64 a8, .int .i64 a9, .int .i64 a10, .int .i64 a11, .int .i64 a12, .int .i64 a13, .int .i64 a14, .int .i64 a15, .int .i64 a16, .bool a17, .int .i64 a18]) (ys := [.int .i64 b0, .int .i64 b1, .int .i64 b2, .int .i64 b3, .int .i64 b4, .int .i64 b5, .int .i64 b6, .int .i64 b7, .int .i64 b8, .int .i64 b9, .int .i64 b10, .int .i64 b11, .int .i64 b12, .int .i64 b13, .int .i64 b14, .int .i64 b15, .int .i64 b16, .bool b17, .int .i64 b18]) eqk134 (by decide) eqg134 rfl rfl K
@[simp] theorem eqlA134 (a0 b0 : Int) (a1 b1 : Int) (a2 b2 : Int) (a3 b3 : Int) (a4 b4 : Int) (a5 b5 : Int) (a6 b6 : Int) (a7 b7 : Int) (a8 b8 : Int) (a9 b9 : Int) (a10 b10 : Int) (a11 b11 : Int) (a12 b12 : Int) (a13 b13 : Int) (a14 b14 : Int) (a15 b15 : Int) (a16 b16 : Int) (a17 b17 : Bool) (a18 b18 : Int) (K : Value → Prop) : aggBin Tryd.prog .eql 134 [.d (.s (.int .i64 a0)), .d (.s (.int .i64 a1)), .d (.s (.int .i64 a2)), .d (.s (.int .i64 a3)), .d (.s (.int .i64 a4)), .d (.s (.int .i64 a5)), .d (.s (.int .i64 a6)), .d (.s (.int .i64 a7)), .d (.s (.int .i64 a8)), .d (.s (.int .i64 a9)), .d (.s (.int .i64 a10)), .d (.s (.int .i64 a11)), .d (.s (.int .i64 a12)), .d (.s (.int .i64 a13)), .d (.s (.int .i64 a14)), .d (.s (.int .i64 a15)), .d (.s (.int .i64 a16)), .d (.s (.bool a17)), .d (.s (.int .i64 a18))] [.d (.s (.int .i64 b0)), .d (.s (.int .i64 b1)), .d (.s (.int .i64 b2)), .d (.s (.int .i64 b3)), .d (.s (.int .i64 b4)), .d (.s (.int .i64 b5)), .d (.s (.int .i64 b6)), .d (.s (.int .i64 b7)), .d (.s (.int .i64 b8)), .d (.s (.int .i64 b9)), .d (.s (.int .i64 b10)), .d (.s (.int .i64 b11)), .d (.s (.int .i64 b12)), .d (.s (.int .i64 b13)), .d (.s (.int .i64 b14)), .d (.s (.int .i64 b15)), .d (.s (.int .i64 b16)), .d (.s (.bool b17)), .d (.s (.int .i64 b18))] K = K (.bool ((eqVs [.int .i64 a0, .int .i64 a1, .int .i64 a2, .int .i64 a3, .int .i64 a4, .int .i64 a5, .int .i64 a6, .int .i64 a7, .int .i64 a8, .int .i64 a9, .int .i64 a10, .int .i64 a11, .int .i64 a12, .int .i64 a13, .int .i64 a14, .int .i64 a15, .int .i64 a16, .bool a17, .int .i64 a18] [.int .i64 b0, .int .i64 b1, .int .i64 b2, .int .i64 b3, .int .i64 b4, .int .i64 b5, .int .i64 b6, .int .i64 b7, .int .i64 b8, .int .i64 b9, .int .i64 b10, .int .i64 b11, .int .i64 b12, .int .i64 b13, .int .i64 b14, .int .i64 b15, .int .i64 b16, .bool b17, .int .i64 b18]))) := agg_eql (xs := [.int .i64 a0, .int .i64 a1, .int .i64 a2, .int .i64 a3, .int .i64 a4, .int .i64 a5, .int .i64 a6, .int .i64 a7, .int .i64 a8, .int .i64 a9, .int .i64 a10, .int .i64 a11, .int .i64 a12, .int .i64 a13, .int .i64 a14, .int .i64 a15, .int .i64 a16, .bool a17, .int .i64 a18]) (ys := [.int .i64 b0, .int .i64 b1, .int .i64 b2, .int .i64 b3, .int .i64 b4, .int .i64 b5, .int .i64 b6, .int .i64 b7, .int .i64 b8, .int .i64 b9, .int .i64 b10, .int .i64 b11, .int .i64 b12, .int .i64 b13, .int .i64 b14, .int .i64 b15, .int .i64 b16, .bool b17, .int .i64 b18]) eqk134 (by decide) eqg134 rfl rfl K
@[simp] theorem ze134 : zeroT Tryd.prog 134 = some [.d (.s (.int .i64 0)), .d (.s (.int .i64 0)), .d (.s (.int .i64 0)), .d (.s (.int .i64 0)), .d (.s (.int .i64 0)), .d (.s (.int .i64 0)), .d (.s (.int .i64 0)), .d (.s (.int .i64 0)), .d (.s (.int .i64 0)), .d (.s (.int .i64 0)), .d (.s (.int .i64 0)), .d (.s (.int .i64 0)), .d (.s (.int .i64 0)), .d (.s (.int .i64 0)), .d (.s (.int .i64 0)), .d (.s (.int .i64 0)), .d (.s (.int .i64 0)), .d (.s (.bool false)), .d (.s (.int .i64 0))] := by kernel_rfl
@[simp] theorem fi134_0 : fieldT Tryd.prog 134 0 = some (0, 10, true) := by kernel_rfl
@[simp] theorem fi134_1 : fieldT Tryd.prog 134 1 = some (10, 7, true) := by kernel_rfl
@[simp] theorem fi134_2 : fieldT Tryd.prog 134 2 = some (17, 1, false) := by kernel_rfl
@[simp] theorem fi134_3 : fieldT Tryd.prog 134 3 = some (18, 1, false) := by kernel_rfl
@[simp] theorem pl134 : placesT Tryd.prog 134 = some [(0, 10), (10, 7), (17, 1), (18, 1)] := by kernel_rfl
@[simp] theorem sz135 : szOf Tryd.prog 135 = some 19 := by kernel_rfl
@[simp] theorem ag135 : aggT Tryd.prog 135 = some true := by kernel_rfl
@[simp] theorem un135 : unitT Tryd.prog 135 = some 19 := by kernel_rfl
theorem kd135 : kindT Tryd.prog 12 135 = some [.int .i64, .int .i64, .int .i64, .int .i64, .int .i64, .int .i64, .int .i64, .int .i64, .int .i64, .int .i64, .int .i64, .int .i64, .int .i64, .int .i64, .int .i64, .int .i64, .int .i64, .bool, .int .i64] := by kernel_rfl
theorem eqk135 : eqT Tryd.prog 8 135 = some (true, [.int .i64, .int .i64, .int .i64, .int .i64, .int .i64, .int .i64, .int .i64, .int .i64, .int .i64, .int .i64, .int .i64, .int .i64, .int .i64, .int .i64, .int .i64, .int .i64, .int .i64, .bool, .int .i64]) := by kernel_rfl
theorem eqg135 : (Tryd.prog).eqGuardType (Tryd.prog).depth 135 = false := by kernel_rfl
@[simp] theorem neqA135 (a0 b0 : Int) (a1 b1 : Int) (a2 b2 : Int) (a3 b3 : Int) (a4 b4 : Int) (a5 b5 : Int) (a6 b6 : Int) (a7 b7 : Int) (a8 b8 : Int) (a9 b9 : Int) (a10 b10 : Int) (a11 b11 : Int) (a12 b12 : Int) (a13 b13 : Int) (a14 b14 : Int) (a15 b15 : Int) (a16 b16 : Int) (a17 b17 : Bool) (a18 b18 : Int) (K : Value → Prop) : aggBin Tryd.prog .neq 135 [.d (.s (.int .i64 a0)), .d (.s (.int .i64 a1)), .d (.s (.int .i64 a2)), .d (.s (.int .i64 a3)), .d (.s (.int .i64 a4)), .d (.s (.int .i64 a5)), .d (.s (.int .i64 a6)), .d (.s (.int .i64 a7)), .d (.s (.int .i64 a8)), .d (.s (.int .i64 a9)), .d (.s (.int .i64 a10)), .d (.s (.int .i64 a11)), .d (.s (.int .i64 a12)), .d (.s (.int .i64 a13)), .d (.s (.int .i64 a14)), .d (.s (.int .i64 a15)), .d (.s (.int .i64 a16)), .d (.s (.bool a17)), .d (.s (.int .i64 a18))] [.d (.s (.int .i64 b0)), .d (.s (.int .i64 b1)), .d (.s (.int .i64 b2)), .d (.s (.int .i64 b3)), .d (.s (.int .i64 b4)), .d (.s (.int .i64 b5)), .d (.s (.int .i64 b6)), .d (.s (.int .i64 b7)), .d (.s (.int .i64 b8)), .d (.s (.int .i64 b9)), .d (.s (.int .i64 b10)), .d (.s (.int .i64 b11)), .d (.s (.int .i64 b12)), .d (.s (.int .i64 b13)), .d (.s (.int .i64 b14)), .d (.s (.int .i64 b15)), .d (.s (.int .i64 b16)), .d (.s (.bool b17)), .d (.s (.int .i64 b18))] K = K (.bool (!(eqVs [.int .i64 a0, .int .i64 a1, .int .i64 a2, .int .i64 a3, .int .i64 a4, .int .i64 a5, .int .i64 a6, .int .i64 a7, .int .i64 a8, .int .i64 a9, .int .i64 a10, .int .i64 a11, .int .i64 a12, .int .i64 a13, .int .i64 a14, .int .i64 a15, .int .i64 a16, .bool a17, .int .i64 a18] [.int .i64 b0, .int .i64 b1, .int .i64 b2, .int .i64 b3, .int .i64 b4, .int .i64 b5, .int .i64 b6, .int .i64 b7, .int .i64 b8, .int .i64 b9, .int .i64 b10, .int .i64 b11, .int .i64 b12, .int .i64 b13, .int .i64 b14, .int .i64 b15, .int .i64 b16, .bool b17, .int .i64 b18]))) := agg_neq (xs := [.int .i64 a0, .int .i64 a1, .int .i64 a2, .int .i64 a3, .int .i64 a4, .int .i64 a5, .int .i64 a6, .int .i64 a7, .int .i64 a8, .int .i64 a9, .int .i64 a10, .int .i64 a11, .int .i64 a12, .int .i64 a13, .int .i64 a14, .int .i64 a15, .int .i64 a16, .bool a17, .int .i64 a18]) (ys := [.int .i64 b0, .int .i64 b1, .int .i64 b2, .int .i64 b3, .int .i64 b4, .int .i64 b5, .int .i64 b6, .int .i64 b7, .int .i64 b8, .int .i64 b9, .int .i64 b10, .int .i64 b11, .int .i64 b12, .int .i64 b13, .int .i64 b14, .int .i64 b15, .int .i64 b16, .bool b17, .int .i64 b18]) eqk135 (by decide) eqg135 rfl rfl K
@[simp] theorem eqlA135 (a0 b0 : Int) (a1 b1 : Int) (a2 b2 : Int) (a3 b3 : Int) (a4 b4 : Int) (a5 b5 : Int) (a6 b6 : Int) (a7 b7 : Int) (a8 b8 : Int) (a9 b9 : Int) (a10 b10 : Int) (a11 b11 : Int) (a12 b12 : Int) (a13 b13 : Int) (a14 b14 : Int) (a15 b15 : Int) (a16 b16 : Int) (a17 b17 : Bool) (a18 b18 : Int) (K : Value → Prop) : aggBin Tryd.prog .eql 135 [.d (.s (.int .i64 a0)), .d (.s (.int .i64 a1)), .d (.s (.int .i64 a2)), .d (.s (.int .i64 a3)), .d (.s (.int .i64 a4)), .d (.s (.int .i64 a5)), .d (.s (.int .i64 a6)), .d (.s (.int .i64 a7)), .d (.s (.int .i64 a8)), .d (.s (.int .i64 a9)), .d (.s (.int .i64 a10)), .d (.s (.int .i64 a11)), .d (.s (.int .i64 a12)), .d (.s (.int .i64 a13)), .d (.s (.int .i64 a14)), .d (.s (.int .i64 a15)), .d (.s (.int .i64 a16)), .d (.s (.bool a17)), .d (.s (.int .i64 a18))] [.d (.s (.int .i64 b0)), .d (.s (.int .i64 b1)), .d (.s (.int .i64 b2)), .d (.s (.int .i64 b3)), .d (.s (.int .i64 b4)), .d (.s (.int .i64 b5)), .d (.s (.int .i64 b6)), .d (.s (.int .i64 b7)), .d (.s (.int .i64 b8)), .d (.s (.int .i64 b9)), .d (.s (.int .i64 b10)), .d (.s (.int .i64 b11)), .d (.s (.int .i64 b12)), .d (.s (.int .i64 b13)), .d (.s (.int .i64 b14)), .d (.s (.int .i64 b15)), .d (.s (.int .i64 b16)), .d (.s (.bool b17)), .d (.s (.int .i64 b18))] K = K (.bool ((eqVs [.int .i64 a0, .int .i64 a1, .int .i64 a2, .int .i64 a3, .int .i64 a4, .int .i64 a5, .int .i64 a6, .int .i64 a7, .int .i64 a8, .int .i64 a9, .int .i64 a10, .int .i64 a11, .int .i64 a12, .int .i64 a13, .int .i64 a14, .int .i64 a15, .int .i64 a16, .bool a17, .int .i64 a18] [.int .i64 b0, .int .i64 b1, .int .i64 b2, .int .i64 b3, .int .i64 b4, .int .i64 b5, .int .i64 b6, .int .i64 b7, .int .i64 b8, .int .i64 b9, .int .i64 b10, .int .i64 b11, .int .i64 b12, .int .i64 b13, .int .i64 b14, .int .i64 b15, .int .i64 b16, .bool b17, .int .i64 b18]))) := agg_eql (xs := [.int .i64 a0, .int .i64 a1, .int .i64 a2, .int .i64 a3, .int .i64 a4, .int .i64 a5, .int .i64 a6, .int .i64 a7, .int .i64 a8, .int .i64 a9, .int .i64 a10, .int .i64 a11, .int .i64 a12, .int .i64 a13, .int .i64 a14, .int .i64 a15, .int .i64 a16, .bool a17, .int .i64 a18]) (ys := [.int .i64 b0, .int .i64 b1, .int .i64 b2, .int .i64 b3, .int .i64 b4, .int .i64 b5, .int .i64 b6, .int .i64 b7, .int .i64 b8, .int .i64 b9, .int .i64 b10, .int .i64 b11, .int .i64 b12, .int .i64 b13, .int .i64 b14, .int .i64 b15, .int .i64 b16, .bool b17, .int .i64 b18]) eqk135 (by decide) eqg135 rfl rfl K
@[simp] theorem ze135 : zeroT Tryd.prog 135 = some [.d (.s (.int .i64 0)), .d (.s (.int .i64 0)), .d (.s (.int .i64 0)), .d (.s (.int .i64 0)), .d (.s (.int .i64 0)), .d (.s (.int .i64 0)), .d (.s (.int .i64 0)), .d (.s (.int .i64 0)), .d (.s (.int .i64 0)), .d (.s (.int .i64 0)), .d (.s (.int .i64 0)), .d (.s (.int .i64 0)), .d (.s (.int .i64 0)), .d (.s (.int .i64 0)), .d (.s (.int .i64 0)), .d (.s (.int .i64 0)), .d (.s (.int .i64 0)), .d (.s (.bool false)), .d (.s (.int .i64 0))] := by kernel_rfl
@[simp] theorem fi135_0 : fieldT Tryd.prog 135 0 = some (0, 10, true) := by kernel_rfl
@[simp] theorem fi135_1 : fieldT Tryd.prog 135 1 = some (10, 7, true) := by kernel_rfl
@[simp] theorem fi135_2 : fieldT Tryd.prog 135 2 = some (17, 1, false) := by kernel_rfl
@[simp] theorem fi135_3 : fieldT Tryd.prog 135 3 = some (18, 1, false) := by kernel_rfl
@[simp] theorem pl135 : placesT Tryd.prog 135 = some [(0, 10), (10, 7), (17, 1), (18, 1)] := by kernel_rfl
@[simp] theorem sz136 : szOf Tryd.prog 136 = some 1 := by kernel_rfl
@[simp] theorem ag136 : aggT Tryd.prog 136 = some false := by kernel_rfl
@[simp] theorem un136 : unitT Tryd.prog 136 = some 1 := by kernel_rfl
@[simp] theorem ze136 : zeroT Tryd.prog 136 = some [.d (.s .nilFunc)] := by kernel_rfl
@[simp] theorem sz137 : szOf Tryd.prog 137 = some 1 := by kernel_rfl
@[simp] theorem ag137 : aggT Tryd.prog 137 = some false := by kernel_rfl
@[simp] theorem un137 : unitT Tryd.prog 137 = some 1 := by kernel_rfl
@[simp] theorem ze137 : zeroT Tryd.prog 137 = some [.d (.s .nilFunc)] := by kernel_rfl
@[simp] theorem sz138 : szOf Tryd.prog 138 = some 1 := by kernel_rfl
@[simp] theorem ag138 : aggT Tryd.prog 138 = some false := by kernel_rfl
@[simp] theorem un138 : unitT Tryd.prog 138 = some 1 := by kernel_rfl
@[simp] theorem ze138 : zeroT Tryd.prog 138 = some [.d (.s (.pointer none))] := by kernel_rfl
@[simp] theorem sz139 : szOf Tryd.prog 139 = some 1 := by kernel_rfl
@[simp] theorem ag139 : aggT Tryd.prog 139 = some false := by kernel_rfl
@[simp] theorem un139 : unitT Tryd.prog 139 = some 1 := by kernel_rfl
@[simp] theorem ze139 : zeroT Tryd.prog 139 = some [.d (.s .nilFunc)] := by kernel_rfl
@[simp] theorem sz140 : szOf Tryd.prog 140 = some 1 := by kernel_rfl
@[simp] theorem ag140 : aggT Tryd.prog 140 = some false := by kernel_rfl
@[simp] theorem un140 : unitT Tryd.prog 140 = some 1 := by kernel_rfl
@[simp] theorem ze140 : zeroT Tryd.prog 140 = some [.d (.s .nilFunc)] := by kernel_rfl
@[simp] theorem sz141 : szOf Tryd.prog 141 = some 1 := by kernel_rfl
@[simp] theorem ag141 : aggT Tryd.prog 141 = some false := by kernel_rfl
@[simp] theorem un141 : unitT Tryd.prog 141 = some 1 := by kernel_rfl
@[simp] theorem ze141 : zeroT Tryd.prog 141 = some [.d (.s .nilFunc)] := by kernel_rfl
@[simp] theorem sz142 : szOf Tryd.prog 142 = some 1 := by kernel_rfl
@[simp] theorem ag142 : aggT Tryd.prog 142 = some false := by kernel_rfl
@[simp] theorem un142 : unitT Tryd.prog 142 = some 1 := by kernel_rfl
@[simp] theorem ze142 : zeroT Tryd.prog 142 = some [.d (.s .nilFunc)] := by kernel_rfl
@[simp] theorem sz143 : szOf Tryd.prog 143 = some 1 := by kernel_rfl
@[simp] theorem ag143 : aggT Tryd.prog 143 = some false := by kernel_rfl
@[simp] theorem un143 : unitT Tryd.prog 143 = some 1 := by kernel_rfl
@[simp] theorem ze143 : zeroT Tryd.prog 143 = some [.d (.s .nilIface)] := by kernel_rfl
@[simp] theorem sz144 : szOf Tryd.prog 144 = some 1 := by kernel_rfl
@[simp] theorem ag144 : aggT Tryd.prog 144 = some false := by kernel_rfl
@[simp] theorem un144 : unitT Tryd.prog 144 = some 1 := by kernel_rfl
@[simp] theorem ze144 : zeroT Tryd.prog 144 = some [.d (.s .nilIface)] := by kernel_rfl
@[simp] theorem sz145 : szOf Tryd.prog 145 = some 1 := by kernel_rfl
@[simp] theorem ag145 : aggT Tryd.prog 145 = some false := by kernel_rfl
@[simp] theorem un145 : unitT Tryd.prog 145 = some 1 := by kernel_rfl
@[simp] theorem ze145 : zeroT Tryd.prog 145 = some [.d (.s .nilFunc)] := by kernel_rfl
@[simp] theorem sz146 : szOf Tryd.prog 146 = some 1 := by kernel_rfl
@[simp] theorem ag146 : aggT Tryd.prog 146 = some false := by kernel_rfl
@[simp] theorem un146 : unitT Tryd.prog 146 = some 1 := by kernel_rfl
@[simp] theorem ze146 : zeroT Tryd.prog 146 = some [.d (.s .nilFunc)] := by kernel_rfl
@[simp] theorem sz147 : szOf Tryd.prog 147 = some 1 := by kernel_rfl
@[simp] theorem ag147 : aggT Tryd.prog 147 = some false := by kernel_rfl
@[simp] theorem un147 : unitT Tryd.prog 147 = some 1 := by kernel_rfl
@[simp] theorem ze147 : zeroT Tryd.prog 147 = some [.d (.s .nilFunc)] := by kernel_rfl
@[simp] theorem sz148 : szOf Tryd.prog 148 = some 1 := by kernel_rfl
@[simp] theorem ag148 : aggT Tryd.prog 148 = some false := by kernel_rfl
@[simp] theorem un148 : unitT Tryd.prog 148 = some 1 := by kernel_rfl
@[simp] theorem ze148 : zeroT Tryd.prog 148 = some [.d (.s .nilFunc)] := by kernel_rfl
@[simp] theorem sz149 : szOf Tryd.prog 149 = some 1 := by kernel_rfl
@[simp] theorem ag149 : aggT Tryd.prog 149 = some false := by kernel_rfl
@[simp] theorem un149 : unitT Tryd.prog 149 = some 1 := by kernel_rfl
@[simp] theorem ze149 : zeroT Tryd.prog 149 = some [.d (.s .nilFunc)] := by kernel_rfl
@[simp] theorem sz150 : szOf Tryd.prog 150 = some 1 := by kernel_rfl
@[simp] theorem ag150 : aggT Tryd.prog 150 = some true := by kernel_rfl
@[simp] theorem un150 : unitT Tryd.prog 150 = some 1 := by kernel_rfl
@[simp] theorem ze150 : zeroT Tryd.prog 150 = some [.d (.s (.pointer none))] := by kernel_rfl
@[simp] theorem fi150_0 : fieldT Tryd.prog 150 0 = some (0, 1, false) := by kernel_rfl
@[simp] theorem pl150 : placesT Tryd.prog 150 = some [(0, 1)] := by kernel_rfl
@[simp] theorem sz151 : szOf Tryd.prog 151 = some 1 := by kernel_rfl
@[simp] theorem ag151 : aggT Tryd.prog 151 = some true := by kernel_rfl
@[simp] theorem un151 : unitT Tryd.prog 151 = some 1 := by kernel_rfl
@[simp] theorem ze151 : zeroT Tryd.prog 151 = some [.d (.s (.pointer none))] := by kernel_rfl
@[simp] theorem fi151_0 : fieldT Tryd.prog 151 0 = some (0, 1, false) := by kernel_rfl
@[simp] theorem pl151 : placesT Tryd.prog 151 = some [(0, 1)] := by kernel_rfl
@[simp] theorem sz152 : szOf Tryd.prog 152 = some 1 := by kernel_rfl
@[simp] theorem ag152 : aggT Tryd.prog 152 = some false := by kernel_rfl
@[simp] theorem un152 : unitT Tryd.prog 152 = some 1 := by kernel_rfl
@[simp] theorem ze152 : zeroT Tryd.prog 152 = some [.d (.s (.pointer none))] := by kernel_rfl
@[simp] theorem sz153 : szOf Tryd.prog 153 = some 1 := by kernel_rfl
@[simp] theorem ag153 : aggT Tryd.prog 153 = some false := by kernel_rfl
@[simp] theorem un153 : unitT Tryd.prog 153 = some 1 := by kernel_rfl
@[simp] theorem ze153 : zeroT Tryd.prog 153 = some [.d (.s .nilIface)] := by kernel_rfl
@[simp] theorem sz154 : szOf Tryd.prog 154 = some 1 := by kernel_rfl
@[simp] theorem ag154 : aggT Tryd.prog 154 = some false := by kernel_rfl
@[simp] theorem un154 : unitT Tryd.prog 154 = some 1 := by kernel_rfl
@[simp] theorem sz155 : szOf Tryd.prog 155 = some 1 := by kernel_rfl
@[simp] theorem ag155 : aggT Tryd.prog 155 = some false := by kernel_rfl
@[simp] theorem un155 : unitT Tryd.prog 155 = some 1 := by kernel_rfl
@[simp] theorem ze155 : zeroT Tryd.prog 155 = some [.d (.s .nilFunc)] := by kernel_rfl
@[simp] theorem sz156 : szOf Tryd.prog 156 = some 1 := by kernel_rfl
@[simp] theorem ag156 : aggT Tryd.prog 156 = some false := by kernel_rfl
@[simp] theorem un156 : unitT Tryd.prog 156 = some 1 := by kernel_rfl
@[simp] theorem ze156 : zeroT Tryd.prog 156 = some [.d (.s .nilIface)] := by kernel_rfl
@[simp] theorem sz157 : szOf Tryd.prog 157 = some 1 := by kernel_rfl
@[simp] theorem ag157 : aggT Tryd.prog 157 = some false := by kernel_rfl
@[simp] theorem un157 : unitT Tryd.prog 157 = some 1 := by kernel_rfl
@[simp] theorem ze157 : zeroT Tryd.prog 157 = some [.d (.s .nilFunc)] := by kernel_rfl
@[simp] theorem sz158 : szOf Tryd.prog 158 = some 1 := by kernel_rfl
@[simp] theorem ag158 : aggT Tryd.prog 158 = some false := by kernel_rfl
@[simp] theorem un158 : unitT Tryd.prog 158 = some 1 := by kernel_rfl
@[simp] theorem ze158 : zeroT Tryd.prog 158 = some [.d (.s .nilIface)] := by kernel_rfl
@[simp] theorem sz159 : szOf Tryd.prog 159 = some 1 := by kernel_rfl
@[simp] theorem ag159 : aggT Tryd.prog 159 = some false := by kernel_rfl
@[simp] theorem un159 : unitT Tryd.prog 159 = some 1 := by kernel_rfl
@[simp] theorem sl159 : sliceT Tryd.prog 159 = some (97, 1, 16) := by kernel_rfl
@[simp] theorem ze159 : zeroT Tryd.prog 159 = some [.d .nil] := by kernel_rfl
@[simp] theorem sz160 : szOf Tryd.prog 160 = some 1 := by kernel_rfl
@[simp] theorem ag160 : aggT Tryd.prog 160 = some false := by kernel_rfl
@[simp] theorem un160 : unitT Tryd.prog 160 = some 1 := by kernel_rfl
@[simp] theorem ze160 : zeroT Tryd.prog 160 = some [.d (.s .nilFunc)] := by kernel_rfl
@[simp] theorem sz161 : szOf Tryd.prog 161 = some 1 := by kernel_rfl
@[simp] theorem ag161 : aggT Tryd.prog 161 = some false := by kernel_rfl
@[simp] theorem un161 : unitT Tryd.prog 161 = some 1 := by kernel_rfl
theorem kd161 : kindT Tryd.prog 12 161 = some [.slice [.int .i64]] := by kernel_rfl
@[simp] theorem sl161 : sliceT Tryd.prog 161 = some (3, 1, 8) := by kernel_rfl
@[simp] theorem ze161 : zeroT Tryd.prog 161 = some [.d .nil] := by kernel_rfl
@[simp] theorem sz162 : szOf Tryd.prog 162 = some 1 := by kernel_rfl
@[simp] theorem ag162 : aggT Tryd.prog 162 = some false := by kernel_rfl
@[simp] theorem un162 : unitT Tryd.prog 162 = some 1 := by kernel_rfl
@[simp] theorem ze162 : zeroT Tryd.prog 162 = some [.d (.s (.pointer none))] := by kernel_rfl
@[simp] theorem sz163 : szOf Tryd.prog 163 = some 1 := by kernel_rfl
@[simp] theorem ag163 : aggT Tryd.prog 163 = some false := by kernel_rfl
@[simp] theorem un163 : unitT Tryd.prog 163 = some 1 := by kernel_rfl
@[simp] theorem ze163 : zeroT Tryd.prog 163 = some [.d (.s .nilFunc)] := by kernel_rfl
@[simp] theorem sz164 : szOf Tryd.prog 164 = some 4 := by kernel_rfl
@[simp] theorem ag164 : aggT Tryd.prog 164 = some true := by kernel_rfl
@[simp] theorem un164 : unitT Tryd.prog 164 = some 4 := by kernel_rfl
@[simp] theorem ze164 : zeroT Tryd.prog 164 = some [.d (.s (.pointer none)), .d (.s (.pointer none)), .d (.s (.pointer none)), .d (.s (.string ByteArray.empty))] := by kernel_rfl
@[simp] theorem fi164_0 : fieldT Tryd.prog 164 0 = some (0, 1, false) := by kernel_rfl
@[simp] theorem fi164_1 : fieldT Tryd.prog 164 1 = some (1, 1, false) := by kernel_rfl
@[simp] theorem fi164_2 : fieldT Tryd.prog 164 2 = some (2, 1, false) := by kernel_rfl
@[simp] theorem fi164_3 : fieldT Tryd.prog 164 3 = some (3, 1, false) := by kernel_rfl
@[simp] theorem pl164 : placesT Tryd.prog 164 = some [(0, 1), (1, 1), (2, 1), (3, 1)] := by kernel_rfl
@[simp] theorem sz165 : szOf Tryd.prog 165 = some 4 := by kernel_rfl
@[simp] theorem ag165 : aggT Tryd.prog 165 = some true := by kernel_rfl
@[simp] theorem un165 : unitT Tryd.prog 165 = some 4 := by kernel_rfl
@[simp] theorem ze165 : zeroT Tryd.prog 165 = some [.d (.s (.pointer none)), .d (.s (.pointer none)), .d (.s (.pointer none)), .d (.s (.string ByteArray.empty))] := by kernel_rfl
@[simp] theorem fi165_0 : fieldT Tryd.prog 165 0 = some (0, 1, false) := by kernel_rfl
@[simp] theorem fi165_1 : fieldT Tryd.prog 165 1 = some (1, 1, false) := by kernel_rfl
@[simp] theorem fi165_2 : fieldT Tryd.prog 165 2 = some (2, 1, false) := by kernel_rfl
@[simp] theorem fi165_3 : fieldT Tryd.prog 165 3 = some (3, 1, false) := by kernel_rfl
@[simp] theorem pl165 : placesT Tryd.prog 165 = some [(0, 1), (1, 1), (2, 1), (3, 1)] := by kernel_rfl
@[simp] theorem sz166 : szOf Tryd.prog 166 = some 0 := by kernel_rfl
@[simp] theorem ag166 : aggT Tryd.prog 166 = some true := by kernel_rfl
@[simp] theorem un166 : unitT Tryd.prog 166 = some 1 := by kernel_rfl
@[simp] theorem pl166 : placesT Tryd.prog 166 = some [] := by kernel_rfl
@[simp] theorem ar166 : arrT Tryd.prog 166 = some (0, 16, 1) := by kernel_rfl
@[simp] theorem sl166 : sliceT Tryd.prog 166 = none := by kernel_rfl
@[simp] theorem ze166 : zeroT Tryd.prog 166 = some [] := by kernel_rfl
@[simp] theorem sz167 : szOf Tryd.prog 167 = some 0 := by kernel_rfl
@[simp] theorem ag167 : aggT Tryd.prog 167 = some true := by kernel_rfl
@[simp] theorem un167 : unitT Tryd.prog 167 = some 0 := by kernel_rfl
@[simp] theorem ze167 : zeroT Tryd.prog 167 = some [] := by kernel_rfl
@[simp] theorem fi167_0 : fieldT Tryd.prog 167 0 = some (0, 0, true) := by kernel_rfl
@[simp] theorem pl167 : placesT Tryd.prog 167 = some [(0, 0)] := by kernel_rfl
@[simp] theorem sz168 : szOf Tryd.prog 168 = some 0 := by kernel_rfl
@[simp] theorem ag168 : aggT Tryd.prog 168 = some true := by kernel_rfl
@[simp] theorem un168 : unitT Tryd.prog 168 = some 0 := by kernel_rfl
@[simp] theorem ze168 : zeroT Tryd.prog 168 = some [] := by kernel_rfl
@[simp] theorem fi168_0 : fieldT Tryd.prog 168 0 = some (0, 0, true) := by kernel_rfl
@[simp] theorem pl168 : placesT Tryd.prog 168 = some [(0, 0)] := by kernel_rfl
@[simp] theorem sz169 : szOf Tryd.prog 169 = some 1 := by kernel_rfl
@[simp] theorem ag169 : aggT Tryd.prog 169 = some false := by kernel_rfl
@[simp] theorem un169 : unitT Tryd.prog 169 = some 1 := by kernel_rfl
@[simp] theorem ze169 : zeroT Tryd.prog 169 = some [.d (.s .nilFunc)] := by kernel_rfl
@[simp] theorem sz170 : szOf Tryd.prog 170 = some 1 := by kernel_rfl
@[simp] theorem ag170 : aggT Tryd.prog 170 = some false := by kernel_rfl
@[simp] theorem un170 : unitT Tryd.prog 170 = some 1 := by kernel_rfl
theorem kd170 : kindT Tryd.prog 12 170 = some [.int .u32] := by kernel_rfl
@[simp] theorem ze170 : zeroT Tryd.prog 170 = some [.d (.s (.int .u32 0))] := by kernel_rfl
@[simp] theorem sz171 : szOf Tryd.prog 171 = some 1 := by kernel_rfl
@[simp] theorem ag171 : aggT Tryd.prog 171 = some false := by kernel_rfl
@[simp] theorem un171 : unitT Tryd.prog 171 = some 1 := by kernel_rfl
theorem kd171 : kindT Tryd.prog 12 171 = some [.int .u8] := by kernel_rfl
@[simp] theorem ze171 : zeroT Tryd.prog 171 = some [.d (.s (.int .u8 0))] := by kernel_rfl
@[simp] theorem sz172 : szOf Tryd.prog 172 = some 1 := by kernel_rfl
@[simp] theorem ag172 : aggT Tryd.prog 172 = some false := by kernel_rfl
@[simp] theorem un172 : unitT Tryd.prog 172 = some 1 := by kernel_rfl
theorem kd172 : kindT Tryd.prog 12 172 = some [.int .u8] := by kernel_rfl
@[simp] theorem ze172 : zeroT Tryd.prog 172 = some [.d (.s (.int .u8 0))] := by kernel_rfl
@[simp] theorem sz173 : szOf Tryd.prog 173 = some 1 := by kernel_rfl
@[simp] theorem ag173 : aggT Tryd.prog 173 = some false := by kernel_rfl
@[simp] theorem un173 : unitT Tryd.prog 173 = some 1 := by kernel_rfl
@[simp] theorem ze173 : zeroT Tryd.prog 173 = some [.d (.s .nilFunc)] := by kernel_rfl
@[simp] theorem sz174 : szOf Tryd.prog 174 = some 1 := by kernel_rfl
@[simp] theorem ag174 : aggT Tryd.prog 174 = some false := by kernel_rfl
@[simp] theorem un174 : unitT Tryd.prog 174 = some 1 := by kernel_rfl
@[simp] theorem ze174 : zeroT Tryd.prog 174 = some [.d (.s (.pointer none))] := by kernel_rfl
@[simp] theorem sz175 : szOf Tryd.prog 175 = some 1 := by kernel_rfl
@[simp] theorem ag175 : aggT Tryd.prog 175 = some false := by kernel_rfl
@[simp] theorem un175 : unitT Tryd.prog 175 = some 1 := by kernel_rfl
theorem kd175 : kindT Tryd.prog 12 175 = some [.int .i32] := by kernel_rfl
@[simp] theorem ze175 : zeroT Tryd.prog 175 = some [.d (.s (.int .i32 0))] := by kernel_rfl
@[simp] theorem sz176 : szOf Tryd.prog 176 = some 1 := by kernel_rfl
@[simp] theorem ag176 : aggT Tryd.prog 176 = some false := by kernel_rfl
@[simp] theorem un176 : unitT Tryd.prog 176 = some 1 := by kernel_rfl
theorem kd176 : kindT Tryd.prog 12 176 = some [.int .i32] := by kernel_rfl
@[simp] theorem ze176 : zeroT Tryd.prog 176 = some [.d (.s (.int .i32 0))] := by kernel_rfl
@[simp] theorem sz177 : szOf Tryd.prog 177 = some 11 := by kernel_rfl
@[simp] theorem ag177 : aggT Tryd.prog 177 = some true := by kernel_rfl
@[simp] theorem un177 : unitT Tryd.prog 177 = some 11 := by kernel_rfl
@[simp] theorem ze177 : zeroT Tryd.prog 177 = some [.d (.s (.int .u64 0)), .d (.s (.int .u64 0)), .d (.s (.int .u32 0)), .d (.s (.int .u8 0)), .d (.s (.int .u8 0)), .d (.s (.int .u8 0)), .d (.s (.int .u8 0)), .d (.s .nilFunc), .d (.s (.pointer none)), .d (.s (.int .i32 0)), .d (.s (.int .i32 0))] := by kernel_rfl
@[simp] theorem fi177_0 : fieldT Tryd.prog 177 0 = some (0, 1, false) := by kernel_rfl
@[simp] theorem fi177_1 : fieldT Tryd.prog 177 1 = some (1, 1, false) := by kernel_rfl
@[simp] theorem fi177_2 : fieldT Tryd.prog 177 2 = some (2, 1, false) := by kernel_rfl
@[simp] theorem fi177_3 : fieldT Tryd.prog 177 3 = some (3, 1, false) := by kernel_rfl
@[simp] theorem fi177_4 : fieldT Tryd.prog 177 4 = some (4, 1, false) := by kernel_rfl
@[simp] theorem fi177_5 : fieldT Tryd.prog 177 5 = some (5, 1, false) := by kernel_rfl
@[simp] theorem fi177_6 : fieldT Tryd.prog 177 6 = some (6, 1, false) := by kernel_rfl
@[simp] theorem fi177_7 : fieldT Tryd.prog 177 7 = some (7, 1, false) := by kernel_rfl
@[simp] theorem fi177_8 : fieldT Tryd.prog 177 8 = some (8, 1, false) := by kernel_rfl
@[simp] theorem fi177_9 : fieldT Tryd.prog 177 9 = some (9, 1, false) := by kernel_rfl
@[simp] theorem fi177_10 : fieldT Tryd.prog 177 10 = some (10, 1, false) := by kernel_rfl
@[simp] theorem pl177 : placesT Tryd.prog 177 = some [(0, 1), (1, 1), (2, 1), (3, 1), (4, 1), (5, 1), (6, 1), (7, 1), (8, 1), (9, 1), (10, 1)] := by kernel_rfl
@[simp] theorem sz178 : szOf Tryd.prog 178 = some 11 := by kernel_rfl
@[simp] theorem ag178 : aggT Tryd.prog 178 = some true := by kernel_rfl
@[simp] theorem un178 : unitT Tryd.prog 178 = some 11 := by kernel_rfl
@[simp] theorem ze178 : zeroT Tryd.prog 178 = some [.d (.s (.int .u64 0)), .d (.s (.int .u64 0)), .d (.s (.int .u32 0)), .d (.s (.int .u8 0)), .d (.s (.int .u8 0)), .d (.s (.int .u8 0)), .d (.s (.int .u8 0)), .d (.s .nilFunc), .d (.s (.pointer none)), .d (.s (.int .i32 0)), .d (.s (.int .i32 0))] := by kernel_rfl
@[simp] theorem fi178_0 : fieldT Tryd.prog 178 0 = some (0, 1, false) := by kernel_rfl
@[simp] theorem fi178_1 : fieldT Tryd.prog 178 1 = some (1, 1, false) := by kernel_rfl
@[simp] theorem fi178_2 : fieldT Tryd.prog 178 2 = some (2, 1, false) := by kernel_rfl
@[simp] theorem fi178_3 : fieldT Tryd.prog 178 3 = some (3, 1, false) := by kernel_rfl
@[simp] theorem fi178_4 : fieldT Tryd.prog 178 4 = some (4, 1, false) := by kernel_rfl
@[simp] theorem fi178_5 : fieldT Tryd.prog 178 5 = some (5, 1, false) := by kernel_rfl
@[simp] theorem fi178_6 : fieldT Tryd.prog 178 6 = some (6, 1, false) := by kernel_rfl
@[simp] theorem fi178_7 : fieldT Tryd.prog 178 7 = some (7, 1, false) := by kernel_rfl
@[simp] theorem fi178_8 : fieldT Tryd.prog 178 8 = some (8, 1, false) := by kernel_rfl
@[simp] theorem fi178_9 : fieldT Tryd.prog 178 9 = some (9, 1, false) := by kernel_rfl
@[simp] theorem fi178_10 : fieldT Tryd.prog 178 10 = some (10, 1, false) := by kernel_rfl
@[simp] theorem pl178 : placesT Tryd.prog 178 = some [(0, 1), (1, 1), (2, 1), (3, 1), (4, 1), (5, 1), (6, 1), (7, 1), (8, 1), (9, 1), (10, 1)] := by kernel_rfl
@[simp] theorem sz179 : szOf Tryd.prog 179 = some 1 := by kernel_rfl
@[simp] theorem ag179 : aggT Tryd.prog 179 = some false := by kernel_rfl
@[simp] theorem un179 : unitT Tryd.prog 179 = some 1 := by kernel_rfl
@[simp] theorem ze179 : zeroT Tryd.prog 179 = some [.d (.s .nilFunc)] := by kernel_rfl
@[simp] theorem sz180 : szOf Tryd.prog 180 = some 1 := by kernel_rfl
@[simp] theorem ag180 : aggT Tryd.prog 180 = some false := by kernel_rfl
@[simp] theorem un180 : unitT Tryd.prog 180 = some 1 := by kernel_rfl
@[simp] theorem ze180 : zeroT Tryd.prog 180 = some [.d (.s .nilFunc)] := by kernel_rfl
@[simp] theorem sz181 : szOf Tryd.prog 181 = some 1 := by kernel_rfl
@[simp] theorem ag181 : aggT Tryd.prog 181 = some false := by kernel_rfl
@[simp] theorem un181 : unitT Tryd.prog 181 = some 1 := by kernel_rfl
@[simp] theorem ze181 : zeroT Tryd.prog 181 = some [.d (.s .nilFunc)] := by kernel_rfl
@[simp] theorem sz182 : szOf Tryd.prog 182 = some 1 := by kernel_rfl
@[simp] theorem ag182 : aggT Tryd.prog 182 = some false := by kernel_rfl
@[simp] theorem un182 : unitT Tryd.prog 182 = some 1 := by kernel_rfl
@[simp] theorem ze182 : zeroT Tryd.prog 182 = some [.d (.s .nilFunc)] := by kernel_rfl
@[simp] theorem sz183 : szOf Tryd.prog 183 = some 1 := by kernel_rfl
@[simp] theorem ag183 : aggT Tryd.prog 183 = some false := by kernel_rfl
@[simp] theorem un183 : unitT Tryd.prog 183 = some 1 := by kernel_rfl
@[simp] theorem ze183 : zeroT Tryd.prog 183 = some [.d (.s .nilFunc)] := by kernel_rfl
@[simp] theorem sz184 : szOf Tryd.prog 184 = some 1 := by kernel_rfl
@[simp] theorem ag184 : aggT Tryd.prog 184 = some false := by kernel_rfl
@[simp] theorem un184 : unitT Tryd.prog 184 = some 1 := by kernel_rfl
@[simp] theorem ze184 : zeroT Tryd.prog 184 = some [.d (.s .nilFunc)] := by kernel_rfl
@[simp] theorem sz185 : szOf Tryd.prog 185 = some 2 := by kernel_rfl
@[simp] theorem ag185 : aggT Tryd.prog 185 = some true := by kernel_rfl
@[simp] theorem un185 : unitT Tryd.prog 185 = some 2 := by kernel_rfl
theorem kd185 : kindT Tryd.prog 12 185 = some [.str, .int .u8] := by kernel_rfl
@[simp] theorem ze185 : zeroT Tryd.prog 185 = some [.d (.s (.string ByteArray.empty)), .d (.s (.int .u8 0))] := by kernel_rfl
@[simp] theorem fi185_0 : fieldT Tryd.prog 185 0 = some (0, 1, false) := by kernel_rfl
@[simp] theorem fi185_1 : fieldT Tryd.prog 185 1 = some (1, 1, false) := by kernel_rfl
@[simp] theorem pl185 : placesT Tryd.prog 185 = some [(0, 1), (1, 1)] := by kernel_rfl
@[simp] theorem sz186 : szOf Tryd.prog 186 = some 2 := by kernel_rfl
@[simp] theorem ag186 : aggT Tryd.prog 186 = some true := by kernel_rfl
@[simp] theorem un186 : unitT Tryd.prog 186 = some 2 := by kernel_rfl
theorem kd186 : kindT Tryd.prog 12 186 = some [.str, .int .u8] := by kernel_rfl
@[simp] theorem ze186 : zeroT Tryd.prog 186 = some [.d (.s (.string ByteArray.empty)), .d (.s (.int .u8 0))] := by kernel_rfl
@[simp] theorem fi186_0 : fieldT Tryd.prog 186 0 = some (0, 1, false) := by kernel_rfl
@[simp] theorem fi186_1 : fieldT Tryd.prog 186 1 = some (1, 1, false) := by kernel_rfl
@[simp] theorem pl186 : placesT Tryd.prog 186 = some [(0, 1), (1, 1)] := by kernel_rfl
@[simp] theorem sz187 : szOf Tryd.prog 187 = some 1 := by kernel_rfl
@[simp] theorem ag187 : aggT Tryd.prog 187 = some true := by kernel_rfl
@[simp] theorem un187 : unitT Tryd.prog 187 = some 1 := by kernel_rfl
theorem kd187 : kindT Tryd.prog 12 187 = some [.str] := by kernel_rfl
theorem eqk187 : eqT Tryd.prog 8 187 = some (true, [.str]) := by kernel_rfl
theorem eqg187 : (Tryd.prog).eqGuardType (Tryd.prog).depth 187 = false := by kernel_rfl
@[simp] theorem neqA187 (a0 b0 : ByteArray) (K : Value → Prop) : aggBin Tryd.prog .neq 187 [.d (.s (.string a0))] [.d (.s (.string b0))] K = K (.bool (!(eqVs [.string a0] [.string b0]))) := agg_neq (xs := [.string a0]) (ys := [.string b0]) eqk187 (by decide) eqg187 rfl rfl K
@[simp] theorem eqlA187 (a0 b0 : ByteArray) (K : Value → Prop) : aggBin Tryd.prog .eql 187 [.d (.s (.string a0))] [.d (.s (.string b0))] K = K (.bool ((eqVs [.string a0] [.string b0]))) := agg_eql (xs := [.string a0]) (ys := [.string b0]) eqk187 (by decide) eqg187 rfl rfl K
@[simp] theorem ze187 : zeroT Tryd.prog 187 = some [.d (.s (.string ByteArray.empty))] := by kernel_rfl
@[simp] theorem fi187_0 : fieldT Tryd.prog 187 0 = some (0, 1, false) := by kernel_rfl
@[simp] theorem pl187 : placesT Tryd.prog 187 = some [(0, 1)] := by kernel_rfl
@[simp] theorem sz188 : szOf Tryd.prog 188 = some 1 := by kernel_rfl
@[simp] theorem ag188 : aggT Tryd.prog 188 = some true := by kernel_rfl
@[simp] theorem un188 : unitT Tryd.prog 188 = some 1 := by kernel_rfl
theorem kd188 : kindT Tryd.prog 12 188 = some [.str] := by kernel_rfl
theorem eqk188 : eqT Tryd.prog 8 188 = some (true, [.str]) := by kernel_rfl
theorem eqg188 : (Tryd.prog).eqGuardType (Tryd.prog).depth 188 = false := by kernel_rfl
@[simp] theorem neqA188 (a0 b0 : ByteArray) (K : Value → Prop) : aggBin Tryd.prog .neq 188 [.d (.s (.string a0))] [.d (.s (.string b0))] K = K (.bool (!(eqVs [.string a0] [.string b0]))) := agg_neq (xs := [.string a0]) (ys := [.string b0]) eqk188 (by decide) eqg188 rfl rfl K
@[simp] theorem eqlA188 (a0 b0 : ByteArray) (K : Value → Prop) : aggBin Tryd.prog .eql 188 [.d (.s (.string a0))] [.d (.s (.string b0))] K = K (.bool ((eqVs [.string a0] [.string b0]))) := agg_eql (xs := [.string a0]) (ys := [.string b0]) eqk188 (by decide) eqg188 rfl rfl K
@[simp] theorem ze188 : zeroT Tryd.prog 188 = some [.d (.s (.string ByteArray.empty))] := by kernel_rfl
@[simp] theorem fi188_0 : fieldT Tryd.prog 188 0 = some (0, 1, false) := by kernel_rfl
@[simp] theorem pl188 : placesT Tryd.prog 188 = some [(0, 1)] := by kernel_rfl
@[simp] theorem sz189 : szOf Tryd.prog 189 = some 1 := by kernel_rfl
@[simp] theorem ag189 : aggT Tryd.prog 189 = some false := by kernel_rfl
@[simp] theorem un189 : unitT Tryd.prog 189 = some 1 := by kernel_rfl
@[simp] theorem ze189 : zeroT Tryd.prog 189 = some [.d (.s (.pointer none))] := by kernel_rfl
@[simp] theorem sz190 : szOf Tryd.prog 190 = some 1 := by kernel_rfl
@[simp] theorem ag190 : aggT Tryd.prog 190 = some false := by kernel_rfl
@[simp] theorem un190 : unitT Tryd.prog 190 = some 1 := by kernel_rfl
@[simp] theorem ze190 : zeroT Tryd.prog 190 = some [.d (.s (.pointer none))] := by kernel_rfl
@[simp] theorem sz191 : szOf Tryd.prog 191 = some 1 := by kernel_rfl
@[simp] theorem ag191 : aggT Tryd.prog 191 = some false := by kernel_rfl
@[simp] theorem un191 : unitT Tryd.prog 191 = some 1 := by kernel_rfl
@[simp] theorem ze191 : zeroT Tryd.prog 191 = some [.d (.s .nilFunc)] := by kernel_rfl
@[simp] theorem sz192 : szOf Tryd.prog 192 = some 1 := by kernel_rfl
@[simp] theorem ag192 : aggT Tryd.prog 192 = some false := by kernel_rfl
@[simp] theorem un192 : unitT Tryd.prog 192 = some 1 := by kernel_rfl
theorem kd192 : kindT Tryd.prog 12 192 = some [.int .u16] := by kernel_rfl
@[simp] theorem ze192 : zeroT Tryd.prog 192 = some [.d (.s (.int .u16 0))] := by kernel_rfl
@[simp] theorem sz193 : szOf Tryd.prog 193 = some 5 := by kernel_rfl
@[simp] theorem ag193 : aggT Tryd.prog 193 = some true := by kernel_rfl
@[simp] theorem un193 : unitT Tryd.prog 193 = some 5 := by kernel_rfl
theorem kd193 : kindT Tryd.prog 12 193 = some [.int .i32, .int .u16, .int .u16, .int .u32, .int .u32] := by kernel_rfl
@[simp] theorem ze193 : zeroT Tryd.prog 193 = some [.d (.s (.int .i32 0)), .d (.s (.int .u16 0)), .d (.s (.int .u16 0)), .d (.s (.int .u32 0)), .d (.s (.int .u32 0))] := by kernel_rfl
@[simp] theorem fi193_0 : fieldT Tryd.prog 193 0 = some (0, 1, false) := by kernel_rfl
@[simp] theorem fi193_1 : fieldT Tryd.prog 193 1 = some (1, 1, false) := by kernel_rfl
@[simp] theorem fi193_2 : fieldT Tryd.prog 193 2 = some (2, 1, false) := by kernel_rfl
@[simp] theorem fi193_3 : fieldT Tryd.prog 193 3 = some (3, 1, false) := by kernel_rfl
@[simp] theorem fi193_4 : fieldT Tryd.prog 193 4 = some (4, 1, false) := by kernel_rfl
@[simp] theorem pl193 : placesT Tryd.prog 193 = some [(0, 1), (1, 1), (2, 1), (3, 1), (4, 1)] := by kernel_rfl
@[simp] theorem sz194 : szOf Tryd.prog 194 = some 5 := by kernel_rfl
@[simp] theorem ag194 : aggT Tryd.prog 194 = some true := by kernel_rfl
@[simp] theorem un194 : unitT Tryd.prog 194 = some 5 := by kernel_rfl
theorem kd194 : kindT Tryd.prog 12 194 = some [.int .i32, .int .u16, .int .u16, .int .u32, .int .u32] := by kernel_rfl
@[simp] theorem ze194 : zeroT Tryd.prog 194 = some [.d (.s (.int .i32 0)), .d (.s (.int .u16 0)), .d (.s (.int .u16 0)), .d (.s (.int .u32 0)), .d (.s (.int .u32 0))] := by kernel_rfl
@[simp] theorem fi194_0 : fieldT Tryd.prog 194 0 = some (0, 1, false) := by kernel_rfl
@[simp] theorem fi194_1 : fieldT Tryd.prog 194 1 = some (1, 1, false) := by kernel_rfl
@[simp] theorem fi194_2 : fieldT Tryd.prog 194 2 = some (2, 1, false) := by kernel_rfl
@[simp] theorem fi194_3 : fieldT Tryd.prog 194 3 = some (3, 1, false) := by kernel_rfl
@[simp] theorem fi194_4 : fieldT Tryd.prog 194 4 = some (4, 1, false) := by kernel_rfl
@[simp] theorem pl194 : placesT Tryd.prog 194 = some [(0, 1), (1, 1), (2, 1), (3, 1), (4, 1)] := by kernel_rfl
@[simp] theorem sz195 : szOf Tryd.prog 195 = some 1 := by kernel_rfl
@[simp] theorem ag195 : aggT Tryd.prog 195 = some false := by kernel_rfl
@[simp] theorem un195 : unitT Tryd.prog 195 = some 1 := by kernel_rfl
theorem kd195 : kindT Tryd.prog 12 195 = some [.slice [.int .i32, .int .i32, .int .i32, .int .i32]] := by kernel_rfl
@[simp] theorem sl195 : sliceT Tryd.prog 195 = some (198, 4, 16) := by kernel_rfl
@[simp] theorem ze195 : zeroT Tryd.prog 195 = some [.d .nil] := by kernel_rfl
@[simp] theorem sz196 : szOf Tryd.prog 196 = some 1 := by kernel_rfl
@[simp] theorem ag196 : aggT Tryd.prog 196 = some false := by kernel_rfl
@[simp] theorem un196 : unitT Tryd.prog 196 = some 1 := by kernel_rfl
theorem kd196 : kindT Tryd.prog 12 196 = some [.int .i32] := by kernel_rfl
@[simp] theorem ze196 : zeroT Tryd.prog 196 = some [.d (.s (.int .i32 0))] := by kernel_rfl
@[simp] theorem sz197 : szOf Tryd.prog 197 = some 4 := by kernel_rfl
@[simp] theorem ag197 : aggT Tryd.prog 197 = some true := by kernel_rfl
@[simp] theorem un197 : unitT Tryd.prog 197 = some 4 := by kernel_rfl
theorem kd197 : kindT Tryd.prog 12 197 = some [.int .i32, .int .i32, .int .i32, .int .i32] := by kernel_rfl
@[simp] theorem ze197 : zeroT Tryd.prog 197 = some [.d (.s (.int .i32 0)), .d (.s (.int .i32 0)), .d (.s (.int .i32 0)), .d (.s (.int .i32 0))] := by kernel_rfl
@[simp] theorem fi197_0 : fieldT Tryd.prog 197 0 = some (0, 1, false) := by kernel_rfl
@[simp] theorem fi197_1 : fieldT Tryd.prog 197 1 = some (1, 1, false) := by kernel_rfl
@[simp] theorem fi197_2 : fieldT Tryd.prog 197 2 = some (2, 1, false) := by kernel_rfl
@[simp] theorem fi197_3 : fieldT Tryd.prog 197 3 = some (3, 1, false) := by kernel_rfl
@[simp] theorem pl197 : placesT Tryd.prog 197 = some [(0, 1), (1, 1), (2, 1), (3, 1)] := by kernel_rfl
@[simp] theorem sz198 : szOf Tryd.prog 198 = some 4 := by kernel_rfl
@[simp] theorem ag198 : aggT Tryd.prog 198 = some true := by kernel_rfl
@[simp] theorem un198 : unitT Tryd.prog 198 = some 4 := by kernel_rfl
theorem kd198 : kindT Tryd.prog 12 198 = some [.int .i32, .int .i32, .int .i32, .int .i32] := by kernel_rfl
@[simp] theorem ze198 : zeroT Tryd.prog 198 = some [.d (.s (.int .i32 0)), .d (.s (.int .i32 0)), .d (.s (.int .i32 0)), .d (.s (.int .i32 0))] := by kernel_rfl
@[simp] theorem fi198_0 : fieldT Tryd.prog 198 0 = some (0, 1, false) := by kernel_rfl
@[simp] theorem fi198_1 : fieldT Tryd.prog 198 1 = some (1, 1, false) := by kernel_rfl
@[simp] theorem fi198_2 : fieldT Tryd.prog 198 2 = some (2, 1, false) := by kernel_rfl
@[simp] theorem fi198_3 : fieldT Tryd.prog 198 3 = some (3, 1, false) := by kernel_rfl
@[simp] theorem pl198 : placesT Tryd.prog 198 = some [(0, 1), (1, 1), (2, 1), (3, 1)] := by kernel_rfl
@[simp] theorem sz199 : szOf Tryd.prog 199 = some 1 := by kernel_rfl
@[simp] theorem ag199 : aggT Tryd.prog 199 = some false := by kernel_rfl
@[simp] theorem un199 : unitT Tryd.prog 199 = some 1 := by kernel_rfl
@[simp] theorem ze199 : zeroT Tryd.prog 199 = some [.d (.s .nilFunc)] := by kernel_rfl
@[simp] theorem ca2 : callable Tryd.prog 2 = true := by kernel_rfl
@[simp] theorem ca3 : callable Tryd.prog 3 = true := by kernel_rfl
@[simp] theorem ca4 : callable Tryd.prog 4 = true := by kernel_rfl
@[simp] theorem ca5 : callable Tryd.prog 5 = true := by kernel_rfl
@[simp] theorem ca6 : callable Tryd.prog 6 = true := by kernel_rfl
@[simp] theorem ca7 : callable Tryd.prog 7 = true := by kernel_rfl
@[simp] theorem ca8 : callable Tryd.prog 8 = true := by kernel_rfl
@[simp] theorem ca9 : callable Tryd.prog 9 = true := by kernel_rfl
@[simp] theorem ca10 : callable Tryd.prog 10 = true := by kernel_rfl
@[simp] theorem ca11 : callable Tryd.prog 11 = true := by kernel_rfl
@[simp] theorem ca12 : callable Tryd.prog 12 = true := by kernel_rfl
@[simp] theorem ca13 : callable Tryd.prog 13 = true := by kernel_rfl
@[simp] theorem ca14 : callable Tryd.prog 14 = true := by kernel_rfl
@[simp] theorem ca15 : callable Tryd.prog 15 = true := by kernel_rfl
@[simp] theorem ca16 : callable Tryd.prog 16 = true := by kernel_rfl
@[simp] theorem ca17 : callable Tryd.prog 17 = true := by kernel_rfl
@[simp] theorem ca18 : callable Tryd.prog 18 = true := by kernel_rfl
@[simp] theorem ca19 : callable Tryd.prog 19 = true := by kernel_rfl
@[simp] theorem ca20 : callable Tryd.prog 20 = true := by kernel_rfl
@[simp] theorem ca21 : callable Tryd.prog 21 = true := by kernel_rfl
@[simp] theorem ca22 : callable Tryd.prog 22 = true := by kernel_rfl
@[simp] theorem ca23 : callable Tryd.prog 23 = true := by kernel_rfl
@[simp] theorem ca24 : callable Tryd.prog 24 = true := by kernel_rfl
@[simp] theorem ca25 : callable Tryd.prog 25 = true := by kernel_rfl
@[simp] theorem ca26 : callable Tryd.prog 26 = true := by kernel_rfl
@[simp] theorem ca27 : callable Tryd.prog 27 = true := by kernel_rfl
@[simp] theorem ca28 : callable Tryd.prog 28 = true := by kernel_rfl
@[simp] theorem ca29 : callable Tryd.prog 29 = true := by kernel_rfl
@[simp] theorem ca30 : callable Tryd.prog 30 = true := by kernel_rfl
@[simp] theorem ca31 : callable Tryd.prog 31 = true := by kernel_rfl
@[simp] theorem ca32 : callable Tryd.prog 32 = true := by kernel_rfl
@[simp] theorem ca33 : callable Tryd.prog 33 = true := by kernel_rfl
@[simp] theorem ca34 : callable Tryd.prog 34 = true := by kernel_rfl
@[simp] theorem ca35 : callable Tryd.prog 35 = true := by kernel_rfl
@[simp] theorem ca36 : callable Tryd.prog 36 = true := by kernel_rfl
@[simp] theorem ca37 : callable Tryd.prog 37 = true := by kernel_rfl
@[simp] theorem ca38 : callable Tryd.prog 38 = true := by kernel_rfl
@[simp] theorem ca39 : callable Tryd.prog 39 = true := by kernel_rfl
@[simp] theorem ca40 : callable Tryd.prog 40 = true := by kernel_rfl
@[simp] theorem ca41 : callable Tryd.prog 41 = true := by kernel_rfl
@[simp] theorem ca42 : callable Tryd.prog 42 = true := by kernel_rfl
@[simp] theorem ca43 : callable Tryd.prog 43 = true := by kernel_rfl
@[simp] theorem ca44 : callable Tryd.prog 44 = true := by kernel_rfl
@[simp] theorem ca45 : callable Tryd.prog 45 = true := by kernel_rfl
@[simp] theorem ca46 : callable Tryd.prog 46 = true := by kernel_rfl
@[simp] theorem ca47 : callable Tryd.prog 47 = true := by kernel_rfl
@[simp] theorem ca48 : callable Tryd.prog 48 = true := by kernel_rfl
@[simp] theorem ca49 : callable Tryd.prog 49 = true := by kernel_rfl
@[simp] theorem ca50 : callable Tryd.prog 50 = true := by kernel_rfl
@[simp] theorem ca51 : callable Tryd.prog 51 = true := by kernel_rfl
@[simp] theorem ca52 : callable Tryd.prog 52 = true := by kernel_rfl
@[simp] theorem ca53 : callable Tryd.prog 53 = true := by kernel_rfl
@[simp] theorem ca54 : callable Tryd.prog 54 = true := by kernel_rfl
@[simp] theorem ca55 : callable Tryd.prog 55 = true := by kernel_rfl
@[simp] theorem ca56 : callable Tryd.prog 56 = true := by kernel_rfl
@[simp] theorem ca57 : callable Tryd.prog 57 = true := by kernel_rfl
@[simp] theorem ca58 : callable Tryd.prog 58 = true := by kernel_rfl
@[simp] theorem ca59 : callable Tryd.prog 59 = true := by kernel_rfl
@[simp] theorem ca60 : callable Tryd.prog 60 = true := by kernel_rfl
@[simp] theorem ca61 : callable Tryd.prog 61 = true := by kernel_rfl
@[simp] theorem ca62 : callable Tryd.prog 62 = true := by kernel_rfl
@[simp] theorem ca63 : callable Tryd.prog 63 = true := by kernel_rfl
@[simp] theorem ca64 : callable Tryd.prog 64 = true := by kernel_rfl
@[simp] theorem ca65 : callable Tryd.prog 65 = true := by kernel_rfl
@[simp] theorem ca66 : callable Tryd.prog 66 = true := by kernel_rfl
@[simp] theorem ca67 : callable Tryd.prog 67 = true := by kernel_rfl
@[simp] theorem ca68 : callable Tryd.prog 68 = true := by kernel_rfl
@[simp] theorem ca69 : callable Tryd.prog 69 = true := by kernel_rfl
@[simp] theorem ca70 : callable Tryd.prog 70 = true := by kernel_rfl
@[simp] theorem ca71 : callable Tryd.prog 71 = true := by kernel_rfl
@[simp] theorem ca72 : callable Tryd.prog 72 = true := by kernel_rfl
@[simp] theorem ca73 : callable Tryd.prog 73 = true := by kernel_rfl
@[simp] theorem ca74 : callable Tryd.prog 74 = true := by kernel_rfl
@[simp] theorem ca75 : callable Tryd.prog 75 = true := by kernel_rfl
@[simp] theorem ca76 : callable Tryd.prog 76 = true := by kernel_rfl
@[simp] theorem ca77 : callable Tryd.prog 77 = true := by kernel_rfl
@[simp] theorem ca78 : callable Tryd.prog 78 = true := by kernel_rfl
@[simp] theorem ca79 : callable Tryd.prog 79 = true := by kernel_rfl
@[simp] theorem ca80 : callable Tryd.prog 80 = true := by kernel_rfl
@[simp] theorem ca81 : callable Tryd.prog 81 = true := by kernel_rfl
@[simp] theorem ca82 : callable Tryd.prog 82 = true := by kernel_rfl
@[simp] theorem ca83 : callable Tryd.prog 83 = true := by kernel_rfl
@[simp] theorem ca84 : callable Tryd.prog 84 = true := by kernel_rfl
@[simp] theorem ca85 : callable Tryd.prog 85 = true := by kernel_rfl
@[simp] theorem ca86 : callable Tryd.prog 86 = true := by kernel_rfl
@[simp] theorem ca88 : callable Tryd.prog 88 = true := by kernel_rfl
@[simp] theorem ca89 : callable Tryd.prog 89 = true := by kernel_rfl
@[simp] theorem ca90 : callable Tryd.prog 90 = true := by kernel_rfl
@[simp] theorem ca91 : callable Tryd.prog 91 = true := by kernel_rfl
@[simp] theorem ca92 : callable Tryd.prog 92 = true := by kernel_rfl
@[simp] theorem ca93 : callable Tryd.prog 93 = true := by kernel_rfl
@[simp] theorem ca94 : callable Tryd.prog 94 = true := by kernel_rfl
@[simp] theorem ca125 : callable Tryd.prog 125 = true := by kernel_rfl
@[simp] theorem ca133 : callable Tryd.prog 133 = true := by kernel_rfl
@[simp] theorem glob0 : globT 0 = some [.s (.int .i64 1), .s (.int .i64 1), .s (.int .i64 2), .s (.int .i64 2), .s (.int .i64 2), .s (.int .i64 2), .s (.int .i64 2), .s (.int .i64 3), .s (.int .i64 2)] := rfl
theorem mixed : Tryd.prog.follows .mixedOrders = true := by kernel_rfl
end Go.Proofs.YtplnbdjonnfcbaaDoor
