/- Closed facts on the types and functions of the translation. -/
import Derived.Test.YtledabakodggcaaGreatDoorProg
import Derived.KernelRfl
import Derived.Test.YtledabakodggcaaGreatDoorK4
namespace Go.Proofs.YtledabakodggcaaGreatDoor
open Go Go.Abs Go.Proofs
@[simp] theorem sz0 : szOf Tryz.prog 0 = some 1 := by kernel_rfl
@[simp] theorem ag0 : aggT Tryz.prog 0 = some false := by kernel_rfl
@[simp] theorem un0 : unitT Tryz.prog 0 = some 1 := by kernel_rfl
@[simp] theorem sz1 : szOf Tryz.prog 1 = some 1 := by kernel_rfl
@[simp] theorem ag1 : aggT Tryz.prog 1 = some false := by kernel_rfl
@[simp] theorem un1 : unitT Tryz.prog 1 = some 1 := by kernel_rfl
@[simp] theorem ze1 : zeroT Tryz.prog 1 = some [.d (.s .nilFunc)] := by kernel_rfl
@[simp] theorem sz2 : szOf Tryz.prog 2 = some 1 := by kernel_rfl
@[simp] theorem ag2 : aggT Tryz.prog 2 = some false := by kernel_rfl
@[simp] theorem un2 : unitT Tryz.prog 2 = some 1 := by kernel_rfl
theorem kd2 : kindT Tryz.prog 12 2 = some [.int .i64] := by kernel_rfl
@[simp] theorem ze2 : zeroT Tryz.prog 2 = some [.d (.s (.int .i64 0))] := by kernel_rfl
@[simp] theorem sz3 : szOf Tryz.prog 3 = some 1 := by kernel_rfl
@[simp] theorem ag3 : aggT Tryz.prog 3 = some false := by kernel_rfl
@[simp] theorem un3 : unitT Tryz.prog 3 = some 1 := by kernel_rfl
theorem kd3 : kindT Tryz.prog 12 3 = some [.int .i64] := by kernel_rfl
@[simp] theorem ze3 : zeroT Tryz.prog 3 = some [.d (.s (.int .i64 0))] := by kernel_rfl
@[simp] theorem sz4 : szOf Tryz.prog 4 = some 1 := by kernel_rfl
@[simp] theorem ag4 : aggT Tryz.prog 4 = some false := by kernel_rfl
@[simp] theorem un4 : unitT Tryz.prog 4 = some 1 := by kernel_rfl
theorem kd4 : kindT Tryz.prog 12 4 = some [.bool] := by kernel_rfl
@[simp] theorem ze4 : zeroT Tryz.prog 4 = some [.d (.s (.bool false))] := by kernel_rfl
@[simp] theorem sz5 : szOf Tryz.prog 5 = some 1 := by kernel_rfl
@[simp] theorem ag5 : aggT Tryz.prog 5 = some false := by kernel_rfl
@[simp] theorem un5 : unitT Tryz.prog 5 = some 1 := by kernel_rfl
theorem kd5 : kindT Tryz.prog 12 5 = some [.int .u8] := by kernel_rfl
@[simp] theorem ze5 : zeroT Tryz.prog 5 = some [.d (.s (.int .u8 0))] := by kernel_rfl
@[simp] theorem sz6 : szOf Tryz.prog 6 = some 1 := by kernel_rfl
@[simp] theorem ag6 : aggT Tryz.prog 6 = some false := by kernel_rfl
@[simp] theorem un6 : unitT Tryz.prog 6 = some 1 := by kernel_rfl
theorem kd6 : kindT Tryz.prog 12 6 = some [.int .u8] := by kernel_rfl
@[simp] theorem ze6 : zeroT Tryz.prog 6 = some [.d (.s (.int .u8 0))] := by kernel_rfl
@[simp] theorem sz7 : szOf Tryz.prog 7 = some 4 := by kernel_rfl
@[simp] theorem ag7 : aggT Tryz.prog 7 = some true := by kernel_rfl
@[simp] theorem un7 : unitT Tryz.prog 7 = some 4 := by kernel_rfl
theorem kd7 : kindT Tryz.prog 12 7 = some [.int .i64, .int .i64, .bool, .int .u8] := by kernel_rfl
theorem eqk7 : eqT Tryz.prog 8 7 = some (true, [.int .i64, .int .i64, .bool, .int .u8]) := by kernel_rfl
theorem eqg7 : (Tryz.prog).eqGuardType (Tryz.prog).depth 7 = false := by kernel_rfl
@[simp] theorem neqA7 (a0 b0 : Int) (a1 b1 : Int) (a2 b2 : Bool) (a3 b3 : Int) (K : Value → Prop) : aggBin Tryz.prog .neq 7 [.d (.s (.int .i64 a0)), .d (.s (.int .i64 a1)), .d (.s (.bool a2)), .d (.s (.int .u8 a3))] [.d (.s (.int .i64 b0)), .d (.s (.int .i64 b1)), .d (.s (.bool b2)), .d (.s (.int .u8 b3))] K = K (.bool (!(eqVs [.int .i64 a0, .int .i64 a1, .bool a2, .int .u8 a3] [.int .i64 b0, .int .i64 b1, .bool b2, .int .u8 b3]))) := agg_neq (xs := [.int .i64 a0, .int .i64 a1, .bool a2, .int .u8 a3]) (ys := [.int .i64 b0, .int .i64 b1, .bool b2, .int .u8 b3]) eqk7 (by decide) eqg7 rfl rfl K
@[simp] theorem eqlA7 (a0 b0 : Int) (a1 b1 : Int) (a2 b2 : Bool) (a3 b3 : Int) (K : Value → Prop) : aggBin Tryz.prog .eql 7 [.d (.s (.int .i64 a0)), .d (.s (.int .i64 a1)), .d (.s (.bool a2)), .d (.s (.int .u8 a3))] [.d (.s (.int .i64 b0)), .d (.s (.int .i64 b1)), .d (.s (.bool b2)), .d (.s (.int .u8 b3))] K = K (.bool ((eqVs [.int .i64 a0, .int .i64 a1, .bool a2, .int .u8 a3] [.int .i64 b0, .int .i64 b1, .bool b2, .int .u8 b3]))) := agg_eql (xs := [.int .i64 a0, .int .i64 a1, .bool a2, .int .u8 a3]) (ys := [.int .i64 b0, .int .i64 b1, .bool b2, .int .u8 b3]) eqk7 (by decide) eqg7 rfl rfl K
@[simp] theorem ze7 : zeroT Tryz.prog 7 = some [.d (.s (.int .i64 0)), .d (.s (.int .i64 0)), .d (.s (.bool false)), .d (.s (.int .u8 0))] := by kernel_rfl
@[simp] theorem fi7_0 : fieldT Tryz.prog 7 0 = some (0, 1, false) := by kernel_rfl
@[simp] theorem fi7_1 : fieldT Tryz.prog 7 1 = some (1, 1, false) := by kernel_rfl
@[simp] theorem fi7_2 : fieldT Tryz.prog 7 2 = some (2, 1, false) := by kernel_rfl
@[simp] theorem fi7_3 : fieldT Tryz.prog 7 3 = some (3, 1, false) := by kernel_rfl
@[simp] theorem pl7 : placesT Tryz.prog 7 = some [(0, 1), (1, 1), (2, 1), (3, 1)] := by kernel_rfl
@[simp] theorem sz8 : szOf Tryz.prog 8 = some 4 := by kernel_rfl
@[simp] theorem ag8 : aggT Tryz.prog 8 = some true := by kernel_rfl
@[simp] theorem un8 : unitT Tryz.prog 8 = some 4 := by kernel_rfl
theorem kd8 : kindT Tryz.prog 12 8 = some [.int .i64, .int .i64, .bool, .int .u8] := by kernel_rfl
theorem eqk8 : eqT Tryz.prog 8 8 = some (true, [.int .i64, .int .i64, .bool, .int .u8]) := by kernel_rfl
theorem eqg8 : (Tryz.prog).eqGuardType (Tryz.prog).depth 8 = false := by kernel_rfl
@[simp] theorem neqA8 (a0 b0 : Int) (a1 b1 : Int) (a2 b2 : Bool) (a3 b3 : Int) (K : Value → Prop) : aggBin Tryz.prog .neq 8 [.d (.s (.int .i64 a0)), .d (.s (.int .i64 a1)), .d (.s (.bool a2)), .d (.s (.int .u8 a3))] [.d (.s (.int .i64 b0)), .d (.s (.int .i64 b1)), .d (.s (.bool b2)), .d (.s (.int .u8 b3))] K = K (.bool (!(eqVs [.int .i64 a0, .int .i64 a1, .bool a2, .int .u8 a3] [.int .i64 b0, .int .i64 b1, .bool b2, .int .u8 b3]))) := agg_neq (xs := [.int .i64 a0, .int .i64 a1, .bool a2, .int .u8 a3]) (ys := [.int .i64 b0, .int .i64 b1, .bool b2, .int .u8 b3]) eqk8 (by decide) eqg8 rfl rfl K
@[simp] theorem eqlA8 (a0 b0 : Int) (a1 b1 : Int) (a2 b2 : Bool) (a3 b3 : Int) (K : Value → Prop) : aggBin Tryz.prog .eql 8 [.d (.s (.int .i64 a0)), .d (.s (.int .i64 a1)), .d (.s (.bool a2)), .d (.s (.int .u8 a3))] [.d (.s (.int .i64 b0)), .d (.s (.int .i64 b1)), .d (.s (.bool b2)), .d (.s (.int .u8 b3))] K = K (.bool ((eqVs [.int .i64 a0, .int .i64 a1, .bool a2, .int .u8 a3] [.int .i64 b0, .int .i64 b1, .bool b2, .int .u8 b3]))) := agg_eql (xs := [.int .i64 a0, .int .i64 a1, .bool a2, .int .u8 a3]) (ys := [.int .i64 b0, .int .i64 b1, .bool b2, .int .u8 b3]) eqk8 (by decide) eqg8 rfl rfl K
@[simp] theorem ze8 : zeroT Tryz.prog 8 = some [.d (.s (.int .i64 0)), .d (.s (.int .i64 0)), .d (.s (.bool false)), .d (.s (.int .u8 0))] := by kernel_rfl
@[simp] theorem fi8_0 : fieldT Tryz.prog 8 0 = some (0, 1, false) := by kernel_rfl
@[simp] theorem fi8_1 : fieldT Tryz.prog 8 1 = some (1, 1, false) := by kernel_rfl
@[simp] theorem fi8_2 : fieldT Tryz.prog 8 2 = some (2, 1, false) := by kernel_rfl
@[simp] theorem fi8_3 : fieldT Tryz.prog 8 3 = some (3, 1, false) := by kernel_rfl
@[simp] theorem pl8 : placesT Tryz.prog 8 = some [(0, 1), (1, 1), (2, 1), (3, 1)] := by kernel_rfl
@[simp] theorem sz9 : szOf Tryz.prog 9 = some 1 := by kernel_rfl
@[simp] theorem ag9 : aggT Tryz.prog 9 = some false := by kernel_rfl
@[simp] theorem un9 : unitT Tryz.prog 9 = some 1 := by kernel_rfl
theorem kd9 : kindT Tryz.prog 12 9 = some [.str] := by kernel_rfl
@[simp] theorem ze9 : zeroT Tryz.prog 9 = some [.d (.s (.string ByteArray.empty))] := by kernel_rfl
@[simp] theorem sz10 : szOf Tryz.prog 10 = some 1 := by kernel_rfl
@[simp] theorem ag10 : aggT Tryz.prog 10 = some false := by kernel_rfl
@[simp] theorem un10 : unitT Tryz.prog 10 = some 1 := by kernel_rfl
theorem kd10 : kindT Tryz.prog 12 10 = some [.str] := by kernel_rfl
@[simp] theorem ze10 : zeroT Tryz.prog 10 = some [.d (.s (.string ByteArray.empty))] := by kernel_rfl
@[simp] theorem sz11 : szOf Tryz.prog 11 = some 1 := by kernel_rfl
@[simp] theorem ag11 : aggT Tryz.prog 11 = some false := by kernel_rfl
@[simp] theorem un11 : unitT Tryz.prog 11 = some 1 := by kernel_rfl
theorem kd11 : kindT Tryz.prog 12 11 = some [.str] := by kernel_rfl
@[simp] theorem ze11 : zeroT Tryz.prog 11 = some [.d (.s (.string ByteArray.empty))] := by kernel_rfl
@[simp] theorem sz12 : szOf Tryz.prog 12 = some 1 := by kernel_rfl
@[simp] theorem ag12 : aggT Tryz.prog 12 = some false := by kernel_rfl
@[simp] theorem un12 : unitT Tryz.prog 12 = some 1 := by kernel_rfl
theorem kd12 : kindT Tryz.prog 12 12 = some [.int .u64] := by kernel_rfl
@[simp] theorem ze12 : zeroT Tryz.prog 12 = some [.d (.s (.int .u64 0))] := by kernel_rfl
@[simp] theorem sz13 : szOf Tryz.prog 13 = some 2 := by kernel_rfl
@[simp] theorem ag13 : aggT Tryz.prog 13 = some true := by kernel_rfl
@[simp] theorem un13 : unitT Tryz.prog 13 = some 2 := by kernel_rfl
theorem kd13 : kindT Tryz.prog 12 13 = some [.str, .int .u64] := by kernel_rfl
@[simp] theorem ze13 : zeroT Tryz.prog 13 = some [.d (.s (.string ByteArray.empty)), .d (.s (.int .u64 0))] := by kernel_rfl
@[simp] theorem fi13_0 : fieldT Tryz.prog 13 0 = some (0, 1, false) := by kernel_rfl
@[simp] theorem fi13_1 : fieldT Tryz.prog 13 1 = some (1, 1, false) := by kernel_rfl
@[simp] theorem pl13 : placesT Tryz.prog 13 = some [(0, 1), (1, 1)] := by kernel_rfl
@[simp] theorem sz14 : szOf Tryz.prog 14 = some 2 := by kernel_rfl
@[simp] theorem ag14 : aggT Tryz.prog 14 = some true := by kernel_rfl
@[simp] theorem un14 : unitT Tryz.prog 14 = some 2 := by kernel_rfl
theorem kd14 : kindT Tryz.prog 12 14 = some [.str, .int .u64] := by kernel_rfl
@[simp] theorem ze14 : zeroT Tryz.prog 14 = some [.d (.s (.string ByteArray.empty)), .d (.s (.int .u64 0))] := by kernel_rfl
@[simp] theorem fi14_0 : fieldT Tryz.prog 14 0 = some (0, 1, false) := by kernel_rfl
@[simp] theorem fi14_1 : fieldT Tryz.prog 14 1 = some (1, 1, false) := by kernel_rfl
@[simp] theorem pl14 : placesT Tryz.prog 14 = some [(0, 1), (1, 1)] := by kernel_rfl
@[simp] theorem sz15 : szOf Tryz.prog 15 = some 1 := by kernel_rfl
@[simp] theorem ag15 : aggT Tryz.prog 15 = some false := by kernel_rfl
@[simp] theorem un15 : unitT Tryz.prog 15 = some 1 := by kernel_rfl
@[simp] theorem ze15 : zeroT Tryz.prog 15 = some [.d (.s (.pointer none))] := by kernel_rfl
@[simp] theorem sz16 : szOf Tryz.prog 16 = some 1 := by kernel_rfl
@[simp] theorem ag16 : aggT Tryz.prog 16 = some false := by kernel_rfl
@[simp] theorem un16 : unitT Tryz.prog 16 = some 1 := by kernel_rfl
@[simp] theorem ze16 : zeroT Tryz.prog 16 = some [.d (.s (.pointer none))] := by kernel_rfl
@[simp] theorem sz17 : szOf Tryz.prog 17 = some 1 := by kernel_rfl
@[simp] theorem ag17 : aggT Tryz.prog 17 = some false := by kernel_rfl
@[simp] theorem un17 : unitT Tryz.prog 17 = some 1 := by kernel_rfl
@[simp] theorem ze17 : zeroT Tryz.prog 17 = some [.d (.s (.pointer none))] := by kernel_rfl
@[simp] theorem sz18 : szOf Tryz.prog 18 = some 1 := by kernel_rfl
@[simp] theorem ag18 : aggT Tryz.prog 18 = some true := by kernel_rfl
@[simp] theorem un18 : unitT Tryz.prog 18 = some 1 := by kernel_rfl
@[simp] theorem ze18 : zeroT Tryz.prog 18 = some [.d (.s (.pointer none))] := by kernel_rfl
@[simp] theorem fi18_0 : fieldT Tryz.prog 18 0 = some (0, 1, false) := by kernel_rfl
@[simp] theorem pl18 : placesT Tryz.prog 18 = some [(0, 1)] := by kernel_rfl
@[simp] theorem sz19 : szOf Tryz.prog 19 = some 1 := by kernel_rfl
@[simp] theorem ag19 : aggT Tryz.prog 19 = some true := by kernel_rfl
@[simp] theorem un19 : unitT Tryz.prog 19 = some 1 := by kernel_rfl
@[simp] theorem ze19 : zeroT Tryz.prog 19 = some [.d (.s (.pointer none))] := by kernel_rfl
@[simp] theorem fi19_0 : fieldT Tryz.prog 19 0 = some (0, 1, false) := by kernel_rfl
@[simp] theorem pl19 : placesT Tryz.prog 19 = some [(0, 1)] := by kernel_rfl
@[simp] theorem sz20 : szOf Tryz.prog 20 = some 1 := by kernel_rfl
@[simp] theorem ag20 : aggT Tryz.prog 20 = some false := by kernel_rfl
@[simp] theorem un20 : unitT Tryz.prog 20 = some 1 := by kernel_rfl
@[simp] theorem ze20 : zeroT Tryz.prog 20 = some [.d (.s .nilIface)] := by kernel_rfl
@[simp] theorem sz21 : szOf Tryz.prog 21 = some 1 := by kernel_rfl
@[simp] theorem ag21 : aggT Tryz.prog 21 = some false := by kernel_rfl
@[simp] theorem un21 : unitT Tryz.prog 21 = some 1 := by kernel_rfl
theorem kd21 : kindT Tryz.prog 12 21 = some [.int .i32] := by kernel_rfl
@[simp] theorem ze21 : zeroT Tryz.prog 21 = some [.d (.s (.int .i32 0))] := by kernel_rfl
@[simp] theorem sz22 : szOf Tryz.prog 22 = some 1 := by kernel_rfl
@[simp] theorem ag22 : aggT Tryz.prog 22 = some false := by kernel_rfl
@[simp] theorem un22 : unitT Tryz.prog 22 = some 1 := by kernel_rfl
theorem kd22 : kindT Tryz.prog 12 22 = some [.slice [.int .i64, .int .i64, .int .i64, .int .i64, .int .i64, .int .i64, .int .i64, .int .i64, .int .i64, .int .i64]] := by kernel_rfl
@[simp] theorem sl22 : sliceT Tryz.prog 22 = some (51, 10, 80) := by kernel_rfl
@[simp] theorem ze22 : zeroT Tryz.prog 22 = some [.d .nil] := by kernel_rfl
@[simp] theorem sz23 : szOf Tryz.prog 23 = some 1 := by kernel_rfl
@[simp] theorem ag23 : aggT Tryz.prog 23 = some false := by kernel_rfl
@[simp] theorem un23 : unitT Tryz.prog 23 = some 1 := by kernel_rfl
@[simp] theorem ze23 : zeroT Tryz.prog 23 = some [.d (.s .nilFunc)] := by kernel_rfl
@[simp] theorem sz24 : szOf Tryz.prog 24 = some 1 := by kernel_rfl
@[simp] theorem ag24 : aggT Tryz.prog 24 = some false := by kernel_rfl
@[simp] theorem un24 : unitT Tryz.prog 24 = some 1 := by kernel_rfl
theorem kd24 : kindT Tryz.prog 12 24 = some [.slice [.int .i64, .int .i64, .int .i64, .int .i64, .int .i64, .int .i64, .int .i64]] := by kernel_rfl
@[simp] theorem sl24 : sliceT Tryz.prog 24 = some (56, 7, 56) := by kernel_rfl
@[simp] theorem ze24 : zeroT Tryz.prog 24 = some [.d .nil] := by kernel_rfl
@[simp] theorem sz25 : szOf Tryz.prog 25 = some 1 := by kernel_rfl
@[simp] theorem ag25 : aggT Tryz.prog 25 = some false := by kernel_rfl
@[simp] theorem un25 : unitT Tryz.prog 25 = some 1 := by kernel_rfl
theorem kd25 : kindT Tryz.prog 12 25 = some [.slice [.int .i64, .bool, .int .i64, .int .i64, .int .i64, .int .i64, .int .i64, .int .i64, .int .i64]] := by kernel_rfl
@[simp] theorem sl25 : sliceT Tryz.prog 25 = some (103, 9, 72) := by kernel_rfl
@[simp] theorem ze25 : zeroT Tryz.prog 25 = some [.d .nil] := by kernel_rfl
@[simp] theorem sz26 : szOf Tryz.prog 26 = some 3 := by kernel_rfl
@[simp] theorem ag26 : aggT Tryz.prog 26 = some true := by kernel_rfl
@[simp] theorem un26 : unitT Tryz.prog 26 = some 3 := by kernel_rfl
theorem kd26 : kindT Tryz.prog 12 26 = some [.int .i64, .slice [.int .i64, .int .i64, .int .i64, .int .i64, .int .i64, .int .i64, .int .i64], .slice [.int .i64, .bool, .int .i64, .int .i64, .int .i64, .int .i64, .int .i64, .int .i64, .int .i64]] := by kernel_rfl
@[simp] theorem ze26 : zeroT Tryz.prog 26 = some [.d (.s (.int .i64 0)), .d .nil, .d .nil] := by kernel_rfl
@[simp] theorem fi26_0 : fieldT Tryz.prog 26 0 = some (0, 1, false) := by kernel_rfl
@[simp] theorem fi26_1 : fieldT Tryz.prog 26 1 = some (1, 1, false) := by kernel_rfl
@[simp] theorem fi26_2 : fieldT Tryz.prog 26 2 = some (2, 1, false) := by kernel_rfl
@[simp] theorem pl26 : placesT Tryz.prog 26 = some [(0, 1), (1, 1), (2, 1)] := by kernel_rfl
@[simp] theorem sz27 : szOf Tryz.prog 27 = some 3 := by kernel_rfl
@[simp] theorem ag27 : aggT Tryz.prog 27 = some true := by kernel_rfl
@[simp] theorem un27 : unitT Tryz.prog 27 = some 3 := by kernel_rfl
theorem kd27 : kindT Tryz.prog 12 27 = some [.int .i64, .slice [.int .i64, .int .i64, .int .i64, .int .i64, .int .i64, .int .i64, .int .i64], .slice [.int .i64, .bool, .int .i64, .int .i64, .int .i64, .int .i64, .int .i64, .int .i64, .int .i64]] := by kernel_rfl
@[simp] theorem ze27 : zeroT Tryz.prog 27 = some [.d (.s (.int .i64 0)), .d .nil, .d .nil] := by kernel_rfl
@[simp] theorem fi27_0 : fieldT Tryz.prog 27 0 = some (0, 1, false) := by kernel_rfl
@[simp] theorem fi27_1 : fieldT Tryz.prog 27 1 = some (1, 1, false) := by kernel_rfl
@[simp] theorem fi27_2 : fieldT Tryz.prog 27 2 = some (2, 1, false) := by kernel_rfl
@[simp] theorem pl27 : placesT Tryz.prog 27 = some [(0, 1), (1, 1), (2, 1)] := by kernel_rfl
@[simp] theorem sz28 : szOf Tryz.prog 28 = some 4 := by kernel_rfl
@[simp] theorem ag28 : aggT Tryz.prog 28 = some true := by kernel_rfl
@[simp] theorem un28 : unitT Tryz.prog 28 = some 4 := by kernel_rfl
theorem kd28 : kindT Tryz.prog 12 28 = some [.int .i64, .int .i64, .slice [.int .i64, .int .i64, .int .i64, .int .i64, .int .i64, .int .i64, .int .i64], .slice [.int .i64, .bool, .int .i64, .int .i64, .int .i64, .int .i64, .int .i64, .int .i64, .int .i64]] := by kernel_rfl
@[simp] theorem ze28 : zeroT Tryz.prog 28 = some [.d (.s (.int .i64 0)), .d (.s (.int .i64 0)), .d .nil, .d .nil] := by kernel_rfl
@[simp] theorem fi28_0 : fieldT Tryz.prog 28 0 = some (0, 1, false) := by kernel_rfl
@[simp] theorem fi28_1 : fieldT Tryz.prog 28 1 = some (1, 3, true) := by kernel_rfl
@[simp] theorem pl28 : placesT Tryz.prog 28 = some [(0, 1), (1, 3)] := by kernel_rfl
@[simp] theorem sz29 : szOf Tryz.prog 29 = some 4 := by kernel_rfl
@[simp] theorem ag29 : aggT Tryz.prog 29 = some true := by kernel_rfl
@[simp] theorem un29 : unitT Tryz.prog 29 = some 4 := by kernel_rfl
theorem kd29 : kindT Tryz.prog 12 29 = some [.int .i64, .int .i64, .slice [.int .i64, .int .i64, .int .i64, .int .i64, .int .i64, .int .i64, .int .i64], .slice [.int .i64, .bool, .int .i64, .int .i64, .int .i64, .int .i64, .int .i64, .int .i64, .int .i64]] := by kernel_rfl
@[simp] theorem ze29 : zeroT Tryz.prog 29 = some [.d (.s (.int .i64 0)), .d (.s (.int .i64 0)), .d .nil, .d .nil] := by kernel_rfl
@[simp] theorem fi29_0 : fieldT Tryz.prog 29 0 = some (0, 1, false) := by kernel_rfl
@[simp] theorem fi29_1 : fieldT Tryz.prog 29 1 = some (1, 3, true) := by kernel_rfl
@[simp] theorem pl29 : placesT Tryz.prog 29 = some [(0, 1), (1, 3)] := by kernel_rfl
@[simp] theorem sz30 : szOf Tryz.prog 30 = some 1 := by kernel_rfl
@[simp] theorem ag30 : aggT Tryz.prog 30 = some false := by kernel_rfl
@[simp] theorem un30 : unitT Tryz.prog 30 = some 1 := by kernel_rfl
@[simp] theorem ze30 : zeroT Tryz.prog 30 = some [.d (.s .nilFunc)] := by kernel_rfl
@[simp] theorem sz31 : szOf Tryz.prog 31 = some 1 := by kernel_rfl
@[simp] theorem ag31 : aggT Tryz.prog 31 = some false := by kernel_rfl
@[simp] theorem un31 : unitT Tryz.prog 31 = some 1 := by kernel_rfl
theorem kd31 : kindT Tryz.prog 12 31 = some [.slice [.int .i64, .int .i64, .int .i64, .int .i64, .int .i64, .int .i64, .int .i64, .int .i64, .int .i64, .int .i64]] := by kernel_rfl
@[simp] theorem sl31 : sliceT Tryz.prog 31 = some (58, 10, 80) := by kernel_rfl
@[simp] theorem ze31 : zeroT Tryz.prog 31 = some [.d .nil] := by kernel_rfl
@[simp] theorem sz32 : szOf Tryz.prog 32 = some 1 := by kernel_rfl
@[simp] theorem ag32 : aggT Tryz.prog 32 = some false := by kernel_rfl
@[simp] theorem un32 : unitT Tryz.prog 32 = some 1 := by kernel_rfl
@[simp] theorem ze32 : zeroT Tryz.prog 32 = some [.d (.s .nilFunc)] := by kernel_rfl
@[simp] theorem sz33 : szOf Tryz.prog 33 = some 1 := by kernel_rfl
@[simp] theorem ag33 : aggT Tryz.prog 33 = some false := by kernel_rfl
@[simp] theorem un33 : unitT Tryz.prog 33 = some 1 := by kernel_rfl
@[simp] theorem ze33 : zeroT Tryz.prog 33 = some [.d (.s .nilFunc)] := by kernel_rfl
@[simp] theorem sz34 : szOf Tryz.prog 34 = some 1 := by kernel_rfl
@[simp] theorem ag34 : aggT Tryz.prog 34 = some false := by kernel_rfl
@[simp] theorem un34 : unitT Tryz.prog 34 = some 1 := by kernel_rfl
@[simp] theorem ze34 : zeroT Tryz.prog 34 = some [.d (.s .nilFunc)] := by kernel_rfl
@[simp] theorem sz35 : szOf Tryz.prog 35 = some 1 := by kernel_rfl
@[simp] theorem ag35 : aggT Tryz.prog 35 = some false := by kernel_rfl
@[simp] theorem un35 : unitT Tryz.prog 35 = some 1 := by kernel_rfl
@[simp] theorem ze35 : zeroT Tryz.prog 35 = some [.d (.s .nilFunc)] := by kernel_rfl
@[simp] theorem sz36 : szOf Tryz.prog 36 = some 1 := by kernel_rfl
@[simp] theorem ag36 : aggT Tryz.prog 36 = some false := by kernel_rfl
@[simp] theorem un36 : unitT Tryz.prog 36 = some 1 := by kernel_rfl
@[simp] theorem ze36 : zeroT Tryz.prog 36 = some [.d (.s .nilFunc)] := by kernel_rfl
@[simp] theorem sz37 : szOf Tryz.prog 37 = some 1 := by kernel_rfl
@[simp] theorem ag37 : aggT Tryz.prog 37 = some false := by kernel_rfl
@[simp] theorem un37 : unitT Tryz.prog 37 = some 1 := by kernel_rfl
@[simp] theorem ze37 : zeroT Tryz.prog 37 = some [.d (.s .nilFunc)] := by kernel_rfl
@[simp] theorem sz38 : szOf Tryz.prog 38 = some 1 := by kernel_rfl
@[simp] theorem ag38 : aggT Tryz.prog 38 = some false := by kernel_rfl
@[simp] theorem un38 : unitT Tryz.prog 38 = some 1 := by kernel_rfl
theorem kd38 : kindT Tryz.prog 12 38 = some [.slice [.int .u8]] := by kernel_rfl
@[simp] theorem sl38 : sliceT Tryz.prog 38 = some (5, 1, 1) := by kernel_rfl
@[simp] theorem ze38 : zeroT Tryz.prog 38 = some [.d .nil] := by kernel_rfl
@[simp] theorem sz39 : szOf Tryz.prog 39 = some 6 := by kernel_rfl
@[simp] theorem ag39 : aggT Tryz.prog 39 = some true := by kernel_rfl
@[simp] theorem un39 : unitT Tryz.prog 39 = some 6 := by kernel_rfl
theorem kd39 : kindT Tryz.prog 12 39 = some [.int .i64, .slice [.int .i64, .int .i64, .int .i64, .int .i64, .int .i64, .int .i64, .int .i64, .int .i64, .int .i64, .int .i64], .int .i64, .slice [.int .i64, .int .i64, .int .i64, .int .i64, .int .i64, .int .i64, .int .i64], .slice [.int .i64, .bool, .int .i64, .int .i64, .int .i64, .int .i64, .int .i64, .int .i64, .int .i64], .int .i64] := by kernel_rfl
@[simp] theorem ze39 : zeroT Tryz.prog 39 = some [.d (.s (.int .i64 0)), .d .nil, .d (.s (.int .i64 0)), .d .nil, .d .nil, .d (.s (.int .i64 0))] := by kernel_rfl
@[simp] theorem fi39_0 : fieldT Tryz.prog 39 0 = some (0, 1, false) := by kernel_rfl
@[simp] theorem fi39_1 : fieldT Tryz.prog 39 1 = some (1, 1, false) := by kernel_rfl
@[simp] theorem fi39_2 : fieldT Tryz.prog 39 2 = some (2, 3, true) := by kernel_rfl
@[simp] theorem fi39_3 : fieldT Tryz.prog 39 3 = some (5, 1, false) := by kernel_rfl
@[simp] theorem pl39 : placesT Tryz.prog 39 = some [(0, 1), (1, 1), (2, 3), (5, 1)] := by kernel_rfl
@[simp] theorem sz40 : szOf Tryz.prog 40 = some 6 := by kernel_rfl
@[simp] theorem ag40 : aggT Tryz.prog 40 = some true := by kernel_rfl
@[simp] theorem un40 : unitT Tryz.prog 40 = some 6 := by kernel_rfl
theorem kd40 : kindT Tryz.prog 12 40 = some [.int .i64, .slice [.int .i64, .int .i64, .int .i64, .int .i64, .int .i64, .int .i64, .int .i64, .int .i64, .int .i64, .int .i64], .int .i64, .slice [.int .i64, .int .i64, .int .i64, .int .i64, .int .i64, .int .i64, .int .i64], .slice [.int .i64, .bool, .int .i64, .int .i64, .int .i64, .int .i64, .int .i64, .int .i64, .int .i64], .int .i64] := by kernel_rfl
@[simp] theorem ze40 : zeroT Tryz.prog 40 = some [.d (.s (.int .i64 0)), .d .nil, .d (.s (.int .i64 0)), .d .nil, .d .nil, .d (.s (.int .i64 0))] := by kernel_rfl
@[simp] theorem fi40_0 : fieldT Tryz.prog 40 0 = some (0, 1, false) := by kernel_rfl
@[simp] theorem fi40_1 : fieldT Tryz.prog 40 1 = some (1, 1, false) := by kernel_rfl
@[simp] theorem fi40_2 : fieldT Tryz.prog 40 2 = some (2, 3, true) := by kernel_rfl
@[simp] theorem fi40_3 : fieldT Tryz.prog 40 3 = some (5, 1, false) := by kernel_rfl
@[simp] theorem pl40 : placesT Tryz.prog 40 = some [(0, 1), (1, 1), (2, 3), (5, 1)] := by kernel_rfl
@[simp] theorem sz41 : szOf Tryz.prog 41 = some 1 := by kernel_rfl
@[simp] theorem ag41 : aggT Tryz.prog 41 = some false := by kernel_rfl
@[simp] theorem un41 : unitT Tryz.prog 41 = some 1 := by kernel_rfl
@[simp] theorem ze41 : zeroT Tryz.prog 41 = some [.d (.s .nilFunc)] := by kernel_rfl
@[simp] theorem sz42 : szOf Tryz.prog 42 = some 1 := by kernel_rfl
@[simp] theorem ag42 : aggT Tryz.prog 42 = some false := by kernel_rfl
@[simp] theorem un42 : unitT Tryz.prog 42 = some 1 := by kernel_rfl
@[simp] theorem ze42 : zeroT Tryz.prog 42 = some [.d (.s .nilFunc)] := by kernel_rfl
@[simp] theorem sz43 : szOf Tryz.prog 43 = some 1 := by kernel_rfl
@[simp] theorem ag43 : aggT Tryz.prog 43 = some false := by kernel_rfl
@[simp] theorem un43 : unitT Tryz.prog 43 = some 1 := by kernel_rfl
@[simp] theorem ze43 : zeroT Tryz.prog 43 = some [.d (.s .nilFunc)] := by kernel_rfl
@[simp] theorem sz44 : szOf Tryz.prog 44 = some 1 := by kernel_rfl
@[simp] theorem ag44 : aggT Tryz.prog 44 = some false := by kernel_rfl
@[simp] theorem un44 : unitT Tryz.prog 44 = some 1 := by kernel_rfl
@[simp] theorem ze44 : zeroT Tryz.prog 44 = some [.d (.s .nilFunc)] := by kernel_rfl
@[simp] theorem sz45 : szOf Tryz.prog 45 = some 1 := by kernel_rfl
@[simp] theorem ag45 : aggT Tryz.prog 45 = some false := by kernel_rfl
@[simp] theorem un45 : unitT Tryz.prog 45 = some 1 := by kernel_rfl
@[simp] theorem ze45 : zeroT Tryz.prog 45 = some [.d (.s .nilFunc)] := by kernel_rfl
@[simp] theorem sz46 : szOf Tryz.prog 46 = some 1 := by kernel_rfl
@[simp] theorem ag46 : aggT Tryz.prog 46 = some false := by kernel_rfl
@[simp] theorem un46 : unitT Tryz.prog 46 = some 1 := by kernel_rfl
@[simp] theorem ze46 : zeroT Tryz.prog 46 = some [.d (.s .nilFunc)] := by kernel_rfl
@[simp] theorem sz47 : szOf Tryz.prog 47 = some 1 := by kernel_rfl
@[simp] theorem ag47 : aggT Tryz.prog 47 = some false := by kernel_rfl
@[simp] theorem un47 : unitT Tryz.prog 47 = some 1 := by kernel_rfl
@[simp] theorem ze47 : zeroT Tryz.prog 47 = some [.d (.s .nilFunc)] := by kernel_rfl
@[simp] theorem sz48 : szOf Tryz.prog 48 = some 7 := by kernel_rfl
@[simp] theorem ag48 : aggT Tryz.prog 48 = some true := by kernel_rfl
@[simp] theorem un48 : unitT Tryz.prog 48 = some 7 := by kernel_rfl
theorem kd48 : kindT Tryz.prog 12 48 = some [.int .i64, .int .i64, .int .i64, .int .i64, .int .i64, .int .i64, .int .i64] := by kernel_rfl
theorem eqk48 : eqT Tryz.prog 8 48 = some (true, [.int .i64, .int .i64, .int .i64, .int .i64, .int .i64, .int .i64, .int .i64]) := by kernel_rfl
theorem eqg48 : (Tryz.prog).eqGuardType (Tryz.prog).depth 48 = false := by kernel_rfl
@[simp] theorem neqA48 (a0 b0 : Int) (a1 b1 : Int) (a2 b2 : Int) (a3 b3 : Int) (a4 b4 : Int) (a5 b5 : Int) (a6 b6 : Int) (K : Value → Prop) : aggBin Tryz.prog .neq 48 [.d (.s (.int .i64 a0)), .d (.s (.int .i64 a1)), .d (.s (.int .i64 a2)), .d (.s (.int .i64 a3)), .d (.s (.int .i64 a4)), .d (.s (.int .i64 a5)), .d (.s (.int .i64 a6))] [.d (.s (.int .i64 b0)), .d (.s (.int .i64 b1)), .d (.s (.int .i64 b2)), .d (.s (.int .i64 b3)), .d (.s (.int .i64 b4)), .d (.s (.int .i64 b5)), .d (.s (.int .i64 b6))] K = K (.bool (!(eqVs [.int .i64 a0, .int .i64 a1, .int .i64 a2, .int .i64 a3, .int .i64 a4, .int .i64 a5, .int .i64 a6] [.int .i64 b0, .int .i64 b1, .int .i64 b2, .int .i64 b3, .int .i64 b4, .int .i64 b5, .int .i64 b6]))) := agg_neq (xs := [.int .i64 a0, .int .i64 a1, .int .i64 a2, .int .i64 a3, .int .i64 a4, .int .i64 a5, .int .i64 a6]) (ys := [.int .i64 b0, .int .i64 b1, .int .i64 b2, .int .i64 b3, .int .i64 b4, .int .i64 b5, .int .i64 b6]) eqk48 (by decide) eqg48 rfl rfl K
@[simp] theorem eqlA48 (a0 b0 : Int) (a1 b1 : Int) (a2 b2 : Int) (a3 b3 : Int) (a4 b4 : Int) (a5 b5 : Int) (a6 b6 : Int) (K : Value → Prop) : aggBin Tryz.prog .eql 48 [.d (.s (.int .i64 a0)), .d (.s (.int .i64 a1)), .d (.s (.int .i64 a2)), .d (.s (.int .i64 a3)), .d (.s (.int .i64 a4)), .d (.s (.int .i64 a5)), .d (.s (.int .i64 a6))] [.d (.s (.int .i64 b0)), .d (.s (.int .i64 b1)), .d (.s (.int .i64 b2)), .d (.s (.int .i64 b3)), .d (.s (.int .i64 b4)), .d (.s (.int .i64 b5)), .d (.s (.int .i64 b6))] K = K (.bool ((eqVs [.int .i64 a0, .int .i64 a1, .int .i64 a2, .int .i64 a3, .int .i64 a4, .int .i64 a5, .int .i64 a6] [.int .i64 b0, .int .i64 b1, .int .i64 b2, .int .i64 b3, .int .i64 b4, .int .i64 b5, .int .i64 b6]))) := agg_eql (xs := [.int .i64 a0, .int .i64 a1, .int .i64 a2, .int .i64 a3, .int .i64 a4, .int .i64 a5, .int .i64 a6]) (ys := [.int .i64 b0, .int .i64 b1, .int .i64 b2, .int .i64 b3, .int .i64 b4, .int .i64 b5, .int .i64 b6]) eqk48 (by decide) eqg48 rfl rfl K
@[simp] theorem ze48 : zeroT Tryz.prog 48 = some [.d (.s (.int .i64 0)), .d (.s (.int .i64 0)), .d (.s (.int .i64 0)), .d (.s (.int .i64 0)), .d (.s (.int .i64 0)), .d (.s (.int .i64 0)), .d (.s (.int .i64 0))] := by kernel_rfl
@[simp] theorem fi48_0 : fieldT Tryz.prog 48 0 = some (0, 1, false) := by kernel_rfl
@[simp] theorem fi48_1 : fieldT Tryz.prog 48 1 = some (1, 1, false) := by kernel_rfl
@[simp] theorem fi48_2 : fieldT Tryz.prog 48 2 = some (2, 1, false) := by kernel_rfl
@[simp] theorem fi48_3 : fieldT Tryz.prog 48 3 = some (3, 1, false) := by kernel_rfl
@[simp] theorem fi48_4 : fieldT Tryz.prog 48 4 = some (4, 1, false) := by kernel_rfl
@[simp] theorem fi48_5 : fieldT Tryz.prog 48 5 = some (5, 1, false) := by kernel_rfl
@[simp] theorem fi48_6 : fieldT Tryz.prog 48 6 = some (6, 1, false) := by kernel_rfl
@[simp] theorem pl48 : placesT Tryz.prog 48 = some [(0, 1), (1, 1), (2, 1), (3, 1), (4, 1), (5, 1), (6, 1)] := by kernel_rfl
@[simp] theorem sz49 : szOf Tryz.prog 49 = some 7 := by kernel_rfl
@[simp] theorem ag49 : aggT Tryz.prog 49 = some true := by kernel_rfl
@[simp] theorem un49 : unitT Tryz.prog 49 = some 7 := by kernel_rfl
theorem kd49 : kindT Tryz.prog 12 49 = some [.int .i64, .int .i64, .int .i64, .int .i64, .int .i64, .int .i64, .int .i64] := by kernel_rfl
theorem eqk49 : eqT Tryz.prog 8 49 = some (true, [.int .i64, .int .i64, .int .i64, .int .i64, .int .i64, .int .i64, .int .i64]) := by kernel_rfl
theorem eqg49 : (Tryz.prog).eqGuardType (Tryz.prog).depth 49 = false := by kernel_rfl
@[simp] theorem neqA49 (a0 b0 : Int) (a1 b1 : Int) (a2 b2 : Int) (a3 b3 : Int) (a4 b4 : Int) (a5 b5 : Int) (a6 b6 : Int) (K : Value → Prop) : aggBin Tryz.prog .neq 49 [.d (.s (.int .i64 a0)), .d (.s (.int .i64 a1)), .d (.s (.int .i64 a2)), .d (.s (.int .i64 a3)), .d (.s (.int .i64 a4)), .d (.s (.int .i64 a5)), .d (.s (.int .i64 a6))] [.d (.s (.int .i64 b0)), .d (.s (.int .i64 b1)), .d (.s (.int .i64 b2)), .d (.s (.int .i64 b3)), .d (.s (.int .i64 b4)), .d (.s (.int .i64 b5)), .d (.s (.int .i64 b6))] K = K (.bool (!(eqVs [.int .i64 a0, .int .i64 a1, .int .i64 a2, .int .i64 a3, .int .i64 a4, .int .i64 a5, .int .i64 a6] [.int .i64 b0, .int .i64 b1, .int .i64 b2, .int .i64 b3, .int .i64 b4, .int .i64 b5, .int .i64 b6]))) := agg_neq (xs := [.int .i64 a0, .int .i64 a1, .int .i64 a2, .int .i64 a3, .int .i64 a4, .int .i64 a5, .int .i64 a6]) (ys := [.int .i64 b0, .int .i64 b1, .int .i64 b2, .int .i64 b3, .int .i64 b4, .int .i64 b5, .int .i64 b6]) eqk49 (by decide) eqg49 rfl rfl K
@[simp] theorem eqlA49 (a0 b0 : Int) (a1 b1 : Int) (a2 b2 : Int) (a3 b3 : Int) (a4 b4 : Int) (a5 b5 : Int) (a6 b6 : Int) (K : Value → Prop) : aggBin Tryz.prog .eql 49 [.d (.s (.int .i64 a0)), .d (.s (.int .i64 a1)), .d (.s (.int .i64 a2)), .d (.s (.int .i64 a3)), .d (.s (.int .i64 a4)), .d (.s (.int .i64 a5)), .d (.s (.int .i64 a6))] [.d (.s (.int .i64 b0)), .d (.s (.int .i64 b1)), .d (.s (.int .i64 b2)), .d (.s (.int .i64 b3)), .d (.s (.int .i64 b4)), .d (.s (.int .i64 b5)), .d (.s (.int .i64 b6))] K = K (.bool ((eqVs [.int .i64 a0, .int .i64 a1, .int .i64 a2, .int .i64 a3, .int .i64 a4, .int .i64 a5, .int .i64 a6] [.int .i64 b0, .int .i64 b1, .int .i64 b2, .int .i64 b3, .int .i64 b4, .int .i64 b5, .int .i64 b6]))) := agg_eql (xs := [.int .i64 a0, .int .i64 a1, .int .i64 a2, .int .i64 a3, .int .i64 a4, .int .i64 a5, .int .i64 a6]) (ys := [.int .i64 b0, .int .i64 b1, .int .i64 b2, .int .i64 b3, .int .i64 b4, .int .i64 b5, .int .i64 b6]) eqk49 (by decide) eqg49 rfl rfl K
@[simp] theorem ze49 : zeroT Tryz.prog 49 = some [.d (.s (.int .i64 0)), .d (.s (.int .i64 0)), .d (.s (.int .i64 0)), .d (.s (.int .i64 0)), .d (.s (.int .i64 0)), .d (.s (.int .i64 0)), .d (.s (.int .i64 0))] := by kernel_rfl
@[simp] theorem fi49_0 : fieldT Tryz.prog 49 0 = some (0, 1, false) := by kernel_rfl
@[simp] theorem fi49_1 : fieldT Tryz.prog 49 1 = some (1, 1, false) := by kernel_rfl
@[simp] theorem fi49_2 : fieldT Tryz.prog 49 2 = some (2, 1, false) := by kernel_rfl
@[simp] theorem fi49_3 : fieldT Tryz.prog 49 3 = some (3, 1, false) := by kernel_rfl
@[simp] theorem fi49_4 : fieldT Tryz.prog 49 4 = some (4, 1, false) := by kernel_rfl
@[simp] theorem fi49_5 : fieldT Tryz.prog 49 5 = some (5, 1, false) := by kernel_rfl
@[simp] theorem fi49_6 : fieldT Tryz.prog 49 6 = some (6, 1, false) := by kernel_rfl
@[simp] theorem pl49 : placesT Tryz.prog 49 = some [(0, 1), (1, 1), (2, 1), (3, 1), (4, 1), (5, 1), (6, 1)] := by kernel_rfl
@[simp] theorem sz50 : szOf Tryz.prog 50 = some 10 := by kernel_rfl
@[simp] theorem ag50 : aggT Tryz.prog 50 = some true := by kernel_rfl
@[simp] theorem un50 : unitT Tryz.prog 50 = some 10 := by kernel_rfl
theorem kd50 : kindT Tryz.prog 12 50 = some [.int .i64, .int .i64, .int .i64, .int .i64, .int .i64, .int .i64, .int .i64, .int .i64, .int .i64, .int .i64] := by kernel_rfl
theorem eqk50 : eqT Tryz.prog 8 50 = some (true, [.int .i64, .int .i64, .int .i64, .int .i64, .int .i64, .int .i64, .int .i64, .int .i64, .int .i64, .int .i64]) := by kernel_rfl
theorem eqg50 : (Tryz.prog).eqGuardType (Tryz.prog).depth 50 = false := by kernel_rfl
@[simp] theorem neqA50 (a0 b0 : Int) (a1 b1 : Int) (a2 b2 : Int) (a3 b3 : Int) (a4 b4 : Int) (a5 b5 : Int) (a6 b6 : Int) (a7 b7 : Int) (a8 b8 : Int) (a9 b9 : Int) (K : Value → Prop) : aggBin Tryz.prog .neq 50 [.d (.s (.int .i64 a0)), .d (.s (.int .i64 a1)), .d (.s (.int .i64 a2)), .d (.s (.int .i64 a3)), .d (.s (.int .i64 a4)), .d (.s (.int .i64 a5)), .d (.s (.int .i64 a6)), .d (.s (.int .i64 a7)), .d (.s (.int .i64 a8)), .d (.s (.int .i64 a9))] [.d (.s (.int .i64 b0)), .d (.s (.int .i64 b1)), .d (.s (.int .i64 b2)), .d (.s (.int .i64 b3)), .d (.s (.int .i64 b4)), .d (.s (.int .i64 b5)), .d (.s (.int .i64 b6)), .d (.s (.int .i64 b7)), .d (.s (.int .i64 b8)), .d (.s (.int .i64 b9))] K = K (.bool (!(eqVs [.int .i64 a0, .int .i64 a1, .int .i64 a2, .int .i64 a3, .int .i64 a4, .int .i64 a5, .int .i64 a6, .int .i64 a7, .int .i64 a8, .int .i64 a9] [.int .i64 b0, .int .i64 b1, .int .i64 b2, .int .i64 b3, .int .i64 b4, .int .i64 b5, .int .i64 b6, .int .i64 b7, .int .i64 b8, .int .i64 b9]))) := agg_neq (xs := [.int .i64 a0, .int .i64 a1, .int .i64 a2, .int .i64 a3, .int .i64 a4, .int .i64 a5, .int .i64 a6, .int .i64 a7, .int .i64 a8, .int .i64 a9]) (ys := [.int .i64 b0, .int .i64 b1, .int .i64 b2, .int .i64 b3, .int .i64 b4, .int .i64 b5, .int .i64 b6, .int .i64 b7, .int .i64 b8, .int .i64 b9]) eqk50 (by decide) eqg50 rfl rfl K
@[simp] theorem eqlA50 (a0 b0 : Int) (a1 b1 : Int) (a2 b2 : Int) (a3 b3 : Int) (a4 b4 : Int) (a5 b5 : Int) (a6 b6 : Int) (a7 b7 : Int) (a8 b8 : Int) (a9 b9 : Int) (K : Value → Prop) : aggBin Tryz.prog .eql 50 [.d (.s (.int .i64 a0)), .d (.s (.int .i64 a1)), .d (.s (.int .i64 a2)), .d (.s (.int .i64 a3)), .d (.s (.int .i64 a4)), .d (.s (.int .i64 a5)), .d (.s (.int .i64 a6)), .d (.s (.int .i64 a7)), .d (.s (.int .i64 a8)), .d (.s (.int .i64 a9))] [.d (.s (.int .i64 b0)), .d (.s (.int .i64 b1)), .d (.s (.int .i64 b2)), .d (.s (.int .i64 b3)), .d (.s (.int .i64 b4)), .d (.s (.int .i64 b5)), .d (.s (.int .i64 b6)), .d (.s (.int .i64 b7)), .d (.s (.int .i64 b8)), .d (.s (.int .i64 b9))] K = K (.bool ((eqVs [.int .i64 a0, .int .i64 a1, .int .i64 a2, .int .i64 a3, .int .i64 a4, .int .i64 a5, .int .i64 a6, .int .i64 a7, .int .i64 a8, .int .i64 a9] [.int .i64 b0, .int .i64 b1, .int .i64 b2, .int .i64 b3, .int .i64 b4, .int .i64 b5, .int .i64 b6, .int .i64 b7, .int .i64 b8, .int .i64 b9]))) := agg_eql (xs := [.int .i64 a0, .int .i64 a1, .int .i64 a2, .int .i64 a3, .int .i64 a4, .int .i64 a5, .int .i64 a6, .int .i64 a7, .int .i64 a8, .int .i64 a9]) (ys := [.int .i64 b0, .int .i64 b1, .int .i64 b2, .int .i64 b3, .int .i64 b4, .int .i64 b5, .int .i64 b6, .int .i64 b7, .int .i64 b8, .int .i64 b9]) eqk50 (by decide) eqg50 rfl rfl K
@[simp] theorem ze50 : zeroT Tryz.prog 50 = some [.d (.s (.int .i64 0)), .d (.s (.int .i64 0)), .d (.s (.int .i64 0)), .d (.s (.int .i64 0)), .d (.s (.int .i64 0)), .d (.s (.int .i64 0)), .d (.s (.int .i64 0)), .d (.s (.int .i64 0)), .d (.s (.int .i64 0)), .d (.s (.int .i64 0))] := by kernel_rfl
@[simp] theorem fi50_0 : fieldT Tryz.prog 50 0 = some (0, 1, false) := by kernel_rfl
@[simp] theorem fi50_1 : fieldT Tryz.prog 50 1 = some (1, 7, true) := by kernel_rfl
@[simp] theorem fi50_2 : fieldT Tryz.prog 50 2 = some (8, 1, false) := by kernel_rfl
@[simp] theorem fi50_3 : fieldT Tryz.prog 50 3 = some (9, 1, false) := by kernel_rfl
@[simp] theorem pl50 : placesT Tryz.prog 50 = some [(0, 1), (1, 7), (8, 1), (9, 1)] := by kernel_rfl
@[simp] theorem sz51 : szOf Tryz.prog 51 = some 10 := by kernel_rfl
@[simp] theorem ag51 : aggT Tryz.prog 51 = some true := by kernel_rfl
@[simp] theorem un51 : unitT Tryz.prog 51 = some 10 := by kernel_rfl
theorem kd51 : kindT Tryz.prog 12 51 = some [.int .i64, .int .i64, .int .i64, .int .i64, .int .i64, .int .i64, .int .i64, .int .i64, .int .i64, .int .i64] := by kernel_rfl
theorem eqk51 : eqT Tryz.prog 8 51 = some (true, [.int .i64, .int .i64, .int .i64, .int .i64, .int .i64, .int .i64, .int .i64, .int .i64, .int .i64, .int .i64]) := by kernel_rfl
theorem eqg51 : (Tryz.prog).eqGuardType (Tryz.prog).depth 51 = false := by kernel_rfl
@[simp] theorem neqA51 (a0 b0 : Int) (a1 b1 : Int) (a2 b2 : Int) (a3 b3 : Int) (a4 b4 : Int) (a5 b5 : Int) (a6 b6 : Int) (a7 b7 : Int) (a8 b8 : Int) (a9 b9 : Int) (K : Value → Prop) : aggBin Tryz.prog .neq 51 [.d (.s (.int .i64 a0)), .d (.s (.int .i64 a1)), .d (.s (.int .i64 a2)), .d (.s (.int .i64 a3)), .d (.s (.int .i64 a4)), .d (.s (.int .i64 a5)), .d (.s (.int .i64 a6)), .d (.s (.int .i64 a7)), .d (.s (.int .i64 a8)), .d (.s (.int .i64 a9))] [.d (.s (.int .i64 b0)), .d (.s (.int .i64 b1)), .d (.s (.int .i64 b2)), .d (.s (.int .i64 b3)), .d (.s (.int .i64 b4)), .d (.s (.int .i64 b5)), .d (.s (.int .i64 b6)), .d (.s (.int .i64 b7)), .d (.s (.int .i64 b8)), .d (.s (.int .i64 b9))] K = K (.bool (!(eqVs [.int .i64 a0, .int .i64 a1, .int .i64 a2, .int .i64 a3, .int .i64 a4, .int .i64 a5, .int .i64 a6, .int .i64 a7, .int .i64 a8, .int .i64 a9] [.int .i64 b0, .int .i64 b1, .int .i64 b2, .int .i64 b3, .int .i64 b4, .int .i64 b5, .int .i64 b6, .int .i64 b7, .int .i64 b8, .int .i64 b9]))) := agg_neq (xs := [.int .i64 a0, .int .i64 a1, .int .i64 a2, .int .i64 a3, .int .i64 a4, .int .i64 a5, .int .i64 a6, .int .i64 a7, .int .i64 a8, .int .i64 a9]) (ys := [.int .i64 b0, .int .i64 b1, .int .i64 b2, .int .i64 b3, .int .i64 b4, .int .i64 b5, .int .i64 b6, .int .i64 b7, .int .i64 b8, .int .i64 b9]) eqk51 (by decide) eqg51 rfl rfl K
@[simp] theorem eqlA51 (a0 b0 : Int) (a1 b1 : Int) (a2 b2 : Int) (a3 b3 : Int) (a4 b4 : Int) (a5 b5 : Int) (a6 b6 : Int) (a7 b7 : Int) (a8 b8 : Int) (a9 b9 : Int) (K : Value → Prop) : aggBin Tryz.prog .eql 51 [.d (.s (.int .i64 a0)), .d (.s (.int .i64 a1)), .d (.s (.int .i64 a2)), .d (.s (.int .i64 a3)), .d (.s (.int .i64 a4)), .d (.s (.int .i64 a5)), .d (.s (.int .i64 a6)), .d (.s (.int .i64 a7)), .d (.s (.int .i64 a8)), .d (.s (.int .i64 a9))] [.d (.s (.int .i64 b0)), .d (.s (.int .i64 b1)), .d (.s (.int .i64 b2)), .d (.s (.int .i64 b3)), .d (.s (.int .i64 b4)), .d (.s (.int .i64 b5)), .d (.s (.int .i64 b6)), .d (.s (.int .i64 b7)), .d (.s (.int .i64 b8)), .d (.s (.int .i64 b9))] K = K (.bool ((eqVs [.int .i64 a0, .int .i64 a1, .int .i64 a2, .int .i64 a3, .int .i64 a4, .int .i64 a5, .int .i64 a6, .int .i64 a7, .int .i64 a8, .int .i64 a9] [.int .i64 b0, .int .i64 b1, .int .i64 b2, .int .i64 b3, .int .i64 b4, .int .i64 b5, .int .i64 b6, .int .i64 b7, .int .i64 b8, .int .i64 b9]))) := agg_eql (xs := [.int .i64 a0, .int .i64 a1, .int .i64 a2, .int .i64 a3, .int .i64 a4, .int .i64 a5, .int .i64 a6, .int .i64 a7, .int .i64 a8, .int .i64 a9]) (ys := [.int .i64 b0, .int .i64 b1, .int .i64 b2, .int .i64 b3, .int .i64 b4, .int .i64 b5, .int .i64 b6, .int .i64 b7, .int .i64 b8, .int .i64 b9]) eqk51 (by decide) eqg51 rfl rfl K
@[simp] theorem ze51 : zeroT Tryz.prog 51 = some [.d (.s (.int .i64 0)), .d (.s (.int .i64 0)), .d (.s (.int .i64 0)), .d (.s (.int .i64 0)), .d (.s (.int .i64 0)), .d (.s (.int .i64 0)), .d (.s (.int .i64 0)), .d (.s (.int .i64 0)), .d (.s (.int .i64 0)), .d (.s (.int .i64 0))] := by kernel_rfl
@[simp] theorem fi51_0 : fieldT Tryz.prog 51 0 = some (0, 1, false) := by kernel_rfl
@[simp] theorem fi51_1 : fieldT Tryz.prog 51 1 = some (1, 7, true) := by kernel_rfl
@[simp] theorem fi51_2 : fieldT Tryz.prog 51 2 = some (8, 1, false) := by kernel_rfl
@[simp] theorem fi51_3 : fieldT Tryz.prog 51 3 = some (9, 1, false) := by kernel_rfl
@[simp] theorem pl51 : placesT Tryz.prog 51 = some [(0, 1), (1, 7), (8, 1), (9, 1)] := by kernel_rfl
@[simp] theorem sz52 : szOf Tryz.prog 52 = some 1 := by kernel_rfl
@[simp] theorem ag52 : aggT Tryz.prog 52 = some false := by kernel_rfl
@[simp] theorem un52 : unitT Tryz.prog 52 = some 1 := by kernel_rfl
theorem kd52 : kindT Tryz.prog 12 52 = some [.slice [.int .i64]] := by kernel_rfl
@[simp] theorem sl52 : sliceT Tryz.prog 52 = some (2, 1, 8) := by kernel_rfl
@[simp] theorem ze52 : zeroT Tryz.prog 52 = some [.d .nil] := by kernel_rfl
@[simp] theorem sz53 : szOf Tryz.prog 53 = some 6 := by kernel_rfl
@[simp] theorem ag53 : aggT Tryz.prog 53 = some true := by kernel_rfl
@[simp] theorem un53 : unitT Tryz.prog 53 = some 6 := by kernel_rfl
theorem kd53 : kindT Tryz.prog 12 53 = some [.int .i64, .slice [.int .u8], .int .i64, .slice [.int .i64, .int .i64, .int .i64, .int .i64, .int .i64, .int .i64, .int .i64], .slice [.int .i64, .bool, .int .i64, .int .i64, .int .i64, .int .i64, .int .i64, .int .i64, .int .i64], .slice [.int .i64]] := by kernel_rfl
@[simp] theorem ze53 : zeroT Tryz.prog 53 = some [.d (.s (.int .i64 0)), .d .nil, .d (.s (.int .i64 0)), .d .nil, .d .nil, .d .nil] := by kernel_rfl
@[simp] theorem fi53_0 : fieldT Tryz.prog 53 0 = some (0, 1, false) := by kernel_rfl
@[simp] theorem fi53_1 : fieldT Tryz.prog 53 1 = some (1, 1, false) := by kernel_rfl
@[simp] theorem fi53_2 : fieldT Tryz.prog 53 2 = some (2, 3, true) := by kernel_rfl
@[simp] theorem fi53_3 : fieldT Tryz.prog 53 3 = some (5, 1, false) := by kernel_rfl
@[simp] theorem pl53 : placesT Tryz.prog 53 = some [(0, 1), (1, 1), (2, 3), (5, 1)] := by kernel_rfl
@[simp] theorem sz54 : szOf Tryz.prog 54 = some 6 := by kernel_rfl
@[simp] theorem ag54 : aggT Tryz.prog 54 = some true := by kernel_rfl
@[simp] theorem un54 : unitT Tryz.prog 54 = some 6 := by kernel_rfl
theorem kd54 : kindT Tryz.prog 12 54 = some [.int .i64, .slice [.int .u8], .int .i64, .slice [.int .i64, .int .i64, .int .i64, .int .i64, .int .i64, .int .i64, .int .i64], .slice [.int .i64, .bool, .int .i64, .int .i64, .int .i64, .int .i64, .int .i64, .int .i64, .int .i64], .slice [.int .i64]] := by kernel_rfl
@[simp] theorem ze54 : zeroT Tryz.prog 54 = some [.d (.s (.int .i64 0)), .d .nil, .d (.s (.int .i64 0)), .d .nil, .d .nil, .d .nil] := by kernel_rfl
@[simp] theorem fi54_0 : fieldT Tryz.prog 54 0 = some (0, 1, false) := by kernel_rfl
@[simp] theorem fi54_1 : fieldT Tryz.prog 54 1 = some (1, 1, false) := by kernel_rfl
@[simp] theorem fi54_2 : fieldT Tryz.prog 54 2 = some (2, 3, true) := by kernel_rfl
@[simp] theorem fi54_3 : fieldT Tryz.prog 54 3 = some (5, 1, false) := by kernel_rfl
@[simp] theorem pl54 : placesT Tryz.prog 54 = some [(0, 1), (1, 1), (2, 3), (5, 1)] := by kernel_rfl
@[simp] theorem sz55 : szOf Tryz.prog 55 = some 1 := by kernel_rfl
@[simp] theorem ag55 : aggT Tryz.prog 55 = some false := by kernel_rfl
@[simp] theorem un55 : unitT Tryz.prog 55 = some 1 := by kernel_rfl
@[simp] theorem ze55 : zeroT Tryz.prog 55 = some [.d (.s .nilFunc)] := by kernel_rfl
@[simp] theorem sz56 : szOf Tryz.prog 56 = some 7 := by kernel_rfl
@[simp] theorem ag56 : aggT Tryz.prog 56 = some true := by kernel_rfl
@[simp] theorem un56 : unitT Tryz.prog 56 = some 7 := by kernel_rfl
theorem kd56 : kindT Tryz.prog 12 56 = some [.int .i64, .int .i64, .int .i64, .int .i64, .int .i64, .int .i64, .int .i64] := by kernel_rfl
theorem eqk56 : eqT Tryz.prog 8 56 = some (true, [.int .i64, .int .i64, .int .i64, .int .i64, .int .i64, .int .i64, .int .i64]) := by kernel_rfl
theorem eqg56 : (Tryz.prog).eqGuardType (Tryz.prog).depth 56 = false := by kernel_rfl
@[simp] theorem neqA56 (a0 b0 : Int) (a1 b1 : Int) (a2 b2 : Int) (a3 b3 : Int) (a4 b4 : Int) (a5 b5 : Int) (a6 b6 : Int) (K : Value → Prop) : aggBin Tryz.prog .neq 56 [.d (.s (.int .i64 a0)), .d (.s (.int .i64 a1)), .d (.s (.int .i64 a2)), .d (.s (.int .i64 a3)), .d (.s (.int .i64 a4)), .d (.s (.int .i64 a5)), .d (.s (.int .i64 a6))] [.d (.s (.int .i64 b0)), .d (.s (.int .i64 b1)), .d (.s (.int .i64 b2)), .d (.s (.int .i64 b3)), .d (.s (.int .i64 b4)), .d (.s (.int .i64 b5)), .d (.s (.int .i64 b6))] K = K (.bool (!(eqVs [.int .i64 a0, .int .i64 a1, .int .i64 a2, .int .i64 a3, .int .i64 a4, .int .i64 a5, .int .i64 a6] [.int .i64 b0, .int .i64 b1, .int .i64 b2, .int .i64 b3, .int .i64 b4, .int .i64 b5, .int .i64 b6]))) := agg_neq (xs := [.int .i64 a0, .int .i64 a1, .int .i64 a2, .int .i64 a3, .int .i64 a4, .int .i64 a5, .int .i64 a6]) (ys := [.int .i64 b0, .int .i64 b1, .int .i64 b2, .int .i64 b3, .int .i64 b4, .int .i64 b5, .int .i64 b6]) eqk56 (by decide) eqg56 rfl rfl K
@[simp] theorem eqlA56 (a0 b0 : Int) (a1 b1 : Int) (a2 b2 : Int) (a3 b3 : Int) (a4 b4 : Int) (a5 b5 : Int) (a6 b6 : Int) (K : Value → Prop) : aggBin Tryz.prog .eql 56 [.d (.s (.int .i64 a0)), .d (.s (.int .i64 a1)), .d (.s (.int .i64 a2)), .d (.s (.int .i64 a3)), .d (.s (.int .i64 a4)), .d (.s (.int .i64 a5)), .d (.s (.int .i64 a6))] [.d (.s (.int .i64 b0)), .d (.s (.int .i64 b1)), .d (.s (.int .i64 b2)), .d (.s (.int .i64 b3)), .d (.s (.int .i64 b4)), .d (.s (.int .i64 b5)), .d (.s (.int .i64 b6))] K = K (.bool ((eqVs [.int .i64 a0, .int .i64 a1, .int .i64 a2, .int .i64 a3, .int .i64 a4, .int .i64 a5, .int .i64 a6] [.int .i64 b0, .int .i64 b1, .int .i64 b2, .int .i64 b3, .int .i64 b4, .int .i64 b5, .int .i64 b6]))) := agg_eql (xs := [.int .i64 a0, .int .i64 a1, .int .i64 a2, .int .i64 a3, .int .i64 a4, .int .i64 a5, .int .i64 a6]) (ys := [.int .i64 b0, .int .i64 b1, .int .i64 b2, .int .i64 b3, .int .i64 b4, .int .i64 b5, .int .i64 b6]) eqk56 (by decide) eqg56 rfl rfl K
@[simp] theorem ze56 : zeroT Tryz.prog 56 = some [.d (.s (.int .i64 0)), .d (.s (.int .i64 0)), .d (.s (.int .i64 0)), .d (.s (.int .i64 0)), .d (.s (.int .i64 0)), .d (.s (.int .i64 0)), .d (.s (.int .i64 0))] := by kernel_rfl
@[simp] theorem fi56_0 : fieldT Tryz.prog 56 0 = some (0, 1, false) := by kernel_rfl
@[simp] theorem fi56_1 : fieldT Tryz.prog 56 1 = some (1, 1, false) := by kernel_rfl
@[simp] theorem fi56_2 : fieldT Tryz.prog 56 2 = some (2, 1, false) := by kernel_rfl
@[simp] theorem fi56_3 : fieldT Tryz.prog 56 3 = some (3, 1, false) := by kernel_rfl
@[simp] theorem fi56_4 : fieldT Tryz.prog 56 4 = some (4, 1, false) := by kernel_rfl
@[simp] theorem fi56_5 : fieldT Tryz.prog 56 5 = some (5, 1, false) := by kernel_rfl
@[simp] theorem fi56_6 : fieldT Tryz.prog 56 6 = some (6, 1, false) := by kernel_rfl
@[simp] theorem pl56 : placesT Tryz.prog 56 = some [(0, 1), (1, 1), (2, 1), (3, 1), (4, 1), (5, 1), (6, 1)] := by kernel_rfl
@[simp] theorem sz57 : szOf Tryz.prog 57 = some 10 := by kernel_rfl
@[simp] theorem ag57 : aggT Tryz.prog 57 = some true := by kernel_rfl
@[simp] theorem un57 : unitT Tryz.prog 57 = some 10 := by kernel_rfl
theorem kd57 : kindT Tryz.prog 12 57 = some [.int .i64, .int .i64, .int .i64, .int .i64, .int .i64, .int .i64, .int .i64, .int .i64, .int .i64, .int .i64] := by kernel_rfl
theorem eqk57 : eqT Tryz.prog 8 57 = some (true, [.int .i64, .int .i64, .int .i64, .int .i64, .int .i64, .int .i64, .int .i64, .int .i64, .int .i64, .int .i64]) := by kernel_rfl
theorem eqg57 : (Tryz.prog).eqGuardType (Tryz.prog).depth 57 = false := by kernel_rfl
@[simp] theorem neqA57 (a0 b0 : Int) (a1 b1 : Int) (a2 b2 : Int) (a3 b3 : Int) (a4 b4 : Int) (a5 b5 : Int) (a6 b6 : Int) (a7 b7 : Int) (a8 b8 : Int) (a9 b9 : Int) (K : Value → Prop) : aggBin Tryz.prog .neq 57 [.d (.s (.int .i64 a0)), .d (.s (.int .i64 a1)), .d (.s (.int .i64 a2)), .d (.s (.int .i64 a3)), .d (.s (.int .i64 a4)), .d (.s (.int .i64 a5)), .d (.s (.int .i64 a6)), .d (.s (.int .i64 a7)), .d (.s (.int .i64 a8)), .d (.s (.int .i64 a9))] [.d (.s (.int .i64 b0)), .d (.s (.int .i64 b1)), .d (.s (.int .i64 b2)), .d (.s (.int .i64 b3)), .d (.s (.int .i64 b4)), .d (.s (.int .i64 b5)), .d (.s (.int .i64 b6)), .d (.s (.int .i64 b7)), .d (.s (.int .i64 b8)), .d (.s (.int .i64 b9))] K = K (.bool (!(eqVs [.int .i64 a0, .int .i64 a1, .int .i64 a2, .int .i64 a3, .int .i64 a4, .int .i64 a5, .int .i64 a6, .int .i64 a7, .int .i64 a8, .int .i64 a9] [.int .i64 b0, .int .i64 b1, .int .i64 b2, .int .i64 b3, .int .i64 b4, .int .i64 b5, .int .i64 b6, .int .i64 b7, .int .i64 b8, .int .i64 b9]))) := agg_neq (xs := [.int .i64 a0, .int .i64 a1, .int .i64 a2, .int .i64 a3, .int .i64 a4, .int .i64 a5, .int .i64 a6, .int .i64 a7, .int .i64 a8, .int .i64 a9]) (ys := [.int .i64 b0, .int .i64 b1, .int .i64 b2, .int .i64 b3, .int .i64 b4, .int .i64 b5, .int .i64 b6, .int .i64 b7, .int .i64 b8, .int .i64 b9]) eqk57 (by decide) eqg57 rfl rfl K
@[simp] theorem eqlA57 (a0 b0 : Int) (a1 b1 : Int) (a2 b2 : Int) (a3 b3 : Int) (a4 b4 : Int) (a5 b5 : Int) (a6 b6 : Int) (a7 b7 : Int) (a8 b8 : Int) (a9 b9 : Int) (K : Value → Prop) : aggBin Tryz.prog .eql 57 [.d (.s (.int .i64 a0)), .d (.s (.int .i64 a1)), .d (.s (.int .i64 a2)), .d (.s (.int .i64 a3)), .d (.s (.int .i64 a4)), .d (.s (.int .i64 a5)), .d (.s (.int .i64 a6)), .d (.s (.int .i64 a7)), .d (.s (.int .i64 a8)), .d (.s (.int .i64 a9))] [.d (.s (.int .i64 b0)), .d (.s (.int .i64 b1)), .d (.s (.int .i64 b2)), .d (.s (.int .i64 b3)), .d (.s (.int .i64 b4)), .d (.s (.int .i64 b5)), .d (.s (.int .i64 b6)), .d (.s (.int .i64 b7)), .d (.s (.int .i64 b8)), .d (.s (.int .i64 b9))] K = K (.bool ((eqVs [.int .i64 a0, .int .i64 a1, .int .i64 a2, .int .i64 a3, .int .i64 a4, .int .i64 a5, .int .i64 a6, .int .i64 a7, .int .i64 a8, .int .i64 a9] [.int .i64 b0, .int .i64 b1, .int .i64 b2, .int .i64 b3, .int .i64 b4, .int .i64 b5, .int .i64 b6, .int .i64 b7, .int .i64 b8, .int .i64 b9]))) := agg_eql (xs := [.int .i64 a0, .int .i64 a1, .int .i64 a2, .int .i64 a3, .int .i64 a4, .int .i64 a5, .int .i64 a6, .int .i64 a7, .int .i64 a8, .int .i64 a9]) (ys := [.int .i64 b0, .int .i64 b1, .int .i64 b2, .int .i64 b3, .int .i64 b4, .int .i64 b5, .int .i64 b6, .int .i64 b7, .int .i64 b8, .int .i64 b9]) eqk57 (by decide) eqg57 rfl rfl K
@[simp] theorem ze57 : zeroT Tryz.prog 57 = some [.d (.s (.int .i64 0)), .d (.s (.int .i64 0)), .d (.s (.int .i64 0)), .d (.s (.int .i64 0)), .d (.s (.int .i64 0)), .d (.s (.int .i64 0)), .d (.s (.int .i64 0)), .d (.s (.int .i64 0)), .d (.s (.int .i64 0)), .d (.s (.int .i64 0))] := by kernel_rfl
@[simp] theorem fi57_0 : fieldT Tryz.prog 57 0 = some (0, 1, false) := by kernel_rfl
@[simp] theorem fi57_1 : fieldT Tryz.prog 57 1 = some (1, 7, true) := by kernel_rfl
@[simp] theorem fi57_2 : fieldT Tryz.prog 57 2 = some (8, 1, false) := by kernel_rfl
@[simp] theorem fi57_3 : fieldT Tryz.prog 57 3 = some (9, 1, false) := by kernel_rfl
@[simp] theorem pl57 : placesT Tryz.prog 57 = some [(0, 1), (1, 7), (8, 1), (9, 1)] := by kernel_rfl
@[simp] theorem sz58 : szOf Tryz.prog 58 = some 10 := by kernel_rfl
@[simp] theorem ag58 : aggT Tryz.prog 58 = some true := by kernel_rfl
@[simp] theorem un58 : unitT Tryz.prog 58 = some 10 := by kernel_rfl
theorem kd58 : kindT Tryz.prog 12 58 = some [.int .i64, .int .i64, .int .i64, .int .i64, .int .i64, .int .i64, .int .i64, .int .i64, .int .i64, .int .i64] := by kernel_rfl
theorem eqk58 : eqT Tryz.prog 8 58 = some (true, [.int .i64, .int .i64, .int .i64, .int .i64, .int .i64, .int .i64, .int .i64, .int .i64, .int .i64, .int .i64]) := by kernel_rfl
theorem eqg58 : (Tryz.prog).eqGuardType (Tryz.prog).depth 58 = false := by kernel_rfl
@[simp] theorem neqA58 (a0 b0 : Int) (a1 b1 : Int) (a2 b2 : Int) (a3 b3 : Int) (a4 b4 : Int) (a5 b5 : Int) (a6 b6 : Int) (a7 b7 : Int) (a8 b8 : Int) (a9 b9 : Int) (K : Value → Prop) : aggBin Tryz.prog .neq 58 [.d (.s (.int .i64 a0)), .d (.s (.int .i64 a1)), .d (.s (.int .i64 a2)), .d (.s (.int .i64 a3)), .d (.s (.int .i64 a4)), .d (.s (.int .i64 a5)), .d (.s (.int .i64 a6)), .d (.s (.int .i64 a7)), .d (.s (.int .i64 a8)), .d (.s (.int .i64 a9))] [.d (.s (.int .i64 b0)), .d (.s (.int .i64 b1)), .d (.s (.int .i64 b2)), .d (.s (.int .i64 b3)), .d (.s (.int .i64 b4)), .d (.s (.int .i64 b5)), .d (.s (.int .i64 b6)), .d (.s (.int .i64 b7)), .d (.s (.int .i64 b8)), .d (.s (.int .i64 b9))] K = K (.bool (!(eqVs [.int .i64 a0, .int .i64 a1, .int .i64 a2, .int .i64 a3, .int .i64 a4, .int .i64 a5, .int .i64 a6, .int .i64 a7, .int .i64 a8, .int .i64 a9] [.int .i64 b0, .int .i64 b1, .int .i64 b2, .int .i64 b3, .int .i64 b4, .int .i64 b5, .int .i64 b6, .int .i64 b7, .int .i64 b8, .int .i64 b9]))) := agg_neq (xs := [.int .i64 a0, .int .i64 a1, .int .i64 a2, .int .i64 a3, .int .i64 a4, .int .i64 a5, .int .i64 a6, .int .i64 a7, .int .i64 a8, .int .i64 a9]) (ys := [.int .i64 b0, .int .i64 b1, .int .i64 b2, .int .i64 b3, .int .i64 b4, .int .i64 b5, .int .i64 b6, .int .i64 b7, .int .i64 b8, .int .i64 b9]) eqk58 (by decide) eqg58 rfl rfl K
@[simp] theorem eqlA58 (a0 b0 : Int) (a1 b1 : Int) (a2 b2 : Int) (a3 b3 : Int) (a4 b4 : Int) (a5 b5 : Int) (a6 b6 : Int) (a7 b7 : Int) (a8 b8 : Int) (a9 b9 : Int) (K : Value → Prop) : aggBin Tryz.prog .eql 58 [.d (.s (.int .i64 a0)), .d (.s (.int .i64 a1)), .d (.s (.int .i64 a2)), .d (.s (.int .i64 a3)), .d (.s (.int .i64 a4)), .d (.s (.int .i64 a5)), .d (.s (.int .i64 a6)), .d (.s (.int .i64 a7)), .d (.s (.int .i64 a8)), .d (.s (.int .i64 a9))] [.d (.s (.int .i64 b0)), .d (.s (.int .i64 b1)), .d (.s (.int .i64 b2)), .d (.s (.int .i64 b3)), .d (.s (.int .i64 b4)), .d (.s (.int .i64 b5)), .d (.s (.int .i64 b6)), .d (.s (.int .i64 b7)), .d (.s (.int .i64 b8)), .d (.s (.int .i64 b9))] K = K (.bool ((eqVs [.int .i64 a0, .int .i64 a1, .int .i64 a2, .int .i64 a3, .int .i64 a4, .int .i64 a5, .int .i64 a6, .int .i64 a7, .int .i64 a8, .int .i64 a9] [.int .i64 b0, .int .i64 b1, .int .i64 b2, .int .i64 b3, .int .i64 b4, .int .i64 b5, .int .i64 b6, .int .i64 b7, .int .i64 b8, .int .i64 b9]))) := agg_eql (xs := [.int .i64 a0, .int .i64 a1, .int .i64 a2, .int .i64 a3, .int .i64 a4, .int .i64 a5, .int .i64 a6, .int .i64 a7, .int .i64 a8, .int .i64 a9]) (ys := [.int .i64 b0, .int .i64 b1, .int .i64 b2, .int .i64 b3, .int .i64 b4, .int .i64 b5, .int .i64 b6, .int .i64 b7, .int .i64 b8, .int .i64 b9]) eqk58 (by decide) eqg58 rfl rfl K
@[simp] theorem ze58 : zeroT Tryz.prog 58 = some [.d (.s (.int .i64 0)), .d (.s (.int .i64 0)), .d (.s (.int .i64 0)), .d (.s (.int .i64 0)), .d (.s (.int .i64 0)), .d (.s (.int .i64 0)), .d (.s (.int .i64 0)), .d (.s (.int .i64 0)), .d (.s (.int .i64 0)), .d (.s (.int .i64 0))] := by kernel_rfl
@[simp] theorem fi58_0 : fieldT Tryz.prog 58 0 = some (0, 1, false) := by kernel_rfl
@[simp] theorem fi58_1 : fieldT Tryz.prog 58 1 = some (1, 7, true) := by kernel_rfl
@[simp] theorem fi58_2 : fieldT Tryz.prog 58 2 = some (8, 1, false) := by kernel_rfl
@[simp] theorem fi58_3 : fieldT Tryz.prog 58 3 = some (9, 1, false) := by kernel_rfl
@[simp] theorem pl58 : placesT Tryz.prog 58 = some [(0, 1), (1, 7), (8, 1), (9, 1)] := by kernel_rfl
@[simp] theorem sz59 : szOf Tryz.prog 59 = some 1 := by kernel_rfl
@[simp] theorem ag59 : aggT Tryz.prog 59 = some false := by kernel_rfl
@[simp] theorem un59 : unitT Tryz.prog 59 = some 1 := by kernel_rfl
@[simp] theorem ze59 : zeroT Tryz.prog 59 = some [.d (.s .nilFunc)] := by kernel_rfl
@[simp] theorem sz60 : szOf Tryz.prog 60 = some 1 := by kernel_rfl
@[simp] theorem ag60 : aggT Tryz.prog 60 = some false := by kernel_rfl
@[simp] theorem un60 : unitT Tryz.prog 60 = some 1 := by kernel_rfl
@[simp] theorem ze60 : zeroT Tryz.prog 60 = some [.d (.s .nilFunc)] := by kernel_rfl
@[simp] theorem sz61 : szOf Tryz.prog 61 = some 1 := by kernel_rfl
@[simp] theorem ag61 : aggT Tryz.prog 61 = some false := by kernel_rfl
@[simp] theorem un61 : unitT Tryz.prog 61 = some 1 := by kernel_rfl
@[simp] theorem ze61 : zeroT Tryz.prog 61 = some [.d (.s .nilFunc)] := by kernel_rfl
@[simp] theorem sz62 : szOf Tryz.prog 62 = some 1 := by kernel_rfl
@[simp] theorem ag62 : aggT Tryz.prog 62 = some false := by kernel_rfl
@[simp] theorem un62 : unitT Tryz.prog 62 = some 1 := by kernel_rfl
@[simp] theorem ze62 : zeroT Tryz.prog 62 = some [.d (.s .nilFunc)] := by kernel_rfl
@[simp] theorem sz63 : szOf Tryz.prog 63 = some 1 := by kernel_rfl
@[simp] theorem ag63 : aggT Tryz.prog 63 = some false := by kernel_rfl
@[simp] theorem un63 : unitT Tryz.prog 63 = some 1 := by kernel_rfl
@[simp] theorem ze63 : zeroT Tryz.prog 63 = some [.d (.s .nilFunc)] := by kernel_rfl
@[simp] theorem sz64 : szOf Tryz.prog 64 = some 1 := by kernel_rfl
@[simp] theorem ag64 : aggT Tryz.prog 64 = some false := by kernel_rfl
@[simp] theorem un64 : unitT Tryz.prog 64 = some 1 := by kernel_rfl
@[simp] theorem ze64 : zeroT Tryz.prog 64 = some [.d (.s (.pointer none))] := by kernel_rfl
@[simp] theorem sz65 : szOf Tryz.prog 65 = some 1 := by kernel_rfl
@[simp] theorem ag65 : aggT Tryz.prog 65 = some false := by kernel_rfl
@[simp] theorem un65 : unitT Tryz.prog 65 = some 1 := by kernel_rfl
@[simp] theorem ze65 : zeroT Tryz.prog 65 = some [.d (.s (.pointer none))] := by kernel_rfl
@[simp] theorem sz66 : szOf Tryz.prog 66 = some 1 := by kernel_rfl
@[simp] theorem ag66 : aggT Tryz.prog 66 = some false := by kernel_rfl
@[simp] theorem un66 : unitT Tryz.prog 66 = some 1 := by kernel_rfl
@[simp] theorem ze66 : zeroT Tryz.prog 66 = some [.d (.s .nilFunc)] := by kernel_rfl
@[simp] theorem sz67 : szOf Tryz.prog 67 = some 1 := by kernel_rfl
@[simp] theorem ag67 : aggT Tryz.prog 67 = some false := by kernel_rfl
@[simp] theorem un67 : unitT Tryz.prog 67 = some 1 := by kernel_rfl
@[simp] theorem ze67 : zeroT Tryz.prog 67 = some [.d (.s .nilFunc)] := by kernel_rfl
@[simp] theorem sz68 : szOf Tryz.prog 68 = some 1 := by kernel_rfl
@[simp] theorem ag68 : aggT Tryz.prog 68 = some false := by kernel_rfl
@[simp] theorem un68 : unitT Tryz.prog 68 = some 1 := by kernel_rfl
@[simp] theorem ze68 : zeroT Tryz.prog 68 = some [.d (.s .nilFunc)] := by kernel_rfl
@[simp] theorem sz69 : szOf Tryz.prog 69 = some 1 := by kernel_rfl
@[simp] theorem ag69 : aggT Tryz.prog 69 = some false := by kernel_rfl
@[simp] theorem un69 : unitT Tryz.prog 69 = some 1 := by kernel_rfl
@[simp] theorem ze69 : zeroT Tryz.prog 69 = some [.d (.s .nilFunc)] := by kernel_rfl
@[simp] theorem sz70 : szOf Tryz.prog 70 = some 1 := by kernel_rfl
@[simp] theorem ag70 : aggT Tryz.prog 70 = some false := by kernel_rfl
@[simp] theorem un70 : unitT Tryz.prog 70 = some 1 := by kernel_rfl
@[simp] theorem ze70 : zeroT Tryz.prog 70 = some [.d (.s .nilFunc)] := by kernel_rfl
@[simp] theorem sz71 : szOf Tryz.prog 71 = some 1 := by kernel_rfl
@[simp] theorem ag71 : aggT Tryz.prog 71 = some false := by kernel_rfl
@[simp] theorem un71 : unitT Tryz.prog 71 = some 1 := by kernel_rfl
@[simp] theorem sz72 : szOf Tryz.prog 72 = some 1 := by kernel_rfl
@[simp] theorem ag72 : aggT Tryz.prog 72 = some false := by kernel_rfl
@[simp] theorem un72 : unitT Tryz.prog 72 = some 1 := by kernel_rfl
@[simp] theorem ze72 : zeroT Tryz.prog 72 = some [.d (.s .nilFunc)] := by kernel_rfl
@[simp] theorem sz73 : szOf Tryz.prog 73 = some 1 := by kernel_rfl
@[simp] theorem ag73 : aggT Tryz.prog 73 = some false := by kernel_rfl
@[simp] theorem un73 : unitT Tryz.prog 73 = some 1 := by kernel_rfl
@[simp] theorem ze73 : zeroT Tryz.prog 73 = some [.d (.s .nilIface)] := by kernel_rfl
@[simp] theorem sz74 : szOf Tryz.prog 74 = some 1 := by kernel_rfl
@[simp] theorem ag74 : aggT Tryz.prog 74 = some false := by kernel_rfl
@[simp] theorem un74 : unitT Tryz.prog 74 = some 1 := by kernel_rfl
@[simp] theorem ze74 : zeroT Tryz.prog 74 = some [.d (.s .nilIface)] := by kernel_rfl
@[simp] theorem sz75 : szOf Tryz.prog 75 = some 1 := by kernel_rfl
@[simp] theorem ag75 : aggT Tryz.prog 75 = some false := by kernel_rfl
@[simp] theorem un75 : unitT Tryz.prog 75 = some 1 := by kernel_rfl
@[simp] theorem ze75 : zeroT Tryz.prog 75 = some [.d (.s .nilFunc)] := by kernel_rfl
@[simp] theorem sz76 : szOf Tryz.prog 76 = some 1 := by kernel_rfl
@[simp] theorem ag76 : aggT Tryz.prog 76 = some false := by kernel_rfl
@[simp] theorem un76 : unitT Tryz.prog 76 = some 1 := by kernel_rfl
@[simp] theorem ze76 : zeroT Tryz.prog 76 = some [.d (.s .nilFunc)] := by kernel_rfl
@[simp] theorem sz77 : szOf Tryz.prog 77 = some 1 := by kernel_rfl
@[simp] theorem ag77 : aggT Tryz.prog 77 = some false := by kernel_rfl
@[simp] theorem un77 : unitT Tryz.prog 77 = some 1 := by kernel_rfl
@[simp] theorem ze77 : zeroT Tryz.prog 77 = some [.d (.s .nilFunc)] := by kernel_rfl
@[simp] theorem sz78 : szOf Tryz.prog 78 = some 1 := by kernel_rfl
@[simp] theorem ag78 : aggT Tryz.prog 78 = some false := by kernel_rfl
@[simp] theorem un78 : unitT Tryz.prog 78 = some 1 := by kernel_rfl
@[simp] theorem ze78 : zeroT Tryz.prog 78 = some [.d (.s .nilFunc)] := by kernel_rfl
@[simp] theorem sz79 : szOf Tryz.prog 79 = some 1 := by kernel_rfl
@[simp] theorem ag79 : aggT Tryz.prog 79 = some false := by kernel_rfl
@[simp] theorem un79 : unitT Tryz.prog 79 = some 1 := by kernel_rfl
@[simp] theorem ze79 : zeroT Tryz.prog 79 = some [.d (.s .nilFunc)] := by kernel_rfl
@[simp] theorem sz80 : szOf Tryz.prog 80 = some 1 := by kernel_rfl
@[simp] theorem ag80 : aggT Tryz.prog 80 = some false := by kernel_rfl
@[simp] theorem un80 : unitT Tryz.prog 80 = some 1 := by kernel_rfl
@[simp] theorem ze80 : zeroT Tryz.prog 80 = some [.d (.s .nilFunc)] := by kernel_rfl
@[simp] theorem sz81 : szOf Tryz.prog 81 = some 1 := by kernel_rfl
@[simp] theorem ag81 : aggT Tryz.prog 81 = some true := by kernel_rfl
@[simp] theorem un81 : unitT Tryz.prog 81 = some 1 := by kernel_rfl
theorem kd81 : kindT Tryz.prog 12 81 = some [.int .i64] := by kernel_rfl
theorem eqk81 : eqT Tryz.prog 8 81 = some (true, [.int .i64]) := by kernel_rfl
theorem eqg81 : (Tryz.prog).eqGuardType (Tryz.prog).depth 81 = false := by kernel_rfl
@[simp] theorem neqA81 (a0 b0 : Int) (K : Value → Prop) : aggBin Tryz.prog .neq 81 [.d (.s (.int .i64 a0))] [.d (.s (.int .i64 b0))] K = K (.bool (!(eqVs [.int .i64 a0] [.int .i64 b0]))) := agg_neq (xs := [.int .i64 a0]) (ys := [.int .i64 b0]) eqk81 (by decide) eqg81 rfl rfl K
@[simp] theorem eqlA81 (a0 b0 : Int) (K : Value → Prop) : aggBin Tryz.prog .eql 81 [.d (.s (.int .i64 a0))] [.d (.s (.int .i64 b0))] K = K (.bool ((eqVs [.int .i64 a0] [.int .i64 b0]))) := agg_eql (xs := [.int .i64 a0]) (ys := [.int .i64 b0]) eqk81 (by decide) eqg81 rfl rfl K
@[simp] theorem ze81 : zeroT Tryz.prog 81 = some [.d (.s (.int .i64 0))] := by kernel_rfl
@[simp] theorem fi81_0 : fieldT Tryz.prog 81 0 = some (0, 1, false) := by kernel_rfl
@[simp] theorem pl81 : placesT Tryz.prog 81 = some [(0, 1)] := by kernel_rfl
@[simp] theorem sz82 : szOf Tryz.prog 82 = some 1 := by kernel_rfl
@[simp] theorem ag82 : aggT Tryz.prog 82 = some true := by kernel_rfl
@[simp] theorem un82 : unitT Tryz.prog 82 = some 1 := by kernel_rfl
theorem kd82 : kindT Tryz.prog 12 82 = some [.int .i64] := by kernel_rfl
theorem eqk82 : eqT Tryz.prog 8 82 = some (true, [.int .i64]) := by kernel_rfl
theorem eqg82 : (Tryz.prog).eqGuardType (Tryz.prog).depth 82 = false := by kernel_rfl
@[simp] theorem neqA82 (a0 b0 : Int) (K : Value → Prop) : aggBin Tryz.prog .neq 82 [.d (.s (.int .i64 a0))] [.d (.s (.int .i64 b0))] K = K (.bool (!(eqVs [.int .i64 a0] [.int .i64 b0]))) := agg_neq (xs := [.int .i64 a0]) (ys := [.int .i64 b0]) eqk82 (by decide) eqg82 rfl rfl K
@[simp] theorem eqlA82 (a0 b0 : Int) (K : Value → Prop) : aggBin Tryz.prog .eql 82 [.d (.s (.int .i64 a0))] [.d (.s (.int .i64 b0))] K = K (.bool ((eqVs [.int .i64 a0] [.int .i64 b0]))) := agg_eql (xs := [.int .i64 a0]) (ys := [.int .i64 b0]) eqk82 (by decide) eqg82 rfl rfl K
@[simp] theorem ze82 : zeroT Tryz.prog 82 = some [.d (.s (.int .i64 0))] := by kernel_rfl
@[simp] theorem fi82_0 : fieldT Tryz.prog 82 0 = some (0, 1, false) := by kernel_rfl
@[simp] theorem pl82 : placesT Tryz.prog 82 = some [(0, 1)] := by kernel_rfl
@[simp] theorem sz83 : szOf Tryz.prog 83 = some 6 := by kernel_rfl
@[simp] theorem ag83 : aggT Tryz.prog 83 = some true := by kernel_rfl
@[simp] theorem un83 : unitT Tryz.prog 83 = some 6 := by kernel_rfl
theorem kd83 : kindT Tryz.prog 12 83 = some [.int .i64, .slice [.int .i64, .int .i64, .int .i64, .int .i64, .int .i64, .int .i64, .int .i64, .int .i64, .int .i64, .int .i64], .int .i64, .slice [.int .i64, .int .i64, .int .i64, .int .i64, .int .i64, .int .i64, .int .i64], .slice [.int .i64, .bool, .int .i64, .int .i64, .int .i64, .int .i64, .int .i64, .int .i64, .int .i64], .int .i64] := by kernel_rfl
@[simp] theorem ze83 : zeroT Tryz.prog 83 = some [.d (.s (.int .i64 0)), .d .nil, .d (.s (.int .i64 0)), .d .nil, .d .nil, .d (.s (.int .i64 0))] := by kernel_rfl
@[simp] theorem fi83_0 : fieldT Tryz.prog 83 0 = some (0, 6, true) := by kernel_rfl
@[simp] theorem pl83 : placesT Tryz.prog 83 = some [(0, 6)] := by kernel_rfl
@[simp] theorem sz84 : szOf Tryz.prog 84 = some 6 := by kernel_rfl
@[simp] theorem ag84 : aggT Tryz.prog 84 = some true := by kernel_rfl
@[simp] theorem un84 : unitT Tryz.prog 84 = some 6 := by kernel_rfl
theorem kd84 : kindT Tryz.prog 12 84 = some [.int .i64, .slice [.int .i64, .int .i64, .int .i64, .int .i64, .int .i64, .int .i64, .int .i64, .int .i64, .int .i64, .int .i64], .int .i64, .slice [.int .i64, .int .i64, .int .i64, .int .i64, .int .i64, .int .i64, .int .i64], .slice [.int .i64, .bool, .int .i64, .int .i64, .int .i64, .int .i64, .int .i64, .int .i64, .int .i64], .int .i64] := by kernel_rfl
@[simp] theorem ze84 : zeroT Tryz.prog 84 = some [.d (.s (.int .i64 0)), .d .nil, .d (.s (.int .i64 0)), .d .nil, .d .nil, .d (.s (.int .i64 0))] := by kernel_rfl
@[simp] theorem fi84_0 : fieldT Tryz.prog 84 0 = some (0, 6, true) := by kernel_rfl
@[simp] theorem pl84 : placesT Tryz.prog 84 = some [(0, 6)] := by kernel_rfl
@[simp] theorem sz85 : szOf Tryz.prog 85 = some 6 := by kernel_rfl
@[simp] theorem ag85 : aggT Tryz.prog 85 = some true := by kernel_rfl
@[simp] theorem un85 : unitT Tryz.prog 85 = some 6 := by kernel_rfl
theorem kd85 : kindT Tryz.prog 12 85 = some [.int .i64, .slice [.int .i64, .int .i64, .int .i64, .int .i64, .int .i64, .int .i64, .int .i64, .int .i64, .int .i64, .int .i64], .int .i64, .slice [.int .i64, .int .i64, .int .i64, .int .i64, .int .i64, .int .i64, .int .i64], .slice [.int .i64, .bool, .int .i64, .int .i64, .int .i64, .int .i64, .int .i64, .int .i64, .int .i64], .int .i64] := by kernel_rfl
@[simp] theorem ze85 : zeroT Tryz.prog 85 = some [.d (.s (.int .i64 0)), .d .nil, .d (.s (.int .i64 0)), .d .nil, .d .nil, .d (.s (.int .i64 0))] := by kernel_rfl
@[simp] theorem fi85_0 : fieldT Tryz.prog 85 0 = some (0, 6, true) := by kernel_rfl
@[simp] theorem pl85 : placesT Tryz.prog 85 = some [(0, 6)] := by kernel_rfl
@[simp] theorem sz86 : szOf Tryz.prog 86 = some 4 := by kernel_rfl
@[simp] theorem ag86 : aggT Tryz.prog 86 = some true := by kernel_rfl
@[simp] theorem un86 : unitT Tryz.prog 86 = some 4 := by kernel_rfl
theorem kd86 : kindT Tryz.prog 12 86 = some [.slice [.int .u8], .int .i64, .slice [.int .i64, .int .i64, .int .i64, .int .i64, .int .i64, .int .i64, .int .i64], .slice [.int .i64, .bool, .int .i64, .int .i64, .int .i64, .int .i64, .int .i64, .int .i64, .int .i64]] := by kernel_rfl
@[simp] theorem ze86 : zeroT Tryz.prog 86 = some [.d .nil, .d (.s (.int .i64 0)), .d .nil, .d .nil] := by kernel_rfl
@[simp] theorem fi86_0 : fieldT Tryz.prog 86 0 = some (0, 1, false) := by kernel_rfl
@[simp] theorem fi86_1 : fieldT Tryz.prog 86 1 = some (1, 3, true) := by kernel_rfl
@[simp] theorem pl86 : placesT Tryz.prog 86 = some [(0, 1), (1, 3)] := by kernel_rfl
@[simp] theorem sz87 : szOf Tryz.prog 87 = some 4 := by kernel_rfl
@[simp] theorem ag87 : aggT Tryz.prog 87 = some true := by kernel_rfl
@[simp] theorem un87 : unitT Tryz.prog 87 = some 4 := by kernel_rfl
theorem kd87 : kindT Tryz.prog 12 87 = some [.slice [.int .u8], .int .i64, .slice [.int .i64, .int .i64, .int .i64, .int .i64, .int .i64, .int .i64, .int .i64], .slice [.int .i64, .bool, .int .i64, .int .i64, .int .i64, .int .i64, .int .i64, .int .i64, .int .i64]] := by kernel_rfl
@[simp] theorem ze87 : zeroT Tryz.prog 87 = some [.d .nil, .d (.s (.int .i64 0)), .d .nil, .d .nil] := by kernel_rfl
@[simp] theorem fi87_0 : fieldT Tryz.prog 87 0 = some (0, 1, false) := by kernel_rfl
@[simp] theorem fi87_1 : fieldT Tryz.prog 87 1 = some (1, 3, true) := by kernel_rfl
@[simp] theorem pl87 : placesT Tryz.prog 87 = some [(0, 1), (1, 3)] := by kernel_rfl
@[simp] theorem sz88 : szOf Tryz.prog 88 = some 1 := by kernel_rfl
@[simp] theorem ag88 : aggT Tryz.prog 88 = some false := by kernel_rfl
@[simp] theorem un88 : unitT Tryz.prog 88 = some 1 := by kernel_rfl
@[simp] theorem ze88 : zeroT Tryz.prog 88 = some [.d (.s .nilFunc)] := by kernel_rfl
@[simp] theorem sz89 : szOf Tryz.prog 89 = some 1 := by kernel_rfl
@[simp] theorem ag89 : aggT Tryz.prog 89 = some false := by kernel_rfl
@[simp] theorem un89 : unitT Tryz.prog 89 = some 1 := by kernel_rfl
@[simp] theorem ze89 : zeroT Tryz.prog 89 = some [.d (.s .nilFunc)] := by kernel_rfl
@[simp] theorem sz90 : szOf Tryz.prog 90 = some 1 := by kernel_rfl
@[simp] theorem ag90 : aggT Tryz.prog 90 = some false := by kernel_rfl
@[simp] theorem un90 : unitT Tryz.prog 90 = some 1 := by kernel_rfl
@[simp] theorem ze90 : zeroT Tryz.prog 90 = some [.d (.s .nilFunc)] := by kernel_rfl
@[simp] theorem sz91 : szOf Tryz.prog 91 = some 1 := by kernel_rfl
@[simp] theorem ag91 : aggT Tryz.prog 91 = some false := by kernel_rfl
@[simp] theorem un91 : unitT Tryz.prog 91 = some 1 := by kernel_rfl
@[simp] theorem ze91 : zeroT Tryz.prog 91 = some [.d (.s .nilFunc)] := by kernel_rfl
@[simp] theorem sz92 : szOf Tryz.prog 92 = some 1 := by kernel_rfl
@[simp] theorem ag92 : aggT Tryz.prog 92 = some false := by kernel_rfl
@[simp] theorem un92 : unitT Tryz.prog 92 = some 1 := by kernel_rfl
@[simp] theorem ze92 : zeroT Tryz.prog 92 = some [.d (.s .nilFunc)] := by kernel_rfl
@[simp] theorem sz93 : szOf Tryz.prog 93 = some 8 := by kernel_rfl
@[simp] theorem ag93 : aggT Tryz.prog 93 = some true := by kernel_rfl
@[simp] theorem un93 : unitT Tryz.prog 93 = some 8 := by kernel_rfl
theorem kd93 : kindT Tryz.prog 12 93 = some [.bool, .int .i64, .int .i64, .int .i64, .int .i64, .int .i64, .int .i64, .int .i64] := by kernel_rfl
theorem eqk93 : eqT Tryz.prog 8 93 = some (true, [.bool, .int .i64, .int .i64, .int .i64, .int .i64, .int .i64, .int .i64, .int .i64]) := by kernel_rfl
theorem eqg93 : (Tryz.prog).eqGuardType (Tryz.prog).depth 93 = false := by kernel_rfl
@[simp] theorem neqA93 (a0 b0 : Bool) (a1 b1 : Int) (a2 b2 : Int) (a3 b3 : Int) (a4 b4 : Int) (a5 b5 : Int) (a6 b6 : Int) (a7 b7 : Int) (K : Value → Prop) : aggBin Tryz.prog .neq 93 [.d (.s (.bool a0)), .d (.s (.int .i64 a1)), .d (.s (.int .i64 a2)), .d (.s (.int .i64 a3)), .d (.s (.int .i64 a4)), .d (.s (.int .i64 a5)), .d (.s (.int .i64 a6)), .d (.s (.int .i64 a7))] [.d (.s (.bool b0)), .d (.s (.int .i64 b1)), .d (.s (.int .i64 b2)), .d (.s (.int .i64 b3)), .d (.s (.int .i64 b4)), .d (.s (.int .i64 b5)), .d (.s (.int .i64 b6)), .d (.s (.int .i64 b7))] K = K (.bool (!(eqVs [.bool a0, .int .i64 a1, .int .i64 a2, .int .i64 a3, .int .i64 a4, .int .i64 a5, .int .i64 a6, .int .i64 a7] [.bool b0, .int .i64 b1, .int .i64 b2, .int .i64 b3, .int .i64 b4, .int .i64 b5, .int .i64 b6, .int .i64 b7]))) := agg_neq (xs := [.bool a0, .int .i64 a1, .int .i64 a2, .int .i64 a3, .int .i64 a4, .int .i64 a5, .int .i64 a6, .int .i64 a7]) (ys := [.bool b0, .int .i64 b1, .int .i64 b2, .int .i64 b3, .int .i64 b4, .int .i64 b5, .int .i64 b6, .int .i64 b7]) eqk93 (by decide) eqg93 rfl rfl K
@[simp] theorem eqlA93 (a0 b0 : Bool) (a1 b1 : Int) (a2 b2 : Int) (a3 b3 : Int) (a4 b4 : Int) (a5 b5 : Int) (a6 b6 : Int) (a7 b7 : Int) (K : Value → Prop) : aggBin Tryz.prog .eql 93 [.d (.s (.bool a0)), .d (.s (.int .i64 a1)), .d (.s (.int .i64 a2)), .d (.s (.int .i64 a3)), .d (.s (.int .i64 a4)), .d (.s (.int .i64 a5)), .d (.s (.int .i64 a6)), .d (.s (.int .i64 a7))] [.d (.s (.bool b0)), .d (.s (.int .i64 b1)), .d (.s (.int .i64 b2)), .d (.s (.int .i64 b3)), .d (.s (.int .i64 b4)), .d (.s (.int .i64 b5)), .d (.s (.int .i64 b6)), .d (.s (.int .i64 b7))] K = K (.bool ((eqVs [.bool a0, .int .i64 a1, .int .i64 a2, .int .i64 a3, .int .i64 a4, .int .i64 a5, .int .i64 a6, .int .i64 a7] [.bool b0, .int .i64 b1, .int .i64 b2, .int .i64 b3, .int .i64 b4, .int .i64 b5, .int .i64 b6, .int .i64 b7]))) := agg_eql (xs := [.bool a0, .int .i64 a1, .int .i64 a2, .int .i64 a3, .int .i64 a4, .int .i64 a5, .int .i64 a6, .int .i64 a7]) (ys := [.bool b0, .int .i64 b1, .int .i64 b2, .int .i64 b3, .int .i64 b4, .int .i64 b5, .int .i64 b6, .int .i64 b7]) eqk93 (by decide) eqg93 rfl rfl K
@[simp] theorem ze93 : zeroT Tryz.prog 93 = some [.d (.s (.bool false)), .d (.s (.int .i64 0)), .d (.s (.int .i64 0)), .d (.s (.int .i64 0)), .d (.s (.int .i64 0)), .d (.s (.int .i64 0)), .d (.s (.int .i64 0)), .d (.s (.int .i64 0))] := by kernel_rfl
@[simp] theorem fi93_0 : fieldT Tryz.prog 93 0 = some (0, 1, false) := by kernel_rfl
@[simp] theorem fi93_1 : fieldT Tryz.prog 93 1 = some (1, 7, true) := by kernel_rfl
@[simp] theorem pl93 : placesT Tryz.prog 93 = some [(0, 1), (1, 7)] := by kernel_rfl
@[simp] theorem sz94 : szOf Tryz.prog 94 = some 8 := by kernel_rfl
@[simp] theorem ag94 : aggT Tryz.prog 94 = some true := by kernel_rfl
@[simp] theorem un94 : unitT Tryz.prog 94 = some 8 := by kernel_rfl
theorem kd94 : kindT Tryz.prog 12 94 = some [.bool, .int .i64, .int .i64, .int .i64, .int .i64, .int .i64, .int .i64, .int .i64] := by kernel_rfl
theorem eqk94 : eqT Tryz.prog 8 94 = some (true, [.bool, .int .i64, .int .i64, .int .i64, .int .i64, .int .i64, .int .i64, .int .i64]) := by kernel_rfl
theorem eqg94 : (Tryz.prog).eqGuardType (Tryz.prog).depth 94 = false := by kernel_rfl
@[simp] theorem neqA94 (a0 b0 : Bool) (a1 b1 : Int) (a2 b2 : Int) (a3 b3 : Int) (a4 b4 : Int) (a5 b5 : Int) (a6 b6 : Int) (a7 b7 : Int) (K : Value → Prop) : aggBin Tryz.prog .neq 94 [.d (.s (.bool a0)), .d (.s (.int .i64 a1)), .d (.s (.int .i64 a2)), .d (.s (.int .i64 a3)), .d (.s (.int .i64 a4)), .d (.s (.int .i64 a5)), .d (.s (.int .i64 a6)), .d (.s (.int .i64 a7))] [.d (.s (.bool b0)), .d (.s (.int .i64 b1)), .d (.s (.int .i64 b2)), .d (.s (.int .i64 b3)), .d (.s (.int .i64 b4)), .d (.s (.int .i64 b5)), .d (.s (.int .i64 b6)), .d (.s (.int .i64 b7))] K = K (.bool (!(eqVs [.bool a0, .int .i64 a1, .int .i64 a2, .int .i64 a3, .int .i64 a4, .int .i64 a5, .int .i64 a6, .int .i64 a7] [.bool b0, .int .i64 b1, .int .i64 b2, .int .i64 b3, .int .i64 b4, .int .i64 b5, .int .i64 b6, .int .i64 b7]))) := agg_neq (xs := [.bool a0, .int .i64 a1, .int .i64 a2, .int .i64 a3, .int .i64 a4, .int .i64 a5, .int .i64 a6, .int .i64 a7]) (ys := [.bool b0, .int .i64 b1, .int .i64 b2, .int .i64 b3, .int .i64 b4, .int .i64 b5, .int .i64 b6, .int .i64 b7]) eqk94 (by decide) eqg94 rfl rfl K
@[simp] theorem eqlA94 (a0 b0 : Bool) (a1 b1 : Int) (a2 b2 : Int) (a3 b3 : Int) (a4 b4 : Int) (a5 b5 : Int) (a6 b6 : Int) (a7 b7 : Int) (K : Value → Prop) : aggBin Tryz.prog .eql 94 [.d (.s (.bool a0)), .d (.s (.int .i64 a1)), .d (.s (.int .i64 a2)), .d (.s (.int .i64 a3)), .d (.s (.int .i64 a4)), .d (.s (.int .i64 a5)), .d (.s (.int .i64 a6)), .d (.s (.int .i64 a7))] [.d (.s (.bool b0)), .d (.s (.int .i64 b1)), .d (.s (.int .i64 b2)), .d (.s (.int .i64 b3)), .d (.s (.int .i64 b4)), .d (.s (.int .i64 b5)), .d (.s (.int .i64 b6)), .d (.s (.int .i64 b7))] K = K (.bool ((eqVs [.bool a0, .int .i64 a1, .int .i64 a2, .int .i64 a3, .int .i64 a4, .int .i64 a5, .int .i64 a6, .int .i64 a7] [.bool b0, .int .i64 b1, .int .i64 b2, .int .i64 b3, .int .i64 b4, .int .i64 b5, .int .i64 b6, .int .i64 b7]))) := agg_eql (xs := [.bool a0, .int .i64 a1, .int .i64 a2, .int .i64 a3, .int .i64 a4, .int .i64 a5, .int .i64 a6, .int .i64 a7]) (ys := [.bool b0, .int .i64 b1, .int .i64 b2, .int .i64 b3, .int .i64 b4, .int .i64 b5, .int .i64 b6, .int .i64 b7]) eqk94 (by decide) eqg94 rfl rfl K
@[simp] theorem ze94 : zeroT Tryz.prog 94 = some [.d (.s (.bool false)), .d (.s (.int .i64 0)), .d (.s (.int .i64 0)), .d (.s (.int .i64 0)), .d (.s (.int .i64 0)), .d (.s (.int .i64 0)), .d (.s (.int .i64 0)), .d (.s (.int .i64 0))] := by kernel_rfl
@[simp] theorem fi94_0 : fieldT Tryz.prog 94 0 = some (0, 1, false) := by kernel_rfl
@[simp] theorem fi94_1 : fieldT Tryz.prog 94 1 = some (1, 7, true) := by kernel_rfl
@[simp] theorem pl94 : placesT Tryz.prog 94 = some [(0, 1), (1, 7)] := by kernel_rfl
@[simp] theorem sz95 : szOf Tryz.prog 95 = some 1 := by kernel_rfl
@[simp] theorem ag95 : aggT Tryz.prog 95 = some false := by kernel_rfl
@[simp] theorem un95 : unitT Tryz.prog 95 = some 1 := by kernel_rfl
@[simp] theorem ze95 : zeroT Tryz.prog 95 = some [.d (.s .nilFunc)] := by kernel_rfl
@[simp] theorem sz96 : szOf Tryz.prog 96 = some 2 := by kernel_rfl
@[simp] theorem ag96 : aggT Tryz.prog 96 = some true := by kernel_rfl
@[simp] theorem un96 : unitT Tryz.prog 96 = some 2 := by kernel_rfl
theorem kd96 : kindT Tryz.prog 12 96 = some [.int .i64, .int .i64] := by kernel_rfl
theorem eqk96 : eqT Tryz.prog 8 96 = some (true, [.int .i64, .int .i64]) := by kernel_rfl
theorem eqg96 : (Tryz.prog).eqGuardType (Tryz.prog).depth 96 = false := by kernel_rfl
@[simp] theorem neqA96 (a0 b0 : Int) (a1 b1 : Int) (K : Value → Prop) : aggBin Tryz.prog .neq 96 [.d (.s (.int .i64 a0)), .d (.s (.int .i64 a1))] [.d (.s (.int .i64 b0)), .d (.s (.int .i64 b1))] K = K (.bool (!(eqVs [.int .i64 a0, .int .i64 a1] [.int .i64 b0, .int .i64 b1]))) := agg_neq (xs := [.int .i64 a0, .int .i64 a1]) (ys := [.int .i64 b0, .int .i64 b1]) eqk96 (by decide) eqg96 rfl rfl K
@[simp] theorem eqlA96 (a0 b0 : Int) (a1 b1 : Int) (K : Value → Prop) : aggBin Tryz.prog .eql 96 [.d (.s (.int .i64 a0)), .d (.s (.int .i64 a1))] [.d (.s (.int .i64 b0)), .d (.s (.int .i64 b1))] K = K (.bool ((eqVs [.int .i64 a0, .int .i64 a1] [.int .i64 b0, .int .i64 b1]))) := agg_eql (xs := [.int .i64 a0, .int .i64 a1]) (ys := [.int .i64 b0, .int .i64 b1]) eqk96 (by decide) eqg96 rfl rfl K
@[simp] theorem ze96 : zeroT Tryz.prog 96 = some [.d (.s (.int .i64 0)), .d (.s (.int .i64 0))] := by kernel_rfl
@[simp] theorem fi96_0 : fieldT Tryz.prog 96 0 = some (0, 1, false) := by kernel_rfl
@[simp] theorem fi96_1 : fieldT Tryz.prog 96 1 = some (1, 1, false) := by kernel_rfl
@[simp] theorem pl96 : placesT Tryz.prog 96 = some [(0, 1), (1, 1)] := by kernel_rfl
@[simp] theorem sz97 : szOf Tryz.prog 97 = some 2 := by kernel_rfl
@[simp] theorem ag97 : aggT Tryz.prog 97 = some true := by kernel_rfl
@[simp] theorem un97 : unitT Tryz.prog 97 = some 2 := by kernel_rfl
theorem kd97 : kindT Tryz.prog 12 97 = some [.int .i64, .int .i64] := by kernel_rfl
theorem eqk97 : eqT Tryz.prog 8 97 = some (true, [.int .i64, .int .i64]) := by kernel_rfl
theorem eqg97 : (Tryz.prog).eqGuardType (Tryz.prog).depth 97 = false := by kernel_rfl
@[simp] theorem neqA97 (a0 b0 : Int) (a1 b1 : Int) (K : Value → Prop) : aggBin Tryz.prog .neq 97 [.d (.s (.int .i64 a0)), .d (.s (.int .i64 a1))] [.d (.s (.int .i64 b0)), .d (.s (.int .i64 b1))] K = K (.bool (!(eqVs [.int .i64 a0, .int .i64 a1] [.int .i64 b0, .int .i64 b1]))) := agg_neq (xs := [.int .i64 a0, .int .i64 a1]) (ys := [.int .i64 b0, .int .i64 b1]) eqk97 (by decide) eqg97 rfl rfl K
@[simp] theorem eqlA97 (a0 b0 : Int) (a1 b1 : Int) (K : Value → Prop) : aggBin Tryz.prog .eql 97 [.d (.s (.int .i64 a0)), .d (.s (.int .i64 a1))] [.d (.s (.int .i64 b0)), .d (.s (.int .i64 b1))] K = K (.bool ((eqVs [.int .i64 a0, .int .i64 a1] [.int .i64 b0, .int .i64 b1]))) := agg_eql (xs := [.int .i64 a0, .int .i64 a1]) (ys := [.int .i64 b0, .int .i64 b1]) eqk97 (by decide) eqg97 rfl rfl K
@[simp] theorem ze97 : zeroT Tryz.prog 97 = some [.d (.s (.int .i64 0)), .d (.s (.int .i64 0))] := by kernel_rfl
@[simp] theorem fi97_0 : fieldT Tryz.prog 97 0 = some (0, 1, false) := by kernel_rfl
@[simp] theorem fi97_1 : fieldT Tryz.prog 97 1 = some (1, 1, false) := by kernel_rfl
@[simp] theorem pl97 : placesT Tryz.prog 97 = some [(0, 1), (1, 1)] := by kernel_rfl
@[simp] theorem sz98 : szOf Tryz.prog 98 = some 1 := by kernel_rfl
@[simp] theorem ag98 : aggT Tryz.prog 98 = some false := by kernel_rfl
@[simp] theorem un98 : unitT Tryz.prog 98 = some 1 := by kernel_rfl
@[simp] theorem ze98 : zeroT Tryz.prog 98 = some [.d (.s .nilFunc)] := by kernel_rfl
@[simp] theorem sz99 : szOf Tryz.prog 99 = some 1 := by kernel_rfl
@[simp] theorem ag99 : aggT Tryz.prog 99 = some false := by kernel_rfl
@[simp] theorem un99 : unitT Tryz.prog 99 = some 1 := by kernel_rfl
@[simp] theorem ze99 : zeroT Tryz.prog 99 = some [.d (.s (.pointer none))] := by kernel_rfl
@[simp] theorem sz100 : szOf Tryz.prog 100 = some 1 := by kernel_rfl
@[simp] theorem ag100 : aggT Tryz.prog 100 = some false := by kernel_rfl
@[simp] theorem un100 : unitT Tryz.prog 100 = some 1 := by kernel_rfl
@[simp] theorem ze100 : zeroT Tryz.prog 100 = some [.d (.s .nilFunc)] := by kernel_rfl
@[simp] theorem sz101 : szOf Tryz.prog 101 = some 1 := by kernel_rfl
@[simp] theorem ag101 : aggT Tryz.prog 101 = some false := by kernel_rfl
@[simp] theorem un101 : unitT Tryz.prog 101 = some 1 := by kernel_rfl
@[simp] theorem ze101 : zeroT Tryz.prog 101 = some [.d (.s (.pointer none))] := by kernel_rfl
@[simp] theorem sz102 : szOf Tryz.prog 102 = some 9 := by kernel_rfl
@[simp] theorem ag102 : aggT Tryz.prog 102 = some true := by kernel_rfl
@[simp] theorem un102 : unitT Tryz.prog 102 = some 9 := by kernel_rfl
theorem kd102 : kindT Tryz.prog 12 102 = some [.int .i64, .bool, .int .i64, .int .i64, .int .i64, .int .i64, .int .i64, .int .i64, .int .i64] := by kernel_rfl
theorem eqk102 : eqT Tryz.prog 8 102 = some (true, [.int .i64, .bool, .int .i64, .int .i64, .int .i64, .int .i64, .int .i64, .int .i64, .int .i64]) := by kernel_rfl
theorem eqg102 : (Tryz.prog).eqGuardType (Tryz.prog).depth 102 = false := by kernel_rfl
@[simp] theorem neqA102 (a0 b0 : Int) (a1 b1 : Bool) (a2 b2 : Int) (a3 b3 : Int) (a4 b4 : Int) (a5 b5 : Int) (a6 b6 : Int) (a7 b7 : Int) (a8 b8 : Int) (K : Value → Prop) : aggBin Tryz.prog .neq 102 [.d (.s (.int .i64 a0)), .d (.s (.bool a1)), .d (.s (.int .i64 a2)), .d (.s (.int .i64 a3)), .d (.s (.int .i64 a4)), .d (.s (.int .i64 a5)), .d (.s (.int .i64 a6)), .d (.s (.int .i64 a7)), .d (.s (.int .i64 a8))] [.d (.s (.int .i64 b0)), .d (.s (.bool b1)), .d (.s (.int .i64 b2)), .d (.s (.int .i64 b3)), .d (.s (.int .i64 b4)), .d (.s (.int .i64 b5)), .d (.s (.int .i64 b6)), .d (.s (.int .i64 b7)), .d (.s (.int .i64 b8))] K = K (.bool (!(eqVs [.int .i64 a0, .bool a1, .int .i64 a2, .int .i64 a3, .int .i64 a4, .int .i64 a5, .int .i64 a6, .int .i64 a7, .int .i64 a8] [.int .i64 b0, .bool b1, .int .i64 b2, .int .i64 b3, .int .i64 b4, .int .i64 b5, .int .i64 b6, .int .i64 b7, .int .i64 b8]))) := agg_neq (xs := [.int .i64 a0, .bool a1, .int .i64 a2, .int .i64 a3, .int .i64 a4, .int .i64 a5, .int .i64 a6, .int .i64 a7, .int .i64 a8]) (ys := [.int .i64 b0, .bool b1, .int .i64 b2, .int .i64 b3, .int .i64 b4, .int .i64 b5, .int .i64 b6, .int .i64 b7, .int .i64 b8]) eqk102 (by decide) eqg102 rfl rfl K
@[simp] theorem eqlA102 (a0 b0 : Int) (a1 b1 : Bool) (a2 b2 : Int) (a3 b3 : Int) (a4 b4 : Int) (a5 b5 : Int) (a6 b6 : Int) (a7 b7 : Int) (a8 b8 : Int) (K : Value → Prop) : aggBin Tryz.prog .eql 102 [.d (.s (.int .i64 a0)), .d (.s (.bool a1)), .d (.s (.int .i64 a2)), .d (.s (.int .i64 a3)), .d (.s (.int .i64 a4)), .d (.s (.int .i64 a5)), .d (.s (.int .i64 a6)), .d (.s (.int .i64 a7)), .d (.s (.int .i64 a8))] [.d (.s (.int .i64 b0)), .d (.s (.bool b1)), .d (.s (.int .i64 b2)), .d (.s (.int .i64 b3)), .d (.s (.int .i64 b4)), .d (.s (.int .i64 b5)), .d (.s (.int .i64 b6)), .d (.s (.int .i64 b7)), .d (.s (.int .i64 b8))] K = K (.bool ((eqVs [.int .i64 a0, .bool a1, .int .i64 a2, .int .i64 a3, .int .i64 a4, .int .i64 a5, .int .i64 a6, .int .i64 a7, .int .i64 a8] [.int .i64 b0, .bool b1, .int .i64 b2, .int .i64 b3, .int .i64 b4, .int .i64 b5, .int .i64 b6, .int .i64 b7, .int .i64 b8]))) := agg_eql (xs := [.int .i64 a0, .bool a1, .int .i64 a2, .int .i64 a3, .int .i64 a4, .int .i64 a5, .int .i64 a6, .int .i64 a7, .int .i64 a8]) (ys := [.int .i64 b0, .bool b1, .int .i64 b2, .int .i64 b3, .int .i64 b4, .int .i64 b5, .int .i64 b6, .int .i64 b7, .int .i64 b8]) eqk102 (by decide) eqg102 rfl rfl K
@[simp] theorem ze102 : zeroT Tryz.prog 102 = some [.d (.s (.int .i64 0)), .d (.s (.bool false)), .d (.s (.int .i64 0)), .d (.s (.int .i64 0)), .d (.s (.int .i64 0)), .d (.s (.int .i64 0)), .d (.s (.int .i64 0)), .d (.s (.int .i64 0)), .d (.s (.int .i64 0))] := by kernel_rfl
@[simp] theorem fi102_0 : fieldT Tryz.prog 102 0 = some (0, 1, false) := by kernel_rfl
@[simp] theorem fi102_1 : fieldT Tryz.prog 102 1 = some (1, 1, false) := by kernel_rfl
@[simp] theorem fi102_2 : fieldT Tryz.prog 102 2 = some (2, 7, true) := by kernel_rfl
@[simp] theorem pl102 : placesT Tryz.prog 102 = some [(0, 1), (1, 1), (2, 7)] := by kernel_rfl
@[simp] theorem sz103 : szOf Tryz.prog 103 = some 9 := by kernel_rfl
@[simp] theorem ag103 : aggT Tryz.prog 103 = some true := by kernel_rfl
@[simp] theorem un103 : unitT Tryz.prog 103 = some 9 := by kernel_rfl
theorem kd103 : kindT Tryz.prog 12 103 = some [.int .i64, .bool, .int .i64, .int .i64, .int .i64, .int .i64, .int .i64, .int .i64, .int .i64] := by kernel_rfl
theorem eqk103 : eqT Tryz.prog 8 103 = some (true, [.int .i64, .bool, .int .i64, .int .i64, .int .i64, .int .i64, .int .i64, .int .i64, .int .i64]) := by kernel_rfl
theorem eqg103 : (Tryz.prog).eqGuardType (Tryz.prog).depth 103 = false := by kernel_rfl
@[simp] theorem neqA103 (a0 b0 : Int) (a1 b1 : Bool) (a2 b2 : Int) (a3 b3 : Int) (a4 b4 : Int) (a5 b5 : Int) (a6 b6 : Int) (a7 b7 : Int) (a8 b8 : Int) (K : Value → Prop) : aggBin Tryz.prog .neq 103 [.d (.s (.int .i64 a0)), .d (.s (.bool a1)), .d (.s (.int .i64 a2)), .d (.s (.int .i64 a3)), .d (.s (.int .i64 a4)), .d (.s (.int .i64 a5)), .d (.s (.int .i64 a6)), .d (.s (.int .i64 a7)), .d (.s (.int .i64 a8))] [.d (.s (.int .i64 b0)), .d (.s (.bool b1)), .d (.s (.int .i64 b2)), .d (.s (.int .i64 b3)), .d (.s (.int .i64 b4)), .d (.s (.int .i64 b5)), .d (.s (.int .i64 b6)), .d (.s (.int .i64 b7)), .d (.s (.int .i64 b8))] K = K (.bool (!(eqVs [.int .i64 a0, .bool a1, .int .i64 a2, .int .i64 a3, .int .i64 a4, .int .i64 a5, .int .i64 a6, .int .i64 a7, .int .i64 a8] [.int .i64 b0, .bool b1, .int .i64 b2, .int .i64 b3, .int .i64 b4, .int .i64 b5, .int .i64 b6, .int .i64 b7, .int .i64 b8]))) := agg_neq (xs := [.int .i64 a0, .bool a1, .int .i64 a2, .int .i64 a3, .int .i64 a4, .int .i64 a5, .int .i64 a6, .int .i64 a7, .int .i64 a8]) (ys := [.int .i64 b0, .bool b1, .int .i64 b2, .int .i64 b3, .int .i64 b4, .int .i64 b5, .int .i64 b6, .int .i64 b7, .int .i64 b8]) eqk103 (by decide) eqg103 rfl rfl K
@[simp] theorem eqlA103 (a0 b0 : Int) (a1 b1 : Bool) (a2 b2 : Int) (a3 b3 : Int) (a4 b4 : Int) (a5 b5 : Int) (a6 b6 : Int) (a7 b7 : Int) (a8 b8 : Int) (K : Value → Prop) : aggBin Tryz.prog .eql 103 [.d (.s (.int .i64 a0)), .d (.s (.bool a1)), .d (.s (.int .i64 a2)), .d (.s (.int .i64 a3)), .d (.s (.int .i64 a4)), .d (.s (.int .i64 a5)), .d (.s (.int .i64 a6)), .d (.s (.int .i64 a7)), .d (.s (.int .i64 a8))] [.d (.s (.int .i64 b0)), .d (.s (.bool b1)), .d (.s (.int .i64 b2)), .d (.s (.int .i64 b3)), .d (.s (.int .i64 b4)), .d (.s (.int .i64 b5)), .d (.s (.int .i64 b6)), .d (.s (.int .i64 b7)), .d (.s (.int .i64 b8))] K = K (.bool ((eqVs [.int .i64 a0, .bool a1, .int .i64 a2, .int .i64 a3, .int .i64 a4, .int .i64 a5, .int .i64 a6, .int .i64 a7, .int .i64 a8] [.int .i64 b0, .bool b1, .int .i64 b2, .int .i64 b3, .int .i64 b4, .int .i64 b5, .int .i64 b6, .int .i64 b7, .int .i64 b8]))) := agg_eql (xs := [.int .i64 a0, .bool a1, .int .i64 a2, .int .i64 a3, .int .i64 a4, .int .i64 a5, .int .i64 a6, .int .i64 a7, .int .i64 a8]) (ys := [.int .i64 b0, .bool b1, .int .i64 b2, .int .i64 b3, .int .i64 b4, .int .i64 b5, .int .i64 b6, .int .i64 b7, .int .i64 b8]) eqk103 (by decide) eqg103 rfl rfl K
@[simp] theorem ze103 : zeroT Tryz.prog 103 = some [.d (.s (.int .i64 0)), .d (.s (.bool false)), .d (.s (.int .i64 0)), .d (.s (.int .i64 0)), .d (.s (.int .i64 0)), .d (.s (.int .i64 0)), .d (.s (.int .i64 0)), .d (.s (.int .i64 0)), .d (.s (.int .i64 0))] := by kernel_rfl
@[simp] theorem fi103_0 : fieldT Tryz.prog 103 0 = some (0, 1, false) := by kernel_rfl
@[simp] theorem fi103_1 : fieldT Tryz.prog 103 1 = some (1, 1, false) := by kernel_rfl
@[simp] theorem fi103_2 : fieldT Tryz.prog 103 2 = some (2, 7, true) := by kernel_rfl
@[simp] theorem pl103 : placesT Tryz.prog 103 = some [(0, 1), (1, 1), (2, 7)] := by kernel_rfl
@[simp] theorem sz104 : szOf Tryz.prog 104 = some 1 := by kernel_rfl
@[simp] theorem ag104 : aggT Tryz.prog 104 = some false := by kernel_rfl
@[simp] theorem un104 : unitT Tryz.prog 104 = some 1 := by kernel_rfl
@[simp] theorem ze104 : zeroT Tryz.prog 104 = some [.d (.s .nilFunc)] := by kernel_rfl
@[simp] theorem sz105 : szOf Tryz.prog 105 = some 1 := by kernel_rfl
@[simp] theorem ag105 : aggT Tryz.prog 105 = some false := by kernel_rfl
@[simp] theorem un105 : unitT Tryz.prog 105 = some 1 := by kernel_rfl
@[simp] theorem ze105 : zeroT Tryz.prog 105 = some [.d (.s (.pointer none))] := by kernel_rfl
@[simp] theorem sz106 : szOf Tryz.prog 106 = some 1 := by kernel_rfl
@[simp] theorem ag106 : aggT Tryz.prog 106 = some false := by kernel_rfl
@[simp] theorem un106 : unitT Tryz.prog 106 = some 1 := by kernel_rfl
@[simp] theorem ze106 : zeroT Tryz.prog 106 = some [.d (.s .nilFunc)] := by kernel_rfl
@[simp] theorem sz107 : szOf Tryz.prog 107 = some 1 := by kernel_rfl
@[simp] theorem ag107 : aggT Tryz.prog 107 = some false := by kernel_rfl
@[simp] theorem un107 : unitT Tryz.prog 107 = some 1 := by kernel_rfl
@[simp] theorem mpT107 : mapT Tryz.prog 107 = some (97, 56) := by kernel_rfl
@[simp] theorem ze107 : zeroT Tryz.prog 107 = some [.d (.s (.map none))] := by kernel_rfl
@[simp] theorem sz108 : szOf Tryz.prog 108 = some 1 := by kernel_rfl
@[simp] theorem ag108 : aggT Tryz.prog 108 = some false := by kernel_rfl
@[simp] theorem un108 : unitT Tryz.prog 108 = some 1 := by kernel_rfl
@[simp] theorem ze108 : zeroT Tryz.prog 108 = some [.d (.s .nilFunc)] := by kernel_rfl
@[simp] theorem sz109 : szOf Tryz.prog 109 = some 1 := by kernel_rfl
@[simp] theorem ag109 : aggT Tryz.prog 109 = some false := by kernel_rfl
@[simp] theorem un109 : unitT Tryz.prog 109 = some 1 := by kernel_rfl
@[simp] theorem ze109 : zeroT Tryz.prog 109 = some [.d (.s .nilFunc)] := by kernel_rfl
@[simp] theorem sz110 : szOf Tryz.prog 110 = some 1 := by kernel_rfl
@[simp] theorem ag110 : aggT Tryz.prog 110 = some false := by kernel_rfl
@[simp] theorem un110 : unitT Tryz.prog 110 = some 1 := by kernel_rfl
@[simp] theorem ze110 : zeroT Tryz.prog 110 = some [.d (.s .nilFunc)] := by kernel_rfl
@[simp] theorem sz111 : szOf Tryz.prog 111 = some 1 := by kernel_rfl
@[simp] theorem ag111 : aggT Tryz.prog 111 = some false := by kernel_rfl
@[simp] theorem un111 : unitT Tryz.prog 111 = some 1 := by kernel_rfl
@[simp] theorem ze111 : zeroT Tryz.prog 111 = some [.d (.s .nilFunc)] := by kernel_rfl
@[simp] theorem sz112 : szOf Tryz.prog 112 = some 1 := by kernel_rfl
@[simp] theorem ag112 : aggT Tryz.prog 112 = some false := by kernel_rfl
@[simp] theorem un112 : unitT Tryz.prog 112 = some 1 := by kernel_rfl
@[simp] theorem ze112 : zeroT Tryz.prog 112 = some [.d (.s .nilFunc)] := by kernel_rfl
@[simp] theorem sz113 : szOf Tryz.prog 113 = some 1 := by kernel_rfl
@[simp] theorem ag113 : aggT Tryz.prog 113 = some false := by kernel_rfl
@[simp] theorem un113 : unitT Tryz.prog 113 = some 1 := by kernel_rfl
@[simp] theorem ze113 : zeroT Tryz.prog 113 = some [.d (.s .nilFunc)] := by kernel_rfl
@[simp] theorem sz114 : szOf Tryz.prog 114 = some 1 := by kernel_rfl
@[simp] theorem ag114 : aggT Tryz.prog 114 = some false := by kernel_rfl
@[simp] theorem un114 : unitT Tryz.prog 114 = some 1 := by kernel_rfl
@[simp] theorem ze114 : zeroT Tryz.prog 114 = some [.d (.s .nilFunc)] := by kernel_rfl
@[simp] theorem sz115 : szOf Tryz.prog 115 = some 1 := by kernel_rfl
@[simp] theorem ag115 : aggT Tryz.prog 115 = some false := by kernel_rfl
@[simp] theorem un115 : unitT Tryz.prog 115 = some 1 := by kernel_rfl
@[simp] theorem ze115 : zeroT Tryz.prog 115 = some [.d (.s .nilFunc)] := by kernel_rfl
@[simp] theorem sz116 : szOf Tryz.prog 116 = some 1 := by kernel_rfl
@[simp] theorem ag116 : aggT Tryz.prog 116 = some false := by kernel_rfl
@[simp] theorem un116 : unitT Tryz.prog 116 = some 1 := by kernel_rfl
@[simp] theorem ze116 : zeroT Tryz.prog 116 = some [.d (.s .nilFunc)] := by kernel_rfl
@[simp] theorem sz117 : szOf Tryz.prog 117 = some 1 := by kernel_rfl
@[simp] theorem ag117 : aggT Tryz.prog 117 = some false := by kernel_rfl
@[simp] theorem un117 : unitT Tryz.prog 117 = some 1 := by kernel_rfl
theorem kd117 : kindT Tryz.prog 12 117 = some [.slice [.slice [.int .u8]]] := by kernel_rfl
@[simp] theorem sl117 : sliceT Tryz.prog 117 = some (38, 1, 24) := by kernel_rfl
@[simp] theorem ze117 : zeroT Tryz.prog 117 = some [.d .nil] := by kernel_rfl
@[simp] theorem sz118 : szOf Tryz.prog 118 = some 1 := by kernel_rfl
@[simp] theorem ag118 : aggT Tryz.prog 118 = some false := by kernel_rfl
@[simp] theorem un118 : unitT Tryz.prog 118 = some 1 := by kernel_rfl
@[simp] theorem sz119 : szOf Tryz.prog 119 = some 1 := by kernel_rfl
@[simp] theorem ag119 : aggT Tryz.prog 119 = some false := by kernel_rfl
@[simp] theorem un119 : unitT Tryz.prog 119 = some 1 := by kernel_rfl
@[simp] theorem ze119 : zeroT Tryz.prog 119 = some [.d (.s .nilFunc)] := by kernel_rfl
@[simp] theorem sz120 : szOf Tryz.prog 120 = some 1 := by kernel_rfl
@[simp] theorem ag120 : aggT Tryz.prog 120 = some false := by kernel_rfl
@[simp] theorem un120 : unitT Tryz.prog 120 = some 1 := by kernel_rfl
@[simp] theorem sz121 : szOf Tryz.prog 121 = some 1 := by kernel_rfl
@[simp] theorem ag121 : aggT Tryz.prog 121 = some false := by kernel_rfl
@[simp] theorem un121 : unitT Tryz.prog 121 = some 1 := by kernel_rfl
@[simp] theorem ze121 : zeroT Tryz.prog 121 = some [.d (.s .nilFunc)] := by kernel_rfl
@[simp] theorem sz122 : szOf Tryz.prog 122 = some 3 := by kernel_rfl
@[simp] theorem ag122 : aggT Tryz.prog 122 = some true := by kernel_rfl
@[simp] theorem un122 : unitT Tryz.prog 122 = some 3 := by kernel_rfl
theorem kd122 : kindT Tryz.prog 12 122 = some [.int .i64, .slice [.slice [.int .u8]], .int .i64] := by kernel_rfl
@[simp] theorem ze122 : zeroT Tryz.prog 122 = some [.d (.s (.int .i64 0)), .d .nil, .d (.s (.int .i64 0))] := by kernel_rfl
@[simp] theorem fi122_0 : fieldT Tryz.prog 122 0 = some (0, 1, false) := by kernel_rfl
@[simp] theorem fi122_1 : fieldT Tryz.prog 122 1 = some (1, 1, false) := by kernel_rfl
@[simp] theorem fi122_2 : fieldT Tryz.prog 122 2 = some (2, 1, false) := by kernel_rfl
@[simp] theorem pl122 : placesT Tryz.prog 122 = some [(0, 1), (1, 1), (2, 1)] := by kernel_rfl
@[simp] theorem sz123 : szOf Tryz.prog 123 = some 3 := by kernel_rfl
@[simp] theorem ag123 : aggT Tryz.prog 123 = some true := by kernel_rfl
@[simp] theorem un123 : unitT Tryz.prog 123 = some 3 := by kernel_rfl
theorem kd123 : kindT Tryz.prog 12 123 = some [.int .i64, .slice [.slice [.int .u8]], .int .i64] := by kernel_rfl
@[simp] theorem ze123 : zeroT Tryz.prog 123 = some [.d (.s (.int .i64 0)), .d .nil, .d (.s (.int .i64 0))] := by kernel_rfl
@[simp] theorem fi123_0 : fieldT Tryz.prog 123 0 = some (0, 1, false) := by kernel_rfl
@[simp] theorem fi123_1 : fieldT Tryz.prog 123 1 = some (1, 1, false) := by kernel_rfl
@[simp] theorem fi123_2 : fieldT Tryz.prog 123 2 = some (2, 1, false) := by kernel_rfl
@[simp] theorem pl123 : placesT Tryz.prog 123 = some [(0, 1), (1, 1), (2, 1)] := by kernel_rfl
@[simp] theorem sz124 : szOf Tryz.prog 124 = some 1 := by kernel_rfl
@[simp] theorem ag124 : aggT Tryz.prog 124 = some false := by kernel_rfl
@[simp] theorem un124 : unitT Tryz.prog 124 = some 1 := by kernel_rfl
@[simp] theorem ze124 : zeroT Tryz.prog 124 = some [.d (.s .nilFunc)] := by kernel_rfl
@[simp] theorem sz125 : szOf Tryz.prog 125 = some 1 := by kernel_rfl
@[simp] theorem ag125 : aggT Tryz.prog 125 = some false := by kernel_rfl
@[simp] theorem un125 : unitT Tryz.prog 125 = some 1 := by kernel_rfl
@[simp] theorem ze125 : zeroT Tryz.prog 125 = some [.d (.s .nilFunc)] := by kernel_rfl
@[simp] theorem sz126 : szOf Tryz.prog 126 = some 1 := by kernel_rfl
@[simp] theorem ag126 : aggT Tryz.prog 126 = some false := by kernel_rfl
@[simp] theorem un126 : unitT Tryz.prog 126 = some 1 := by kernel_rfl
@[simp] theorem ze126 : zeroT Tryz.prog 126 = some [.d (.s .nilFunc)] := by kernel_rfl
@[simp] theorem sz127 : szOf Tryz.prog 127 = some 1 := by kernel_rfl
@[simp] theorem ag127 : aggT Tryz.prog 127 = some false := by kernel_rfl
@[simp] theorem un127 : unitT Tryz.prog 127 = some 1 := by kernel_rfl
@[simp] theorem ze127 : zeroT Tryz.prog 127 = some [.d (.s .nilFunc)] := by kernel_rfl
@[simp] theorem sz128 : szOf Tryz.prog 128 = some 1 := by kernel_rfl
@[simp] theorem ag128 : aggT Tryz.prog 128 = some false := by kernel_rfl
@[simp] theorem un128 : unitT Tryz.prog 128 = some 1 := by kernel_rfl
@[simp] theorem ze128 : zeroT Tryz.prog 128 = some [.d (.s .nilFunc)] := by kernel_rfl
@[simp] theorem sz129 : szOf Tryz.prog 129 = some 2 := by kernel_rfl
@[simp] theorem ag129 : aggT Tryz.prog 129 = some true := by kernel_rfl
@[simp] theorem un129 : unitT Tryz.prog 129 = some 2 := by kernel_rfl
theorem kd129 : kindT Tryz.prog 12 129 = some [.int .i64, .slice [.int .u8]] := by kernel_rfl
@[simp] theorem ze129 : zeroT Tryz.prog 129 = some [.d (.s (.int .i64 0)), .d .nil] := by kernel_rfl
@[simp] theorem fi129_0 : fieldT Tryz.prog 129 0 = some (0, 1, false) := by kernel_rfl
@[simp] theorem fi129_1 : fieldT Tryz.prog 129 1 = some (1, 1, false) := by kernel_rfl
@[simp] theorem pl129 : placesT Tryz.prog 129 = some [(0, 1), (1, 1)] := by kernel_rfl
@[simp] theorem sz130 : szOf Tryz.prog 130 = some 2 := by kernel_rfl
@[simp] theorem ag130 : aggT Tryz.prog 130 = some true := by kernel_rfl
@[simp] theorem un130 : unitT Tryz.prog 130 = some 2 := by kernel_rfl
theorem kd130 : kindT Tryz.prog 12 130 = some [.int .i64, .slice [.int .u8]] := by kernel_rfl
@[simp] theorem ze130 : zeroT Tryz.prog 130 = some [.d (.s (.int .i64 0)), .d .nil] := by kernel_rfl
@[simp] theorem fi130_0 : fieldT Tryz.prog 130 0 = some (0, 1, false) := by kernel_rfl
@[simp] theorem fi130_1 : fieldT Tryz.prog 130 1 = some (1, 1, false) := by kernel_rfl
@[simp] theorem pl130 : placesT Tryz.prog 130 = some [(0, 1), (1, 1)] := by kernel_rfl
@[simp] theorem sz131 : szOf Tryz.prog 131 = some 1 := by kernel_rfl
@[simp] theorem ag131 : aggT Tryz.prog 131 = some false := by kernel_rfl
@[simp] theorem un131 : unitT Tryz.prog 131 = some 1 := by kernel_rfl
@[simp] theorem ze131 : zeroT Tryz.prog 131 = some [.d (.s .nilFunc)] := by kernel_rfl
@[simp] theorem sz132 : szOf Tryz.prog 132 = some 1 := by kernel_rfl
@[simp] theorem ag132 : aggT Tryz.prog 132 = some false := by kernel_rfl
@[simp] theorem un132 : unitT Tryz.prog 132 = some 1 := by kernel_rfl
@[simp] theorem ze132 : zeroT Tryz.prog 132 = some [.d (.s .nilFunc)] := by kernel_rfl
@[simp] theorem sz133 : szOf Tryz.prog 133 = some 1 := by kernel_rfl
@[simp] theorem ag133 : aggT Tryz.prog 133 = some false := by kernel_rfl
@[simp] theorem un133 : unitT Tryz.prog 133 = some 1 := by kernel_rfl
@[simp] theorem ze133 : zeroT Tryz.prog 133 = some [.d (.s .nilFunc)] := by kernel_rfl
@[simp] theorem sz134 : szOf Tryz.prog 134 = some 1 := by kernel_rfl
@[simp] theorem ag134 : aggT Tryz.prog 134 = some false := by kernel_rfl
@[simp] theorem un134 : unitT Tryz.prog 134 = some 1 := by kernel_rfl
@[simp] theorem ze134 : zeroT Tryz.prog 134 = some [.d (.s .nilFunc)] := by kernel_rfl
@[simp] theorem sz135 : szOf Tryz.prog 135 = some 1 := by kernel_rfl
@[simp] theorem ag135 : aggT Tryz.prog 135 = some false := by kernel_rfl
@[simp] theorem un135 : unitT Tryz.prog 135 = some 1 := by kernel_rfl
@[simp] theorem ze135 : zeroT Tryz.prog 135 = some [.d (.s .nilFunc)] := by kernel_rfl
@[simp] theorem sz136 : szOf Tryz.prog 136 = some 1 := by kernel_rfl
@[simp] theorem ag136 : aggT Tryz.prog 136 = some false := by kernel_rfl
@[simp] theorem un136 : unitT Tryz.prog 136 = some 1 := by kernel_rfl
@[simp] theorem ze136 : zeroT Tryz.prog 136 = some [.d (.s .nilFunc)] := by kernel_rfl
@[simp] theorem sz137 : szOf Tryz.prog 137 = some 1 := by kernel_rfl
@[simp] theorem ag137 : aggT Tryz.prog 137 = some false := by kernel_rfl
@[simp] theorem un137 : unitT Tryz.prog 137 = some 1 := by kernel_rfl
@[simp] theorem ze137 : zeroT Tryz.prog 137 = some [.d (.s .nilFunc)] := by kernel_rfl
@[simp] theorem sz138 : szOf Tryz.prog 138 = some 1 := by kernel_rfl
@[simp] theorem ag138 : aggT Tryz.prog 138 = some false := by kernel_rfl
@[simp] theorem un138 : unitT Tryz.prog 138 = some 1 := by kernel_rfl
@[simp] theorem ze138 : zeroT Tryz.prog 138 = some [.d (.s .nilFunc)] := by kernel_rfl
@[simp] theorem sz139 : szOf Tryz.prog 139 = some 1 := by kernel_rfl
@[simp] theorem ag139 : aggT Tryz.prog 139 = some false := by kernel_rfl
@[simp] theorem un139 : unitT Tryz.prog 139 = some 1 := by kernel_rfl
@[simp] theorem ze139 : zeroT Tryz.prog 139 = some [.d (.s .nilFunc)] := by kernel_rfl
@[simp] theorem sz140 : szOf Tryz.prog 140 = some 1 := by kernel_rfl
@[simp] theorem ag140 : aggT Tryz.prog 140 = some false := by kernel_rfl
@[simp] theorem un140 : unitT Tryz.prog 140 = some 1 := by kernel_rfl
@[simp] theorem ze140 : zeroT Tryz.prog 140 = some [.d (.s .nilIface)] := by kernel_rfl
@[simp] theorem sz141 : szOf Tryz.prog 141 = some 1 := by kernel_rfl
@[simp] theorem ag141 : aggT Tryz.prog 141 = some false := by kernel_rfl
@[simp] theorem un141 : unitT Tryz.prog 141 = some 1 := by kernel_rfl
@[simp] theorem ze141 : zeroT Tryz.prog 141 = some [.d (.s .nilIface)] := by kernel_rfl
@[simp] theorem sz142 : szOf Tryz.prog 142 = some 1 := by kernel_rfl
@[simp] theorem ag142 : aggT Tryz.prog 142 = some false := by kernel_rfl
@[simp] theorem un142 : unitT Tryz.prog 142 = some 1 := by kernel_rfl
@[simp] theorem ze142 : zeroT Tryz.prog 142 = some [.d (.s .nilFunc)] := by kernel_rfl
@[simp] theorem sz143 : szOf Tryz.prog 143 = some 1 := by kernel_rfl
@[simp] theorem ag143 : aggT Tryz.prog 143 = some false := by kernel_rfl
@[simp] theorem un143 : unitT Tryz.prog 143 = some 1 := by kernel_rfl
@[simp] theorem ze143 : zeroT Tryz.prog 143 = some [.d (.s .nilFunc)] := by kernel_rfl
@[simp] theorem sz144 : szOf Tryz.prog 144 = some 1 := by kernel_rfl
@[simp] theorem ag144 : aggT Tryz.prog 144 = some false := by kernel_rfl
@[simp] theorem un144 : unitT Tryz.prog 144 = some 1 := by kernel_rfl
@[simp] theorem ze144 : zeroT Tryz.prog 144 = some [.d (.s .nilFunc)] := by kernel_rfl
@[simp] theorem sz145 : szOf Tryz.prog 145 = some 1 := by kernel_rfl
@[simp] theorem ag145 : aggT Tryz.prog 145 = some false := by kernel_rfl
@[simp] theorem un145 : unitT Tryz.prog 145 = some 1 := by kernel_rfl
@[simp] theorem ze145 : zeroT Tryz.prog 145 = some [.d (.s .nilFunc)] := by kernel_rfl
@[simp] theorem sz146 : szOf Tryz.prog 146 = some 1 := by kernel_rfl
@[simp] theorem ag146 : aggT Tryz.prog 146 = some false := by kernel_rfl
@[simp] theorem un146 : unitT Tryz.prog 146 = some 1 := by kernel_rfl
@[simp] theorem ze146 : zeroT Tryz.prog 146 = some [.d (.s .nilFunc)] := by kernel_rfl
@[simp] theorem sz147 : szOf Tryz.prog 147 = some 1 := by kernel_rfl
@[simp] theorem ag147 : aggT Tryz.prog 147 = some false := by kernel_rfl
@[simp] theorem un147 : unitT Tryz.prog 147 = some 1 := by kernel_rfl
@[simp] theorem ze147 : zeroT Tryz.prog 147 = some [.d (.s .nilFunc)] := by kernel_rfl
@[simp] theorem sz148 : szOf Tryz.prog 148 = some 1 := by kernel_rfl
@[simp] theorem ag148 : aggT Tryz.prog 148 = some false := by kernel_rfl
@[simp] theorem un148 : unitT Tryz.prog 148 = some 1 := by kernel_rfl
@[simp] theorem ze148 : zeroT Tryz.prog 148 = some [.d (.s .nilFunc)] := by kernel_rfl
@[simp] theorem sz149 : szOf Tryz.prog 149 = some 1 := by kernel_rfl
@[simp] theorem ag149 : aggT Tryz.prog 149 = some false := by kernel_rfl
@[simp] theorem un149 : unitT Tryz.prog 149 = some 1 := by kernel_rfl
@[simp] theorem ze149 : zeroT Tryz.prog 149 = some [.d (.s .nilFunc)] := by kernel_rfl
@[simp] theorem sz150 : szOf Tryz.prog 150 = some 1 := by kernel_rfl
@[simp] theorem ag150 : aggT Tryz.prog 150 = some false := by kernel_rfl
@[simp] theorem un150 : unitT Tryz.prog 150 = some 1 := by kernel_rfl
@[simp] theorem ze150 : zeroT Tryz.prog 150 = some [.d (.s .nilFunc)] := by kernel_rfl
@[simp] theorem sz151 : szOf Tryz.prog 151 = some 1 := by kernel_rfl
@[simp] theorem ag151 : aggT Tryz.prog 151 = some false := by kernel_rfl
@[simp] theorem un151 : unitT Tryz.prog 151 = some 1 := by kernel_rfl
@[simp] theorem ze151 : zeroT Tryz.prog 151 = some [.d (.s .nilFunc)] := by kernel_rfl
@[simp] theorem sz152 : szOf Tryz.prog 152 = some 1 := by kernel_rfl
@[simp] theorem ag152 : aggT Tryz.prog 152 = some false := by kernel_rfl
@[simp] theorem un152 : unitT Tryz.prog 152 = some 1 := by kernel_rfl
@[simp] theorem sz153 : szOf Tryz.prog 153 = some 1 := by kernel_rfl
@[simp] theorem ag153 : aggT Tryz.prog 153 = some false := by kernel_rfl
@[simp] theorem un153 : unitT Tryz.prog 153 = some 1 := by kernel_rfl
@[simp] theorem ze153 : zeroT Tryz.prog 153 = some [.d (.s .nilFunc)] := by kernel_rfl
@[simp] theorem sz154 : szOf Tryz.prog 154 = some 11 := by kernel_rfl
@[simp] theorem ag154 : aggT Tryz.prog 154 = some true := by kernel_rfl
@[simp] theorem un154 : unitT Tryz.prog 154 = some 11 := by kernel_rfl
theorem kd154 : kindT Tryz.prog 12 154 = some [.int .i64, .int .i64, .int .i64, .int .i64, .int .i64, .int .i64, .int .i64, .int .i64, .int .i64, .int .i64, .int .i64] := by kernel_rfl
theorem eqk154 : eqT Tryz.prog 8 154 = some (true, [.int .i64, .int .i64, .int .i64, .int .i64, .int .i64, .int .i64, .int .i64, .int .i64, .int .i64, .int .i64, .int .i64]) := by kernel_rfl
theorem eqg154 : (Tryz.prog).eqGuardType (Tryz.prog).depth 154 = false := by kernel_rfl
@[simp] theorem neqA154 (a0 b0 : Int) (a1 b1 : Int) (a2 b2 : Int) (a3 b3 : Int) (a4 b4 : Int) (a5 b5 : Int) (a6 b6 : Int) (a7 b7 : Int) (a8 b8 : Int) (a9 b9 : Int) (a10 b10 : Int) (K : Value → Prop) : aggBin Tryz.prog .neq 154 [.d (.s (.int .i64 a0)), .d (.s (.int .i64 a1)), .d (.s (.int .i64 a2)), .d (.s (.int .i64 a3)), .d (.s (.int .i64 a4)), .d (.s (.int .i64 a5)), .d (.s (.int .i64 a6)), .d (.s (.int .i64 a7)), .d (.s (.int .i64 a8)), .d (.s (.int .i64 a9)), .d (.s (.int .i64 a10))] [.d (.s (.int .i64 b0)), .d (.s (.int .i64 b1)), .d (.s (.int .i64 b2)), .d (.s (.int .i64 b3)), .d (.s (.int .i64 b4)), .d (.s (.int .i64 b5)), .d (.s (.int .i64 b6)), .d (.s (.int .i64 b7)), .d (.s (.int .i64 b8)), .d (.s (.int .i64 b9)), .d (.s (.int .i64 b10))] K = K (.bool (!(eqVs [.int .i64 a0, .int .i64 a1, .int .i64 a2, .int .i64 a3, .int .i64 a4, .int .i64 a5, .int .i64 a6, .int .i64 a7, .int .i64 a8, .int .i64 a9, .int .i64 a10] [.int .i64 b0, .int .i64 b1, .int .i64 b2, .int .i64 b3, .int .i64 b4, .int .i64 b5, .int .i64 b6, .int .i64 b7, .int .i64 b8, .int .i64 b9, .int .i64 b10]))) := agg_neq (xs := [.int .i64 a0, .int .i64 a1, .int .i64 a2, .int .i64 a3, .int .i64 a4, .int .i64 a5, .int .i64 a6, .int .i64 a7, .int .i64 a8, .int .i64 a9, .int .i64 a10]) (ys := [.int .i64 b0, .int .i64 b1, .int .i64 b2, .int .i64 b3, .int .i64 b4, .int .i64 b5, .int .i64 b6, .int .i64 b7, .int .i64 b8, .int .i64 b9, .int .i64 b10]) eqk154 (by decide) eqg154 rfl rfl K
@[simp] theorem eqlA154 (a0 b0 : Int) (a1 b1 : Int) (a2 b2 : Int) (a3 b3 : Int) (a4 b4 : Int) (a5 b5 : Int) (a6 b6 : Int) (a7 b7 : Int) (a8 b8 : Int) (a9 b9 : Int) (a10 b10 : Int) (K : Value → Prop) : aggBin Tryz.prog .eql 154 [.d (.s (.int .i64 a0)), .d (.s (.int .i64 a1)), .d (.s (.int .i64 a2)), .d (.s (.int .i64 a3)), .d (.s (.int .i64 a4)), .d (.s (.int .i64 a5)), .d (.s (.int .i64 a6)), .d (.s (.int .i64 a7)), .d (.s (.int .i64 a8)), .d (.s (.int .i64 a9)), .d (.s (.int .i64 a10))] [.d (.s (.int .i64 b0)), .d (.s (.int .i64 b1)), .d (.s (.int .i64 b2)), .d (.s (.int .i64 b3)), .d (.s (.int .i64 b4)), .d (.s (.int .i64 b5)), .d (.s (.int .i64 b6)), .d (.s (.int .i64 b7)), .d (.s (.int .i64 b8)), .d (.s (.int .i64 b9)), .d (.s (.int .i64 b10))] K = K (.bool ((eqVs [.int .i64 a0, .int .i64 a1, .int .i64 a2, .int .i64 a3, .int .i64 a4, .int .i64 a5, .int .i64 a6, .int .i64 a7, .int .i64 a8, .int .i64 a9, .int .i64 a10] [.int .i64 b0, .int .i64 b1, .int .i64 b2, .int .i64 b3, .int .i64 b4, .int .i64 b5, .int .i64 b6, .int .i64 b7, .int .i64 b8, .int .i64 b9, .int .i64 b10]))) := agg_eql (xs := [.int .i64 a0, .int .i64 a1, .int .i64 a2, .int .i64 a3, .int .i64 a4, .int .i64 a5, .int .i64 a6, .int .i64 a7, .int .i64 a8, .int .i64 a9, .int .i64 a10]) (ys := [.int .i64 b0, .int .i64 b1, .int .i64 b2, .int .i64 b3, .int .i64 b4, .int .i64 b5, .int .i64 b6, .int .i64 b7, .int .i64 b8, .int .i64 b9, .int .i64 b10]) eqk154 (by decide) eqg154 rfl rfl K
@[simp] theorem ze154 : zeroT Tryz.prog 154 = some [.d (.s (.int .i64 0)), .d (.s (.int .i64 0)), .d (.s (.int .i64 0)), .d (.s (.int .i64 0)), .d (.s (.int .i64 0)), .d (.s (.int .i64 0)), .d (.s (.int .i64 0)), .d (.s (.int .i64 0)), .d (.s (.int .i64 0)), .d (.s (.int .i64 0)), .d (.s (.int .i64 0))] := by kernel_rfl
@[simp] theorem fi154_0 : fieldT Tryz.prog 154 0 = some (0, 1, false) := by kernel_rfl
@[simp] theorem fi154_1 : fieldT Tryz.prog 154 1 = some (1, 10, true) := by kernel_rfl
@[simp] theorem pl154 : placesT Tryz.prog 154 = some [(0, 1), (1, 10)] := by kernel_rfl
@[simp] theorem sz155 : szOf Tryz.prog 155 = some 11 := by kernel_rfl
@[simp] theorem ag155 : aggT Tryz.prog 155 = some true := by kernel_rfl
@[simp] theorem un155 : unitT Tryz.prog 155 = some 11 := by kernel_rfl
theorem kd155 : kindT Tryz.prog 12 155 = some [.int .i64, .int .i64, .int .i64, .int .i64, .int .i64, .int .i64, .int .i64, .int .i64, .int .i64, .int .i64, .int .i64] := by kernel_rfl
theorem eqk155 : eqT Tryz.prog 8 155 = some (true, [.int .i64, .int .i64, .int .i64, .int .i64, .int .i64, .int .i64, .int .i64, .int .i64, .int .i64, .int .i64, .int .i64]) := by kernel_rfl
theorem eqg155 : (Tryz.prog).eqGuardType (Tryz.prog).depth 155 = false := by kernel_rfl
@[simp] theorem neqA155 (a0 b0 : Int) (a1 b1 : Int) (a2 b2 : Int) (a3 b3 : Int) (a4 b4 : Int) (a5 b5 : Int) (a6 b6 : Int) (a7 b7 : Int) (a8 b8 : Int) (a9 b9 : Int) (a10 b10 : Int) (K : Value → Prop) : aggBin Tryz.prog .neq 155 [.d (.s (.int .i64 a0)), .d (.s (.int .i64 a1)), .d (.s (.int .i64 a2)), .d (.s (.int .i64 a3)), .d (.s (.int .i64 a4)), .d (.s (.int .i64 a5)), .d (.s (.int .i64 a6)), .d (.s (.int .i64 a7)), .d (.s (.int .i64 a8)), .d (.s (.int .i64 a9)), .d (.s (.int .i64 a10))] [.d (.s (.int .i64 b0)), .d (.s (.int .i64 b1)), .d (.s (.int .i64 b2)), .d (.s (.int .i64 b3)), .d (.s (.int .i64 b4)), .d (.s (.int .i64 b5)), .d (.s (.int .i64 b6)), .d (.s (.int .i64 b7)), .d (.s (.int .i64 b8)), .d (.s (.int .i64 b9)), .d (.s (.int .i64 b10))] K = K (.bool (!(eqVs [.int .i64 a0, .int .i64 a1, .int .i64 a2, .int .i64 a3, .int .i64 a4, .int .i64 a5, .int .i64 a6, .int .i64 a7, .int .i64 a8, .int .i64 a9, .int .i64 a10] [.int .i64 b0, .int .i64 b1, .int .i64 b2, .int .i64 b3, .int .i64 b4, .int .i64 b5, .int .i64 b6, .int .i64 b7, .int .i64 b8, .int .i64 b9, .int .i64 b10]))) := agg_neq (xs := [.int .i64 a0, .int .i64 a1, .int .i64 a2, .int .i64 a3, .int .i64 a4, .int .i64 a5, .int .i64 a6, .int .i64 a7, .int .i64 a8, .int .i64 a9, .int .i64 a10]) (ys := [.int .i64 b0, .int .i64 b1, .int .i64 b2, .int .i64 b3, .int .i64 b4, .int .i64 b5, .int .i64 b6, .int .i64 b7, .int .i64 b8, .int .i64 b9, .int .i64 b10]) eqk155 (by decide) eqg155 rfl rfl K
@[simp] theorem eqlA155 (a0 b0 : Int) (a1 b1 : Int) (a2 b2 : Int) (a3 b3 : Int) (a4 b4 : Int) (a5 b5 : Int) (a6 b6 : Int) (a7 b7 : Int) (a8 b8 : Int) (a9 b9 : Int) (a10 b10 : Int) (K : Value → Prop) : aggBin Tryz.prog .eql 155 [.d (.s (.int .i64 a0)), .d (.s (.int .i64 a1)), .d (.s (.int .i64 a2)), .d (.s (.int .i64 a3)), .d (.s (.int .i64 a4)), .d (.s (.int .i64 a5)), .d (.s (.int .i64 a6)), .d (.s (.int .i64 a7)), .d (.s (.int .i64 a8)), .d (.s (.int .i64 a9)), .d (.s (.int .i64 a10))] [.d (.s (.int .i64 b0)), .d (.s (.int .i64 b1)), .d (.s (.int .i64 b2)), .d (.s (.int .i64 b3)), .d (.s (.int .i64 b4)), .d (.s (.int .i64 b5)), .d (.s (.int .i64 b6)), .d (.s (.int .i64 b7)), .d (.s (.int .i64 b8)), .d (.s (.int .i64 b9)), .d (.s (.int .i64 b10))] K = K (.bool ((eqVs [.int .i64 a0, .int .i64 a1, .int .i64 a2, .int .i64 a3, .int .i64 a4, .int .i64 a5, .int .i64 a6, .int .i64 a7, .int .i64 a8, .int .i64 a9, .int .i64 a10] [.int .i64 b0, .int .i64 b1, .int .i64 b2, .int .i64 b3, .int .i64 b4, .int .i64 b5, .int .i64 b6, .int .i64 b7, .int .i64 b8, .int .i64 b9, .int .i64 b10]))) := agg_eql (xs := [.int .i64 a0, .int .i64 a1, .int .i64 a2, .int .i64 a3, .int .i64 a4, .int .i64 a5, .int .i64 a6, .int .i64 a7, .int .i64 a8, .int .i64 a9, .int .i64 a10]) (ys := [.int .i64 b0, .int .i64 b1, .int .i64 b2, .int .i64 b3, .int .i64 b4, .int .i64 b5, .int .i64 b6, .int .i64 b7, .int .i64 b8, .int .i64 b9, .int .i64 b10]) eqk155 (by decide) eqg155 rfl rfl K
@[simp] theorem ze155 : zeroT Tryz.prog 155 = some [.d (.s (.int .i64 0)), .d (.s (.int .i64 0)), .d (.s (.int .i64 0)), .d (.s (.int .i64 0)), .d (.s (.int .i64 0)), .d (.s (.int .i64 0)), .d (.s (.int .i64 0)), .d (.s (.int .i64 0)), .d (.s (.int .i64 0)), .d (.s (.int .i64 0)), .d (.s (.int .i64 0))] := by kernel_rfl
@[simp] theorem fi155_0 : fieldT Tryz.prog 155 0 = some (0, 1, false) := by kernel_rfl
@[simp] theorem fi155_1 : fieldT Tryz.prog 155 1 = some (1, 10, true) := by kernel_rfl
@[simp] theorem pl155 : placesT Tryz.prog 155 = some [(0, 1), (1, 10)] := by kernel_rfl
@[simp] theorem sz156 : szOf Tryz.prog 156 = some 1 := by kernel_rfl
@[simp] theorem ag156 : aggT Tryz.prog 156 = some false := by kernel_rfl
@[simp] theorem un156 : unitT Tryz.prog 156 = some 1 := by kernel_rfl
@[simp] theorem ze156 : zeroT Tryz.prog 156 = some [.d (.s .nilFunc)] := by kernel_rfl
@[simp] theorem sz157 : szOf Tryz.prog 157 = some 1 := by kernel_rfl
@[simp] theorem ag157 : aggT Tryz.prog 157 = some false := by kernel_rfl
@[simp] theorem un157 : unitT Tryz.prog 157 = some 1 := by kernel_rfl
@[simp] theorem ze157 : zeroT Tryz.prog 157 = some [.d (.s .nilFunc)] := by kernel_rfl
@[simp] theorem sz158 : szOf Tryz.prog 158 = some 3 := by kernel_rfl
@[simp] theorem ag158 : aggT Tryz.prog 158 = some true := by kernel_rfl
@[simp] theorem un158 : unitT Tryz.prog 158 = some 3 := by kernel_rfl
theorem kd158 : kindT Tryz.prog 12 158 = some [.int .i64, .int .i64, .int .i64] := by kernel_rfl
theorem eqk158 : eqT Tryz.prog 8 158 = some (true, [.int .i64, .int .i64, .int .i64]) := by kernel_rfl
theorem eqg158 : (Tryz.prog).eqGuardType (Tryz.prog).depth 158 = false := by kernel_rfl
@[simp] theorem neqA158 (a0 b0 : Int) (a1 b1 : Int) (a2 b2 : Int) (K : Value → Prop) : aggBin Tryz.prog .neq 158 [.d (.s (.int .i64 a0)), .d (.s (.int .i64 a1)), .d (.s (.int .i64 a2))] [.d (.s (.int .i64 b0)), .d (.s (.int .i64 b1)), .d (.s (.int .i64 b2))] K = K (.bool (!(eqVs [.int .i64 a0, .int .i64 a1, .int .i64 a2] [.int .i64 b0, .int .i64 b1, .int .i64 b2]))) := agg_neq (xs := [.int .i64 a0, .int .i64 a1, .int .i64 a2]) (ys := [.int .i64 b0, .int .i64 b1, .int .i64 b2]) eqk158 (by decide) eqg158 rfl rfl K
@[simp] theorem eqlA158 (a0 b0 : Int) (a1 b1 : Int) (a2 b2 : Int) (K : Value → Prop) : aggBin Tryz.prog .eql 158 [.d (.s (.int .i64 a0)), .d (.s (.int .i64 a1)), .d (.s (.int .i64 a2))] [.d (.s (.int .i64 b0)), .d (.s (.int .i64 b1)), .d (.s (.int .i64 b2))] K = K (.bool ((eqVs [.int .i64 a0, .int .i64 a1, .int .i64 a2] [.int .i64 b0, .int .i64 b1, .int .i64 b2]))) := agg_eql (xs := [.int .i64 a0, .int .i64 a1, .int .i64 a2]) (ys := [.int .i64 b0, .int .i64 b1, .int .i64 b2]) eqk158 (by decide) eqg158 rfl rfl K
@[simp] theorem ze158 : zeroT Tryz.prog 158 = some [.d (.s (.int .i64 0)), .d (.s (.int .i64 0)), .d (.s (.int .i64 0))] := by kernel_rfl
@[simp] theorem fi158_0 : fieldT Tryz.prog 158 0 = some (0, 1, false) := by kernel_rfl
@[simp] theorem fi158_1 : fieldT Tryz.prog 158 1 = some (1, 1, false) := by kernel_rfl
@[simp] theorem fi158_2 : fieldT Tryz.prog 158 2 = some (2, 1, false) := by kernel_rfl
@[simp] theorem pl158 : placesT Tryz.prog 158 = some [(0, 1), (1, 1), (2, 1)] := by kernel_rfl
@[simp] theorem sz159 : szOf Tryz.prog 159 = some 3 := by kernel_rfl
@[simp] theorem ag159 : aggT Tryz.prog 159 = some true := by kernel_rfl
@[simp] theorem un159 : unitT Tryz.prog 159 = some 3 := by kernel_rfl
theorem kd159 : kindT Tryz.prog 12 159 = some [.int .i64, .int .i64, .int .i64] := by kernel_rfl
theorem eqk159 : eqT Tryz.prog 8 159 = some (true, [.int .i64, .int .i64, .int .i64]) := by kernel_rfl
theorem eqg159 : (Tryz.prog).eqGuardType (Tryz.prog).depth 159 = false := by kernel_rfl
@[simp] theorem neqA159 (a0 b0 : Int) (a1 b1 : Int) (a2 b2 : Int) (K : Value → Prop) : aggBin Tryz.prog .neq 159 [.d (.s (.int .i64 a0)), .d (.s (.int .i64 a1)), .d (.s (.int .i64 a2))] [.d (.s (.int .i64 b0)), .d (.s (.int .i64 b1)), .d (.s (.int .i64 b2))] K = K (.bool (!(eqVs [.int .i64 a0, .int .i64 a1, .int .i64 a2] [.int .i64 b0, .int .i64 b1, .int .i64 b2]))) := agg_neq (xs := [.int .i64 a0, .int .i64 a1, .int .i64 a2]) (ys := [.int .i64 b0, .int .i64 b1, .int .i64 b2]) eqk159 (by decide) eqg159 rfl rfl K
@[simp] theorem eqlA159 (a0 b0 : Int) (a1 b1 : Int) (a2 b2 : Int) (K : Value → Prop) : aggBin Tryz.prog .eql 159 [.d (.s (.int .i64 a0)), .d (.s (.int .i64 a1)), .d (.s (.int .i64 a2))] [.d (.s (.int .i64 b0)), .d (.s (.int .i64 b1)), .d (.s (.int .i64 b2))] K = K (.bool ((eqVs [.int .i64 a0, .int .i64 a1, .int .i64 a2] [.int .i64 b0, .int .i64 b1, .int .i64 b2]))) := agg_eql (xs := [.int .i64 a0, .int .i64 a1, .int .i64 a2]) (ys := [.int .i64 b0, .int .i64 b1, .int .i64 b2]) eqk159 (by decide) eqg159 rfl rfl K
@[simp] theorem ze159 : zeroT Tryz.prog 159 = some [.d (.s (.int .i64 0)), .d (.s (.int .i64 0)), .d (.s (.int .i64 0))] := by kernel_rfl
@[simp] theorem fi159_0 : fieldT Tryz.prog 159 0 = some (0, 1, false) := by kernel_rfl
@[simp] theorem fi159_1 : fieldT Tryz.prog 159 1 = some (1, 1, false) := by kernel_rfl
@[simp] theorem fi159_2 : fieldT Tryz.prog 159 2 = some (2, 1, false) := by kernel_rfl
@[simp] theorem pl159 : placesT Tryz.prog 159 = some [(0, 1), (1, 1), (2, 1)] := by kernel_rfl
@[simp] theorem sz160 : szOf Tryz.prog 160 = some 1 := by kernel_rfl
@[simp] theorem ag160 : aggT Tryz.prog 160 = some false := by kernel_rfl
@[simp] theorem un160 : unitT Tryz.prog 160 = some 1 := by kernel_rfl
@[simp] theorem ze160 : zeroT Tryz.prog 160 = some [.d (.s .nilFunc)] := by kernel_rfl
@[simp] theorem sz161 : szOf Tryz.prog 161 = some 2 := by kernel_rfl
@[simp] theorem ag161 : aggT Tryz.prog 161 = some true := by kernel_rfl
@[simp] theorem un161 : unitT Tryz.prog 161 = some 2 := by kernel_rfl
theorem kd161 : kindT Tryz.prog 12 161 = some [.int .i64, .int .i64] := by kernel_rfl
theorem eqk161 : eqT Tryz.prog 8 161 = some (true, [.int .i64, .int .i64]) := by kernel_rfl
theorem eqg161 : (Tryz.prog).eqGuardType (Tryz.prog).depth 161 = false := by kernel_rfl
@[simp] theorem neqA161 (a0 b0 : Int) (a1 b1 : Int) (K : Value → Prop) : aggBin Tryz.prog .neq 161 [.d (.s (.int .i64 a0)), .d (.s (.int .i64 a1))] [.d (.s (.int .i64 b0)), .d (.s (.int .i64 b1))] K = K (.bool (!(eqVs [.int .i64 a0, .int .i64 a1] [.int .i64 b0, .int .i64 b1]))) := agg_neq (xs := [.int .i64 a0, .int .i64 a1]) (ys := [.int .i64 b0, .int .i64 b1]) eqk161 (by decide) eqg161 rfl rfl K
@[simp] theorem eqlA161 (a0 b0 : Int) (a1 b1 : Int) (K : Value → Prop) : aggBin Tryz.prog .eql 161 [.d (.s (.int .i64 a0)), .d (.s (.int .i64 a1))] [.d (.s (.int .i64 b0)), .d (.s (.int .i64 b1))] K = K (.bool ((eqVs [.int .i64 a0, .int .i64 a1] [.int .i64 b0, .int .i64 b1]))) := agg_eql (xs := [.int .i64 a0, .int .i64 a1]) (ys := [.int .i64 b0, .int .i64 b1]) eqk161 (by decide) eqg161 rfl rfl K
@[simp] theorem ze161 : zeroT Tryz.prog 161 = some [.d (.s (.int .i64 0)), .d (.s (.int .i64 0))] := by kernel_rfl
@[simp] theorem fi161_0 : fieldT Tryz.prog 161 0 = some (0, 1, false) := by kernel_rfl
@[simp] theorem fi161_1 : fieldT Tryz.prog 161 1 = some (1, 1, false) := by kernel_rfl
@[simp] theorem pl161 : placesT Tryz.prog 161 = some [(0, 1), (1, 1)] := by kernel_rfl
@[simp] theorem sz162 : szOf Tryz.prog 162 = some 2 := by kernel_rfl
@[simp] theorem ag162 : aggT Tryz.prog 162 = some true := by kernel_rfl
@[simp] theorem un162 : unitT Tryz.prog 162 = some 2 := by kernel_rfl
theorem kd162 : kindT Tryz.prog 12 162 = some [.int .i64, .int .i64] := by kernel_rfl
theorem eqk162 : eqT Tryz.prog 8 162 = some (true, [.int .i64, .int .i64]) := by kernel_rfl
theorem eqg162 : (Tryz.prog).eqGuardType (Tryz.prog).depth 162 = false := by kernel_rfl
@[simp] theorem neqA162 (a0 b0 : Int) (a1 b1 : Int) (K : Value → Prop) : aggBin Tryz.prog .neq 162 [.d (.s (.int .i64 a0)), .d (.s (.int .i64 a1))] [.d (.s (.int .i64 b0)), .d (.s (.int .i64 b1))] K = K (.bool (!(eqVs [.int .i64 a0, .int .i64 a1] [.int .i64 b0, .int .i64 b1]))) := agg_neq (xs := [.int .i64 a0, .int .i64 a1]) (ys := [.int .i64 b0, .int .i64 b1]) eqk162 (by decide) eqg162 rfl rfl K
@[simp] theorem eqlA162 (a0 b0 : Int) (a1 b1 : Int) (K : Value → Prop) : aggBin Tryz.prog .eql 162 [.d (.s (.int .i64 a0)), .d (.s (.int .i64 a1))] [.d (.s (.int .i64 b0)), .d (.s (.int .i64 b1))] K = K (.bool ((eqVs [.int .i64 a0, .int .i64 a1] [.int .i64 b0, .int .i64 b1]))) := agg_eql (xs := [.int .i64 a0, .int .i64 a1]) (ys := [.int .i64 b0, .int .i64 b1]) eqk162 (by decide) eqg162 rfl rfl K
@[simp] theorem ze162 : zeroT Tryz.prog 162 = some [.d (.s (.int .i64 0)), .d (.s (.int .i64 0))] := by kernel_rfl
@[simp] theorem fi162_0 : fieldT Tryz.prog 162 0 = some (0, 1, false) := by kernel_rfl
@[simp] theorem fi162_1 : fieldT Tryz.prog 162 1 = some (1, 1, false) := by kernel_rfl
@[simp] theorem pl162 : placesT Tryz.prog 162 = some [(0, 1), (1, 1)] := by kernel_rfl
@[simp] theorem sz163 : szOf Tryz.prog 163 = some 1 := by kernel_rfl
@[simp] theorem ag163 : aggT Tryz.prog 163 = some false := by kernel_rfl
@[simp] theorem un163 : unitT Tryz.prog 163 = some 1 := by kernel_rfl
@[simp] theorem ze163 : zeroT Tryz.prog 163 = some [.d (.s .nilFunc)] := by kernel_rfl
@[simp] theorem sz164 : szOf Tryz.prog 164 = some 9 := by kernel_rfl
@[simp] theorem ag164 : aggT Tryz.prog 164 = some true := by kernel_rfl
@[simp] theorem un164 : unitT Tryz.prog 164 = some 1 := by kernel_rfl
@[simp] theorem pl164 : placesT Tryz.prog 164 = some [(0, 1), (1, 1), (2, 1), (3, 1), (4, 1), (5, 1), (6, 1), (7, 1), (8, 1)] := by kernel_rfl
@[simp] theorem ar164 : arrT Tryz.prog 164 = some (9, 2, 1) := by kernel_rfl
@[simp] theorem sl164 : sliceT Tryz.prog 164 = none := by kernel_rfl
theorem kd164 : kindT Tryz.prog 12 164 = some [.int .i64, .int .i64, .int .i64, .int .i64, .int .i64, .int .i64, .int .i64, .int .i64, .int .i64] := by kernel_rfl
@[simp] theorem ze164 : zeroT Tryz.prog 164 = some [.d (.s (.int .i64 0)), .d (.s (.int .i64 0)), .d (.s (.int .i64 0)), .d (.s (.int .i64 0)), .d (.s (.int .i64 0)), .d (.s (.int .i64 0)), .d (.s (.int .i64 0)), .d (.s (.int .i64 0)), .d (.s (.int .i64 0))] := by kernel_rfl
@[simp] theorem sz165 : szOf Tryz.prog 165 = some 1 := by kernel_rfl
@[simp] theorem ag165 : aggT Tryz.prog 165 = some false := by kernel_rfl
@[simp] theorem un165 : unitT Tryz.prog 165 = some 1 := by kernel_rfl
@[simp] theorem ze165 : zeroT Tryz.prog 165 = some [.d (.s .nilFunc)] := by kernel_rfl
@[simp] theorem sz166 : szOf Tryz.prog 166 = some 17 := by kernel_rfl
@[simp] theorem ag166 : aggT Tryz.prog 166 = some true := by kernel_rfl
@[simp] theorem un166 : unitT Tryz.prog 166 = some 1 := by kernel_rfl
@[simp] theorem pl166 : placesT Tryz.prog 166 = some [(0, 1), (1, 1), (2, 1), (3, 1), (4, 1), (5, 1), (6, 1), (7, 1), (8, 1), (9, 1), (10, 1), (11, 1), (12, 1), (13, 1), (14, 1), (15, 1), (16, 1)] := by kernel_rfl
@[simp] theorem ar166 : arrT Tryz.prog 166 = some (17, 5, 1) := by kernel_rfl
@[simp] theorem sl166 : sliceT Tryz.prog 166 = none := by kernel_rfl
theorem kd166 : kindT Tryz.prog 12 166 = some [.int .u8, .int .u8, .int .u8, .int .u8, .int .u8, .int .u8, .int .u8, .int .u8, .int .u8, .int .u8, .int .u8, .int .u8, .int .u8, .int .u8, .int .u8, .int .u8, .int .u8] := by kernel_rfl
@[simp] theorem ze166 : zeroT Tryz.prog 166 = some [.d (.s (.int .u8 0)), .d (.s (.int .u8 0)), .d (.s (.int .u8 0)), .d (.s (.int .u8 0)), .d (.s (.int .u8 0)), .d (.s (.int .u8 0)), .d (.s (.int .u8 0)), .d (.s (.int .u8 0)), .d (.s (.int .u8 0)), .d (.s (.int .u8 0)), .d (.s (.int .u8 0)), .d (.s (.int .u8 0)), .d (.s (.int .u8 0)), .d (.s (.int .u8 0)), .d (.s (.int .u8 0)), .d (.s (.int .u8 0)), .d (.s (.int .u8 0))] := by kernel_rfl
@[simp] theorem sz167 : szOf Tryz.prog 167 = some 1 := by kernel_rfl
@[simp] theorem ag167 : aggT Tryz.prog 167 = some false := by kernel_rfl
@[simp] theorem un167 : unitT Tryz.prog 167 = some 1 := by kernel_rfl
@[simp] theorem ze167 : zeroT Tryz.prog 167 = some [.d (.s .nilFunc)] := by kernel_rfl
@[simp] theorem sz168 : szOf Tryz.prog 168 = some 1 := by kernel_rfl
@[simp] theorem ag168 : aggT Tryz.prog 168 = some false := by kernel_rfl
@[simp] theorem un168 : unitT Tryz.prog 168 = some 1 := by kernel_rfl
@[simp] theorem ze168 : zeroT Tryz.prog 168 = some [.d (.s .nilFunc)] := by kernel_rfl
@[simp] theorem sz169 : szOf Tryz.prog 169 = some 1 := by kernel_rfl
@[simp] theorem ag169 : aggT Tryz.prog 169 = some false := by kernel_rfl
@[simp] theorem un169 : unitT Tryz.prog 169 = some 1 := by kernel_rfl
@[simp] theorem ze169 : zeroT Tryz.prog 169 = some [.d (.s .nilFunc)] := by kernel_rfl
@[simp] theorem sz170 : szOf Tryz.prog 170 = some 1 := by kernel_rfl
@[simp] theorem ag170 : aggT Tryz.prog 170 = some false := by kernel_rfl
@[simp] theorem un170 : unitT Tryz.prog 170 = some 1 := by kernel_rfl
@[simp] theorem ze170 : zeroT Tryz.prog 170 = some [.d (.s .nilFunc)] := by kernel_rfl
@[simp] theorem sz171 : szOf Tryz.prog 171 = some 1 := by kernel_rfl
@[simp] theorem ag171 : aggT Tryz.prog 171 = some false := by kernel_rfl
@[simp] theorem un171 : unitT Tryz.prog 171 = some 1 := by kernel_rfl
@[simp] theorem sz172 : szOf Tryz.prog 172 = some 1 := by kernel_rfl
@[simp] theorem ag172 : aggT Tryz.prog 172 = some false := by kernel_rfl
@[simp] theorem un172 : unitT Tryz.prog 172 = some 1 := by kernel_rfl
@[simp] theorem ze172 : zeroT Tryz.prog 172 = some [.d (.s .nilFunc)] := by kernel_rfl
@[simp] theorem sz173 : szOf Tryz.prog 173 = some 1 := by kernel_rfl
@[simp] theorem ag173 : aggT Tryz.prog 173 = some false := by kernel_rfl
@[simp] theorem un173 : unitT Tryz.prog 173 = some 1 := by kernel_rfl
@[simp] theorem ze173 : zeroT Tryz.prog 173 = some [.d (.s .nilFunc)] := by kernel_rfl
@[simp] theorem sz174 : szOf Tryz.prog 174 = some 19 := by kernel_rfl
@[simp] theorem ag174 : aggT Tryz.prog 174 = some true := by kernel_rfl
@[simp] theorem un174 : unitT Tryz.prog 174 = some 19 := by kernel_rfl
theorem kd174 : kindT Tryz.prog 12 174 = some [.int .i64, .int .i64, .int .i64, .int .i64, .int .i64, .int .i64, .int .i64, .int .i64, .int .i64, .int .i64, .int .i64, .int .i64, .int .i64, .int .i64, .int .i64, .int .i64, .int .i64, .bool, .int .i64] := by kernel_rfl
theorem eqk174 : eqT Tryz.prog 8 174 = some (true, [.int .i64, .int .i64, .int .i64, .int .i64, .int .i64, .int .i64, .int .i64, .int .i64, .int .i64, .int .i64, .int .i64, .int .i64, .int .i64, .int .i64, .int .i64, .int .i64, .int .i64, .bool, .int .i64]) := by kernel_rfl
theorem eqg174 : (Tryz.prog).eqGuardType (Tryz.prog).depth 174 = false := by kernel_rfl
@[simp] theorem neqA174 (a0 b0 : Int) (a1 b1 : Int) (a2 b2 : Int) (a3 b3 : Int) (a4 b4 : Int) (a5 b5 : Int) (a6 b6 : Int) (a7 b7 : Int) (a8 b8 : Int) (a9 b9 : Int) (a10 b10 : Int) (a11 b11 : Int) (a12 b12 : Int) (a13 b13 : Int) (a14 b14 : Int) (a15 b15 : Int) (a16 b16 : Int) (a17 b17 : Bool) (a18 b18 : Int) (K : Value → Prop) : aggBin Tryz.prog .neq 174 [.d (.s (.int .i64 a0)), .d (.s (.int .i64 a1)), .d (.s (.int .i64 a2)), .d (.s (.int .i64 a3)), .d (.s (.int .i64 a4)), .d (.s (.int .i64 a5)), .d (.s (.int .i64 a6)), .d (.s (.int .i64 a7)), .d (.s (.int .i64 a8)), .d (.s (.int .i64 a9)), .d (.s (.int .i64 a10)), .d (.s (.int .i64 a11)), .d (.s (.int .i64 a12)), .d (.s (.int .i64 a13)), .d (.s (.int .i64 a14)), .d (.s (.int .i64 a15)), .d (.s (.int .i64 a16)), .d (.s (.bool a17)), .d (.s (.int .i64 a18))] [.d (.s (.int .i64 b0)), .d (.s (.int .i64 b1)), .d (.s (.int .i64 b2)), .d (.s (.int .i64 b3)), .d (.s (.int .i64 b4)), .d (.s (.int .i64 b5)), .d (.s (.int .i64 b6)), .d (.s (.int .i64 b7)), .d (.s (.int .i64 b8)), .d (.s (.int .i64 b9)), .d (.s (.int .i64 b10)), .d (.s (.int .i64 b11)), .d (.s (.int .i64 b12)), .d (.s (.int .i64 b13)), .d (.s (.int .i64 b14)), .d (.s (.int .i64 b15)), .d (.s (.int .i64 b16)), .d (.s (.bool b17)), .d (.s (.int .i64 b18))] K = K (.bool (!(eqVs [.int .i64 a0, .int .i64 a1, .int .i64 a2, .int .i64 a3, .int .i64 a4, .int .i64 a5, .int .i64 a6, .int .i64 a7, .int .i64 a8, .int .i64 a9, .int .i64 a10, .int .i64 a11, .int .i64 a12, .int .i64 a13, .int .i64 a14, .int .i64 a15, .int .i64 a16, .bool a17, .int .i64 a18] [.int .i64 b0, .int .i64 b1, .int .i64 b2, .int .i64 b3, .int .i64 b4, .int .i64 b5, .int .i64 b6, .int .i64 b7, .int .i64 b8, .int .i64 b9, .int .i64 b10, .int .i64 b11, .int .i64 b12, .int .i64 b13, .int .i64 b14, .int .i64 b15, .int .i64 b16, .bool b17, .int .i64 b18]))) := agg_neq (xs := [.int .i64 a0, .int .i64 a1, .int .i64 a2, .int .i64 a3, .int .i64 a4, .int .i64 a5, .int .i64 a6, .int .i64 a7, .int .i64 a8, .int .i64 a9, .int .i64 a10, .int .i64 a11, .int .i64 a12, .int .i64 a13, .int .i64 a14, .int .i64 a15, .int .i64 a16, .bool a17, .int .i64 a18]) (ys := [.int .i64 b0, .int .i64 b1, .int .i64 b2, .int .i64 b3, .int .i64 b4, .int .i64 b5, .int .i64 b6, .int .i64 b7, .int .i64 b8, .int .i64 b9, .int .i64 b10, .int .i64 b11, .int .i64 b12, .int .i64 b13, .int .i64 b14, .int .i64 b15, .int .i64 b16, .bool b17, .int .i64 b18]) eqk174 (by decide) eqg174 rfl rfl K
@[simp] theorem eqlA174 (a0 b0 : Int) (a1 b1 : Int) (a2 b2 : Int) (a3 b3 : Int) (a4 b4 : Int) (a5 b5 : Int) (a6 b6 : Int) (a7 b7 : Int) (a8 b8 : Int) (a9 b9 : Int) (a10 b10 : Int) (a11 b11 : Int) (a12 b12 : Int) (a13 b13 : Int) (a14 b14 : Int) (a15 b15 : Int) (a16 b16 : Int) (a17 b17 : Bool) (a18 b18 : Int) (K : Value → Prop) : aggBin Tryz.prog .eql 174 [.d (.s (.int .i64 a0)), .d (.s (.int .i64 a1)), .d (.s (.int .i64 a2)), .d (.s (.int .i64 a3)), .d (.s (.int .i64 a4)), .d (.s (.int .i64 a5)), .d (.s (.int .i64 a6)), .d (.s (.int .i64 a7)), .d (.s (.int .i64 a8)), .d (.s (.int .i64 a9)), .d (.s (.int .i64 a10)), .d (.s (.int .i64 a11)), .d (.s (.int .i64 a12)), .d (.s (.int .i64 a13)), .d (.s (.int .i64 a14)), .d (.s (.int .i64 a15)), .d (.s (.int .i64 a16)), .d (.s (.bool a17)), .d (.s (.int .i64 a18))] [.d (.s (.int .i64 b0)), .d (.s (.int .i64 b1)), .d (.s (.int .i64 b2)), .d (.s (.int .i64 b3)), .d (.s (.int .i64 b4)), .d (.s (.int .i64 b5)), .d (.s (.int .i64 b6)), .d (.s (.int .i64 b7)), .d (.s (.int .i64 b8)), .d (.s (.int .i64 b9)), .d (.s (.int .i64 b10)), .d (.s (.int .i64 b11)), .d (.s (.int .i64 b12)), .d (.s (.int .i64 b13)), .d (.s (.int .i64 b14)), .d (.s (.int .i64 b15)), .d (.s (.int .i64 b16)), .d (.s (.bool b17)), .d (.s (.int .i64 b18))] K = K (.bool ((eqVs [.int .i64 a0, .int .i64 a1, .int .i64 a2, .int .i64 a3, .int .i64 a4, .int .i64 a5, .int .i64 a6, .int .i64 a7, .int .i64 a8, .int .i64 a9, .int .i64 a10, .int .i64 a11, .int .i64 a12, .int .i64 a13, .int .i64 a14, .int .i64 a15, .int .i64 a16, .bool a17, .int .i64 a18] [.int .i64 b0, .int .i64 b1, .int .i64 b2, .int .i64 b3, .int .i64 b4, .int .i64 b5, .int .i64 b6, .int .i64 b7, .int .i64 b8, .int .i64 b9, .int .i64 b10, .int .i64 b11, .int .i64 b12, .int .i64 b13, .int .i64 b14, .int .i64 b15, .int .i64 b16, .bool b17, .int .i64 b18]))) := agg_eql (xs := [.int .i64 a0, .int .i64 a1, .int .i64 a2, .int .i64 a3, .int .i64 a4, .int .i64 a5, .int .i64 a6, .int .i64 a7, .int .i64 a8, .int .i64 a9, .int .i64 a10, .int .i64 a11, .int .i64 a12, .int .i64 a13, .int .i64 a14, .int .i64 a15, .int .i64 a16, .bool a17, .int .i64 a18]) (ys := [.int .i64 b0, .int .i64 b1, .int .i64 b2, .int .i64 b3, .int .i64 b4, .int .i64 b5, .int .i64 b6, .int .i64 b7, .int .i64 b8, .int .i64 b9, .int .i64 b10, .int .i64 b11, .int .i64 b12, .int .i64 b13, .int .i64 b14, .int .i64 b15, .int .i64 b16, .bool b17, .int .i64 b18]) eqk174 (by decide) eqg174 rfl rfl K
@[simp] theorem ze174 : zeroT Tryz.prog 174 = some [.d (.s (.int .i64 0)), .d (.s (.int .i64 0)), .d (.s (.int .i64 0)), .d (.s (.int .i64 0)), .d (.s (.int .i64 0)), .d (.s (.int .i64 0)), .d (.s (.int .i64 0)), .d (.s (.int .i64 0)), .d (.s (.int .i64 0)), .d (.s (.int .i64 0)), .d (.s (.int .i64 0)), .d (.s (.int .i64 0)), .d (.s (.int .i64 0)), .d (.s (.int .i64 0)), .d (.s (.int .i64 0)), .d (.s (.int .i64 0)), .d (.s (.int .i64 0)), .d (.s (.bool false)), .d (.s (.int .i64 0))] := by kernel_rfl
@[simp] theorem fi174_0 : fieldT Tryz.prog 174 0 = some (0, 10, true) := by kernel_rfl
@[simp] theorem fi174_1 : fieldT Tryz.prog 174 1 = some (10, 7, true) := by kernel_rfl
@[simp] theorem fi174_2 : fieldT Tryz.prog 174 2 = some (17, 1, false) := by kernel_rfl
@[simp] theorem fi174_3 : fieldT Tryz.prog 174 3 = some (18, 1, false) := by kernel_rfl
@[simp] theorem pl174 : placesT Tryz.prog 174 = some [(0, 10), (10, 7), (17, 1), (18, 1)] := by kernel_rfl
@[simp] theorem sz175 : szOf Tryz.prog 175 = some 19 := by kernel_rfl
@[simp] theorem ag175 : aggT Tryz.prog 175 = some true := by kernel_rfl
@[simp] theorem un175 : unitT Tryz.prog 175 = some 19 := by kernel_rfl
theorem kd175 : kindT Tryz.prog 12 175 = some [.int .i64, .int .i64, .int .i64, .int .i64, .int .i64, .int .i64, .int .i64, .int .i64, .int .i64, .int .i64, .int .i64, .int .i64, .int .i64, .int .i64, .int .i64, .int .i64, .int .i64, .bool, .int .i64] := by kernel_rfl
theorem eqk175 : eqT Tryz.prog 8 175 = some (true, [.int .i64, .int .i64, .int .i64, .int .i64, .int .i64, .int .i64, .int .i64, .int .i64, .int .i64, .int .i64, .int .i64, .int .i64, .int .i64, .int .i64, .int .i64, .int .i64, .int .i64, .bool, .int .i64]) := by kernel_rfl
theorem eqg175 : (Tryz.prog).eqGuardType (Tryz.prog).depth 175 = false := by kernel_rfl
@[simp] theorem neqA175 (a0 b0 : Int) (a1 b1 : Int) (a2 b2 : Int) (a3 b3 : Int) (a4 b4 : Int) (a5 b5 : Int) (a6 b6 : Int) (a7 b7 : Int) (a8 b8 : Int) (a9 b9 : Int) (a10 b10 : Int) (a11 b11 : Int) (a12 b12 : Int) (a13 b13 : Int) (a14 b14 : Int) (a15 b15 : Int) (a16 b16 : Int) (a17 b17 : Bool) (a18 b18 : Int) (K : Value → Prop) : aggBin Tryz.prog .neq 175 [.d (.s (.int .i64 a0)), .d (.s (.int .i64 a1)), .d (.s (.int .i64 a2)), .d (.s (.int .i64 a3)), .d (.s (.int .i64 a4)), .d (.s (.int .i64 a5)), .d (.s (.int .i64 a6)), .d (.s (.int .i64 a7)), .d (.s (.int .i64 a8)), .d (.s (.int .i64 a9)), .d (.s (.int .i64 a10)), .d (.s (.int .i64 a11)), .d (.s (.int .i64 a12)), .d (.s (.int .i64 a13)), .d (.s (.int .i64 a14)), .d (.s (.int .i64 a15)), .d (.s (.int .i64 a16)), .d (.s (.bool a17)), .d (.s (.int .i64 a18))] [.d (.s (.int .i64 b0)), .d (.s (.int .i64 b1)), .d (.s (.int .i64 b2)), .d (.s (.int .i64 b3)), .d (.s (.int .i64 b4)), .d (.s (.int .i64 b5)), .d (.s (.int .i64 b6)), .d (.s (.int .i64 b7)), .d (.s (.int .i64 b8)), .d (.s (.int .i64 b9)), .d (.s (.int .i64 b10)), .d (.s (.int .i64 b11)), .d (.s (.int .i64 b12)), .d (.s (.int .i64 b13)), .d (.s (.int .i64 b14)), .d (.s (.int .i64 b15)), .d (.s (.int .i64 b16)), .d (.s (.bool b17)), .d (.s (.int .i64 b18))] K = K (.bool (!(eqVs [.int .i64 a0, .int .i64 a1, .int .i64 a2, .int .i64 a3, .int .i64 a4, .int .i64 a5, .int .i64 a6, .int .i64 a7, .int .i64 a8, .int .i64 a9, .int .i64 a10, .int .i64 a11, .int .i64 a12, .int .i64 a13, .int .i64 a14, .int .i64 a15, .int .i64 a16, .bool a17, .int .i64 a18] [.int .i64 b0, .int .i64 b1, .int .i64 b2, .int .i64 b3, .int .i64 b4, .int .i64 b5, .int .i64 b6, .int .i64 b7, .int .i64 b8, .int .i64 b9, .int .i64 b10, .int .i64 b11, .int .i64 b12, .int .i64 b13, .int .i64 b14, .int .i64 b15, .int .i64 b16, .bool b17, .int .i64 b18]))) := agg_neq (xs := [.int .i64 a0, .int .i64 a1, .int .i64 a2, .int .i64 a3, .int .i64 a4, .int .i64 a5, .int .i64 a6, .int .i64 a7, .int .i64 a8, .int .i64 a9, .int .i64 a10, .int .i64 a11, .int .i64 a12, .int .i64 a13, .int .i64 a14, .int .i64 a15, .int .i64 a16, .bool a17, .int .i64 a18]) (ys := [.int .i64 b0, .int .i64 b1, .int .i64 b2, .int .i64 b3, .int .i64 b4, .int .i64 b5, .int .i64 b6, .int .i64 b7, .int .i64 b8, .int .i64 b9, .int .i64 b10, .int .i64 b11, .int .i64 b12, .int .i64 b13, .int .i64 b14, .int .i64 b15, .int .i64 b16, .bool b17, .int .i64 b18]) eqk175 (by decide) eqg175 rfl rfl K
@[simp] theorem eqlA175 (a0 b0 : Int) (a1 b1 : Int) (a2 b2 : Int) (a3 b3 : Int) (a4 b4 : Int) (a5 b5 : Int) (a6 b6 : Int) (a7 b7 : Int) (a8 b8 : Int) (a9 b9 : Int) (a10 b10 : Int) (a11 b11 : Int) (a12 b12 : Int) (a13 b13 : Int) (a14 b14 : Int) (a15 b15 : Int) (a16 b16 : Int) (a17 b17 : Bool) (a18 b18 : Int) (K : Value → Prop) : aggBin Tryz.prog .eql 175 [.d (.s (.int .i64 a0)), .d (.s (.int .i64 a1)), .d (.s (.int .i64 a2)), .d (.s (.int .i64 a3)), .d (.s (.int .i64 a4)), .d (.s (.int .i64 a5)), .d (.s (.int .i64 a6)), .d (.s (.int .i64 a7)), .d (.s (.int .i64 a8)), .d (.s (.int .i64 a9)), .d (.s (.int .i64 a10)), .d (.s (.int .i64 a11)), .d (.s (.int .i64 a12)), .d (.s (.int .i64 a13)), .d (.s (.int .i64 a14)), .d (.s (.int .i64 a15)), .d (.s (.int .i64 a16)), .d (.s (.bool a17)), .d (.s (.int .i64 a18))] [.d (.s (.int .i64 b0)), .d (.s (.int .i64 b1)), .d (.s (.int .i64 b2)), .d (.s (.int .i64 b3)), .d (.s (.int .i64 b4)), .d (.s (.int .i64 b5)), .d (.s (.int .i64 b6)), .d (.s (.int .i64 b7)), .d (.s (.int .i64 b8)), .d (.s (.int .i64 b9)), .d (.s (.int .i64 b10)), .d (.s (.int .i64 b11)), .d (.s (.int .i64 b12)), .d (.s (.int .i64 b13)), .d (.s (.int .i64 b14)), .d (.s (.int .i64 b15)), .d (.s (.int .i64 b16)), .d (.s (.bool b17)), .d (.s (.int .i64 b18))] K = K (.bool ((eqVs [.int .i64 a0, .int .i64 a1, .int .i64 a2, .int .i64 a3, .int .i64 a4, .int .i64 a5, .int .i64 a6, .int .i64 a7, .int .i64 a8, .int .i64 a9, .int .i64 a10, .int .i64 a11, .int .i64 a12, .int .i64 a13, .int .i64 a14, .int .i64 a15, .int .i64 a16, .bool a17, .int .i64 a18] [.int .i64 b0, .int .i64 b1, .int .i64 b2, .int .i64 b3, .int .i64 b4, .int .i64 b5, .int .i64 b6, .int .i64 b7, .int .i64 b8, .int .i64 b9, .int .i64 b10, .int .i64 b11, .int .i64 b12, .int .i64 b13, .int .i64 b14, .int .i64 b15, .int .i64 b16, .bool b17, .int .i64 b18]))) := agg_eql (xs := [.int .i64 a0, .int .i64 a1, .int .i64 a2, .int .i64 a3, .int .i64 a4, .int .i64 a5, .int .i64 a6, .int .i64 a7, .int .i64 a8, .int .i64 a9, .int .i64 a10, .int .i64 a11, .int .i64 a12, .int .i64 a13, .int .i64 a14, .int .i64 a15, .int .i64 a16, .bool a17, .int .i64 a18]) (ys := [.int .i64 b0, .int .i64 b1, .int .i64 b2, .int .i64 b3, .int .i64 b4, .int .i64 b5, .int .i64 b6, .int .i64 b7, .int .i64 b8, .int .i64 b9, .int .i64 b10, .int .i64 b11, .int .i64 b12, .int .i64 b13, .int .i64 b14, .int .i64 b15, .int .i64 b16, .bool b17, .int .i64 b18]) eqk175 (by decide) eqg175 rfl rfl K
@[simp] theorem ze175 : zeroT Tryz.prog 175 = some [.d (.s (.int .i64 0)), .d (.s (.int .i64 0)), .d (.s (.int .i64 0)), .d (.s (.int .i64 0)), .d (.s (.int .i64 0)), .d (.s (.int .i64 0)), .d (.s (.int .i64 0)), .d (.s (.int .i64 0)), .d (.s (.int .i64 0)), .d (.s (.int .i64 0)), .d (.s (.int .i64 0)), .d (.s (.int .i64 0)), .d (.s (.int .i64 0)), .d (.s (.int .i64 0)), .d (.s (.int .i64 0)), .d (.s (.int .i64 0)), .d (.s (.int .i64 0)), .d (.s (.bool false)), .d (.s (.int .i64 0))] := by kernel_rfl
@[simp] theorem fi175_0 : fieldT Tryz.prog 175 0 = some (0, 10, true) := by kernel_rfl
@[simp] theorem fi175_1 : fieldT Tryz.prog 175 1 = some (10, 7, true) := by kernel_rfl
@[simp] theorem fi175_2 : fieldT Tryz.prog 175 2 = some (17, 1, false) := by kernel_rfl
@[simp] theorem fi175_3 : fieldT Tryz.prog 175 3 = some (18, 1, false) := by kernel_rfl
@[simp] theorem pl175 : placesT Tryz.prog 175 = some [(0, 10), (10, 7), (17, 1), (18, 1)] := by kernel_rfl
@[simp] theorem sz176 : szOf Tryz.prog 176 = some 1 := by kernel_rfl
@[simp] theorem ag176 : aggT Tryz.prog 176 = some false := by kernel_rfl
@[simp] theorem un176 : unitT Tryz.prog 176 = some 1 := by kernel_rfl
@[simp] theorem ze176 : zeroT Tryz.prog 176 = some [.d (.s .nilFunc)] := by kernel_rfl
@[simp] theorem sz177 : szOf Tryz.prog 177 = some 1 := by kernel_rfl
@[simp] theorem ag177 : aggT Tryz.prog 177 = some false := by kernel_rfl
@[simp] theorem un177 : unitT Tryz.prog 177 = some 1 := by kernel_rfl
@[simp] theorem ze177 : zeroT Tryz.prog 177 = some [.d (.s .nilFunc)] := by kernel_rfl
@[simp] theorem sz178 : szOf Tryz.prog 178 = some 1 := by kernel_rfl
@[simp] theorem ag178 : aggT Tryz.prog 178 = some false := by kernel_rfl
@[simp] theorem un178 : unitT Tryz.prog 178 = some 1 := by kernel_rfl
@[simp] theorem ze178 : zeroT Tryz.prog 178 = some [.d (.s .nilFunc)] := by kernel_rfl
@[simp] theorem sz179 : szOf Tryz.prog 179 = some 1 := by kernel_rfl
@[simp] theorem ag179 : aggT Tryz.prog 179 = some false := by kernel_rfl
@[simp] theorem un179 : unitT Tryz.prog 179 = some 1 := by kernel_rfl
@[simp] theorem ze179 : zeroT Tryz.prog 179 = some [.d (.s .nilFunc)] := by kernel_rfl
@[simp] theorem sz180 : szOf Tryz.prog 180 = some 1 := by kernel_rfl
@[simp] theorem ag180 : aggT Tryz.prog 180 = some false := by kernel_rfl
@[simp] theorem un180 : unitT Tryz.prog 180 = some 1 := by kernel_rfl
@[simp] theorem ze180 : zeroT Tryz.prog 180 = some [.d (.s .nilFunc)] := by kernel_rfl
@[simp] theorem sz181 : szOf Tryz.prog 181 = some 1 := by kernel_rfl
@[simp] theorem ag181 : aggT Tryz.prog 181 = some false := by kernel_rfl
@[simp] theorem un181 : unitT Tryz.prog 181 = some 1 := by kernel_rfl
@[simp] theorem ze181 : zeroT Tryz.prog 181 = some [.d (.s .nilFunc)] := by kernel_rfl
@[simp] theorem sz182 : szOf Tryz.prog 182 = some 1 := by kernel_rfl
@[simp] theorem ag182 : aggT Tryz.prog 182 = some false := by kernel_rfl
@[simp] theorem un182 : unitT Tryz.prog 182 = some 1 := by kernel_rfl
@[simp] theorem ze182 : zeroT Tryz.prog 182 = some [.d (.s .nilFunc)] := by kernel_rfl
@[simp] theorem sz183 : szOf Tryz.prog 183 = some 1 := by kernel_rfl
@[simp] theorem ag183 : aggT Tryz.prog 183 = some false := by kernel_rfl
@[simp] theorem un183 : unitT Tryz.prog 183 = some 1 := by kernel_rfl
theorem kd183 : kindT Tryz.prog 12 183 = some [.slice [.int .i64, .int .i64, .int .i64]] := by kernel_rfl
@[simp] theorem sl183 : sliceT Tryz.prog 183 = some (159, 3, 24) := by kernel_rfl
@[simp] theorem ze183 : zeroT Tryz.prog 183 = some [.d .nil] := by kernel_rfl
@[simp] theorem sz184 : szOf Tryz.prog 184 = some 1 := by kernel_rfl
@[simp] theorem ag184 : aggT Tryz.prog 184 = some false := by kernel_rfl
@[simp] theorem un184 : unitT Tryz.prog 184 = some 1 := by kernel_rfl
@[simp] theorem ze184 : zeroT Tryz.prog 184 = some [.d (.s .nilFunc)] := by kernel_rfl
@[simp] theorem sz185 : szOf Tryz.prog 185 = some 1 := by kernel_rfl
@[simp] theorem ag185 : aggT Tryz.prog 185 = some false := by kernel_rfl
@[simp] theorem un185 : unitT Tryz.prog 185 = some 1 := by kernel_rfl
theorem kd185 : kindT Tryz.prog 12 185 = some [.int .u64] := by kernel_rfl
@[simp] theorem ze185 : zeroT Tryz.prog 185 = some [.d (.s (.int .u64 0))] := by kernel_rfl
@[simp] theorem sz186 : szOf Tryz.prog 186 = some 1 := by kernel_rfl
@[simp] theorem ag186 : aggT Tryz.prog 186 = some false := by kernel_rfl
@[simp] theorem un186 : unitT Tryz.prog 186 = some 1 := by kernel_rfl
@[simp] theorem ze186 : zeroT Tryz.prog 186 = some [.d (.s .nilFunc)] := by kernel_rfl
@[simp] theorem sz187 : szOf Tryz.prog 187 = some 1 := by kernel_rfl
@[simp] theorem ag187 : aggT Tryz.prog 187 = some false := by kernel_rfl
@[simp] theorem un187 : unitT Tryz.prog 187 = some 1 := by kernel_rfl
@[simp] theorem ze187 : zeroT Tryz.prog 187 = some [.d (.s .nilFunc)] := by kernel_rfl
@[simp] theorem sz188 : szOf Tryz.prog 188 = some 1 := by kernel_rfl
@[simp] theorem ag188 : aggT Tryz.prog 188 = some false := by kernel_rfl
@[simp] theorem un188 : unitT Tryz.prog 188 = some 1 := by kernel_rfl
@[simp] theorem ze188 : zeroT Tryz.prog 188 = some [.d (.s .nilFunc)] := by kernel_rfl
@[simp] theorem sz189 : szOf Tryz.prog 189 = some 1 := by kernel_rfl
@[simp] theorem ag189 : aggT Tryz.prog 189 = some false := by kernel_rfl
@[simp] theorem un189 : unitT Tryz.prog 189 = some 1 := by kernel_rfl
@[simp] theorem ze189 : zeroT Tryz.prog 189 = some [.d (.s .nilFunc)] := by kernel_rfl
@[simp] theorem sz190 : szOf Tryz.prog 190 = some 1 := by kernel_rfl
@[simp] theorem ag190 : aggT Tryz.prog 190 = some false := by kernel_rfl
@[simp] theorem un190 : unitT Tryz.prog 190 = some 1 := by kernel_rfl
@[simp] theorem ze190 : zeroT Tryz.prog 190 = some [.d (.s .nilIface)] := by kernel_rfl
@[simp] theorem sz191 : szOf Tryz.prog 191 = some 1 := by kernel_rfl
@[simp] theorem ag191 : aggT Tryz.prog 191 = some false := by kernel_rfl
@[simp] theorem un191 : unitT Tryz.prog 191 = some 1 := by kernel_rfl
@[simp] theorem ze191 : zeroT Tryz.prog 191 = some [.d (.s .nilIface)] := by kernel_rfl
@[simp] theorem sz192 : szOf Tryz.prog 192 = some 1 := by kernel_rfl
@[simp] theorem ag192 : aggT Tryz.prog 192 = some false := by kernel_rfl
@[simp] theorem un192 : unitT Tryz.prog 192 = some 1 := by kernel_rfl
@[simp] theorem ze192 : zeroT Tryz.prog 192 = some [.d (.s .nilFunc)] := by kernel_rfl
@[simp] theorem sz193 : szOf Tryz.prog 193 = some 1 := by kernel_rfl
@[simp] theorem ag193 : aggT Tryz.prog 193 = some false := by kernel_rfl
@[simp] theorem un193 : unitT Tryz.prog 193 = some 1 := by kernel_rfl
@[simp] theorem ze193 : zeroT Tryz.prog 193 = some [.d (.s .nilFunc)] := by kernel_rfl
@[simp] theorem sz194 : szOf Tryz.prog 194 = some 1 := by kernel_rfl
@[simp] theorem ag194 : aggT Tryz.prog 194 = some false := by kernel_rfl
@[simp] theorem un194 : unitT Tryz.prog 194 = some 1 := by kernel_rfl
@[simp] theorem ze194 : zeroT Tryz.prog 194 = some [.d (.s .nilFunc)] := by kernel_rfl
@[simp] theorem sz195 : szOf Tryz.prog 195 = some 1 := by kernel_rfl
@[simp] theorem ag195 : aggT Tryz.prog 195 = some false := by kernel_rfl
@[simp] theorem un195 : unitT Tryz.prog 195 = some 1 := by kernel_rfl
@[simp] theorem ze195 : zeroT Tryz.prog 195 = some [.d (.s .nilFunc)] := by kernel_rfl
@[simp] theorem sz196 : szOf Tryz.prog 196 = some 1 := by kernel_rfl
@[simp] theorem ag196 : aggT Tryz.prog 196 = some false := by kernel_rfl
@[simp] theorem un196 : unitT Tryz.prog 196 = some 1 := by kernel_rfl
@[simp] theorem ze196 : zeroT Tryz.prog 196 = some [.d (.s .nilFunc)] := by kernel_rfl
@[simp] theorem sz197 : szOf Tryz.prog 197 = some 1 := by kernel_rfl
@[simp] theorem ag197 : aggT Tryz.prog 197 = some false := by kernel_rfl
@[simp] theorem un197 : unitT Tryz.prog 197 = some 1 := by kernel_rfl
@[simp] theorem ze197 : zeroT Tryz.prog 197 = some [.d (.s .nilFunc)] := by kernel_rfl
@[simp] theorem sz198 : szOf Tryz.prog 198 = some 1 := by kernel_rfl
@[simp] theorem ag198 : aggT Tryz.prog 198 = some false := by kernel_rfl
@[simp] theorem un198 : unitT Tryz.prog 198 = some 1 := by kernel_rfl
theorem kd198 : kindT Tryz.prog 12 198 = some [.slice [.int .i64]] := by kernel_rfl
@[simp] theorem sl198 : sliceT Tryz.prog 198 = some (3, 1, 8) := by kernel_rfl
@[simp] theorem ze198 : zeroT Tryz.prog 198 = some [.d .nil] := by kernel_rfl
@[simp] theorem sz199 : szOf Tryz.prog 199 = some 1 := by kernel_rfl
@[simp] theorem ag199 : aggT Tryz.prog 199 = some false := by kernel_rfl
@[simp] theorem un199 : unitT Tryz.prog 199 = some 1 := by kernel_rfl
@[simp] theorem ze199 : zeroT Tryz.prog 199 = some [.d (.s .nilFunc)] := by kernel_rfl
@[simp] theorem sz200 : szOf Tryz.prog 200 = some 1 := by kernel_rfl
@[simp] theorem ag200 : aggT Tryz.prog 200 = some true := by kernel_rfl
@[simp] theorem un200 : unitT Tryz.prog 200 = some 1 := by kernel_rfl
@[simp] theorem ze200 : zeroT Tryz.prog 200 = some [.d (.s (.pointer none))] := by kernel_rfl
@[simp] theorem fi200_0 : fieldT Tryz.prog 200 0 = some (0, 1, false) := by kernel_rfl
@[simp] theorem pl200 : placesT Tryz.prog 200 = some [(0, 1)] := by kernel_rfl
@[simp] theorem sz201 : szOf Tryz.prog 201 = some 1 := by kernel_rfl
@[simp] theorem ag201 : aggT Tryz.prog 201 = some true := by kernel_rfl
@[simp] theorem un201 : unitT Tryz.prog 201 = some 1 := by kernel_rfl
@[simp] theorem ze201 : zeroT Tryz.prog 201 = some [.d (.s (.pointer none))] := by kernel_rfl
@[simp] theorem fi201_0 : fieldT Tryz.prog 201 0 = some (0, 1, false) := by kernel_rfl
@[simp] theorem pl201 : placesT Tryz.prog 201 = some [(0, 1)] := by kernel_rfl
@[simp] theorem sz202 : szOf Tryz.prog 202 = some 1 := by kernel_rfl
@[simp] theorem ag202 : aggT Tryz.prog 202 = some false := by kernel_rfl
@[simp] theorem un202 : unitT Tryz.prog 202 = some 1 := by kernel_rfl
@[simp] theorem ze202 : zeroT Tryz.prog 202 = some [.d (.s (.pointer none))] := by kernel_rfl
@[simp] theorem sz203 : szOf Tryz.prog 203 = some 1 := by kernel_rfl
@[simp] theorem ag203 : aggT Tryz.prog 203 = some false := by kernel_rfl
@[simp] theorem un203 : unitT Tryz.prog 203 = some 1 := by kernel_rfl
@[simp] theorem ze203 : zeroT Tryz.prog 203 = some [.d (.s .nilIface)] := by kernel_rfl
@[simp] theorem sz204 : szOf Tryz.prog 204 = some 1 := by kernel_rfl
@[simp] theorem ag204 : aggT Tryz.prog 204 = some false := by kernel_rfl
@[simp] theorem un204 : unitT Tryz.prog 204 = some 1 := by kernel_rfl
@[simp] theorem sz205 : szOf Tryz.prog 205 = some 1 := by kernel_rfl
@[simp] theorem ag205 : aggT Tryz.prog 205 = some false := by kernel_rfl
@[simp] theorem un205 : unitT Tryz.prog 205 = some 1 := by kernel_rfl
@[simp] theorem ze205 : zeroT Tryz.prog 205 = some [.d (.s .nilFunc)] := by kernel_rfl
@[simp] theorem sz206 : szOf Tryz.prog 206 = some 1 := by kernel_rfl
@[simp] theorem ag206 : aggT Tryz.prog 206 = some false := by kernel_rfl
@[simp] theorem un206 : unitT Tryz.prog 206 = some 1 := by kernel_rfl
@[simp] theorem ze206 : zeroT Tryz.prog 206 = some [.d (.s .nilIface)] := by kernel_rfl
@[simp] theorem sz207 : szOf Tryz.prog 207 = some 1 := by kernel_rfl
@[simp] theorem ag207 : aggT Tryz.prog 207 = some false := by kernel_rfl
@[simp] theorem un207 : unitT Tryz.prog 207 = some 1 := by kernel_rfl
@[simp] theorem ze207 : zeroT Tryz.prog 207 = some [.d (.s .nilFunc)] := by kernel_rfl
@[simp] theorem sz208 : szOf Tryz.prog 208 = some 1 := by kernel_rfl
@[simp] theorem ag208 : aggT Tryz.prog 208 = some false := by kernel_rfl
@[simp] theorem un208 : unitT Tryz.prog 208 = some 1 := by kernel_rfl
@[simp] theorem ze208 : zeroT Tryz.prog 208 = some [.d (.s .nilIface)] := by kernel_rfl
@[simp] theorem sz209 : szOf Tryz.prog 209 = some 1 := by kernel_rfl
@[simp] theorem ag209 : aggT Tryz.prog 209 = some false := by kernel_rfl
@[simp] theorem un209 : unitT Tryz.prog 209 = some 1 := by kernel_rfl
@[simp] theorem sl209 : sliceT Tryz.prog 209 = some (141, 1, 16) := by kernel_rfl
@[simp] theorem ze209 : zeroT Tryz.prog 209 = some [.d .nil] := by kernel_rfl
@[simp] theorem sz210 : szOf Tryz.prog 210 = some 1 := by kernel_rfl
@[simp] theorem ag210 : aggT Tryz.prog 210 = some false := by kernel_rfl
@[simp] theorem un210 : unitT Tryz.prog 210 = some 1 := by kernel_rfl
@[simp] theorem ze210 : zeroT Tryz.prog 210 = some [.d (.s .nilFunc)] := by kernel_rfl
@[simp] theorem sz211 : szOf Tryz.prog 211 = some 1 := by kernel_rfl
@[simp] theorem ag211 : aggT Tryz.prog 211 = some false := by kernel_rfl
@[simp] theorem un211 : unitT Tryz.prog 211 = some 1 := by kernel_rfl
@[simp] theorem ze211 : zeroT Tryz.prog 211 = some [.d (.s .nilFunc)] := by kernel_rfl
@[simp] theorem sz212 : szOf Tryz.prog 212 = some 1 := by kernel_rfl
@[simp] theorem ag212 : aggT Tryz.prog 212 = some false := by kernel_rfl
@[simp] theorem un212 : unitT Tryz.prog 212 = some 1 := by kernel_rfl
theorem kd212 : kindT Tryz.prog 12 212 = some [.int .i64] := by kernel_rfl
@[simp] theorem ze212 : zeroT Tryz.prog 212 = some [.d (.s (.int .i64 0))] := by kernel_rfl
@[simp] theorem sz213 : szOf Tryz.prog 213 = some 1 := by kernel_rfl
@[simp] theorem ag213 : aggT Tryz.prog 213 = some false := by kernel_rfl
@[simp] theorem un213 : unitT Tryz.prog 213 = some 1 := by kernel_rfl
@[simp] theorem sz214 : szOf Tryz.prog 214 = some 1 := by kernel_rfl
@[simp] theorem ag214 : aggT Tryz.prog 214 = some false := by kernel_rfl
@[simp] theorem un214 : unitT Tryz.prog 214 = some 1 := by kernel_rfl
@[simp] theorem ze214 : zeroT Tryz.prog 214 = some [.d (.s .nilFunc)] := by kernel_rfl
@[simp] theorem sz215 : szOf Tryz.prog 215 = some 1 := by kernel_rfl
@[simp] theorem ag215 : aggT Tryz.prog 215 = some false := by kernel_rfl
@[simp] theorem un215 : unitT Tryz.prog 215 = some 1 := by kernel_rfl
@[simp] theorem ze215 : zeroT Tryz.prog 215 = some [.d (.s .nilFunc)] := by kernel_rfl
@[simp] theorem sz216 : szOf Tryz.prog 216 = some 1 := by kernel_rfl
@[simp] theorem ag216 : aggT Tryz.prog 216 = some false := by kernel_rfl
@[simp] theorem un216 : unitT Tryz.prog 216 = some 1 := by kernel_rfl
@[simp] theorem ze216 : zeroT Tryz.prog 216 = some [.d (.s .nilFunc)] := by kernel_rfl
@[simp] theorem sz217 : szOf Tryz.prog 217 = some 1 := by kernel_rfl
@[simp] theorem ag217 : aggT Tryz.prog 217 = some false := by kernel_rfl
@[simp] theorem un217 : unitT Tryz.prog 217 = some 1 := by kernel_rfl
@[simp] theorem sz218 : szOf Tryz.prog 218 = some 1 := by kernel_rfl
@[simp] theorem ag218 : aggT Tryz.prog 218 = some false := by kernel_rfl
@[simp] theorem un218 : unitT Tryz.prog 218 = some 1 := by kernel_rfl
@[simp] theorem ze218 : zeroT Tryz.prog 218 = some [.d (.s .nilFunc)] := by kernel_rfl
@[simp] theorem sz219 : szOf Tryz.prog 219 = some 1 := by kernel_rfl
@[simp] theorem ag219 : aggT Tryz.prog 219 = some false := by kernel_rfl
@[simp] theorem un219 : unitT Tryz.prog 219 = some 1 := by kernel_rfl
@[simp] theorem ze219 : zeroT Tryz.prog 219 = some [.d (.s .nilFunc)] := by kernel_rfl
@[simp] theorem sz220 : szOf Tryz.prog 220 = some 1 := by kernel_rfl
@[simp] theorem ag220 : aggT Tryz.prog 220 = some false := by kernel_rfl
@[simp] theorem un220 : unitT Tryz.prog 220 = some 1 := by kernel_rfl
theorem kd220 : kindT Tryz.prog 12 220 = some [.int .u32] := by kernel_rfl
@[simp] theorem ze220 : zeroT Tryz.prog 220 = some [.d (.s (.int .u32 0))] := by kernel_rfl
@[simp] theorem sz221 : szOf Tryz.prog 221 = some 1 := by kernel_rfl
@[simp] theorem ag221 : aggT Tryz.prog 221 = some false := by kernel_rfl
@[simp] theorem un221 : unitT Tryz.prog 221 = some 1 := by kernel_rfl
@[simp] theorem ze221 : zeroT Tryz.prog 221 = some [.d (.s .nilFunc)] := by kernel_rfl
@[simp] theorem sz222 : szOf Tryz.prog 222 = some 1 := by kernel_rfl
@[simp] theorem ag222 : aggT Tryz.prog 222 = some false := by kernel_rfl
@[simp] theorem un222 : unitT Tryz.prog 222 = some 1 := by kernel_rfl
theorem kd222 : kindT Tryz.prog 12 222 = some [.int .u64] := by kernel_rfl
@[simp] theorem ze222 : zeroT Tryz.prog 222 = some [.d (.s (.int .u64 0))] := by kernel_rfl
@[simp] theorem sz223 : szOf Tryz.prog 223 = some 1 := by kernel_rfl
@[simp] theorem ag223 : aggT Tryz.prog 223 = some false := by kernel_rfl
@[simp] theorem un223 : unitT Tryz.prog 223 = some 1 := by kernel_rfl
theorem kd223 : kindT Tryz.prog 12 223 = some [.int .u64] := by kernel_rfl
@[simp] theorem ze223 : zeroT Tryz.prog 223 = some [.d (.s (.int .u64 0))] := by kernel_rfl
@[simp] theorem sz224 : szOf Tryz.prog 224 = some 1 := by kernel_rfl
@[simp] theorem ag224 : aggT Tryz.prog 224 = some false := by kernel_rfl
@[simp] theorem un224 : unitT Tryz.prog 224 = some 1 := by kernel_rfl
@[simp] theorem ze224 : zeroT Tryz.prog 224 = some [.d (.s .nilFunc)] := by kernel_rfl
@[simp] theorem sz225 : szOf Tryz.prog 225 = some 1 := by kernel_rfl
@[simp] theorem ag225 : aggT Tryz.prog 225 = some false := by kernel_rfl
@[simp] theorem un225 : unitT Tryz.prog 225 = some 1 := by kernel_rfl
@[simp] theorem ze225 : zeroT Tryz.prog 225 = some [.d (.s .nilFunc)] := by kernel_rfl
@[simp] theorem sz226 : szOf Tryz.prog 226 = some 1 := by kernel_rfl
@[simp] theorem ag226 : aggT Tryz.prog 226 = some false := by kernel_rfl
@[simp] theorem un226 : unitT Tryz.prog 226 = some 1 := by kernel_rfl
@[simp] theorem ze226 : zeroT Tryz.prog 226 = some [.d (.s .nilFunc)] := by kernel_rfl
@[simp] theorem sz227 : szOf Tryz.prog 227 = some 1 := by kernel_rfl
@[simp] theorem ag227 : aggT Tryz.prog 227 = some false := by kernel_rfl
@[simp] theorem un227 : unitT Tryz.prog 227 = some 1 := by kernel_rfl
@[simp] theorem ze227 : zeroT Tryz.prog 227 = some [.d (.s (.pointer none))] := by kernel_rfl
@[simp] theorem sz228 : szOf Tryz.prog 228 = some 1 := by kernel_rfl
@[simp] theorem ag228 : aggT Tryz.prog 228 = some false := by kernel_rfl
@[simp] theorem un228 : unitT Tryz.prog 228 = some 1 := by kernel_rfl
@[simp] theorem ze228 : zeroT Tryz.prog 228 = some [.d (.s .nilFunc)] := by kernel_rfl
@[simp] theorem sz229 : szOf Tryz.prog 229 = some 1 := by kernel_rfl
@[simp] theorem ag229 : aggT Tryz.prog 229 = some false := by kernel_rfl
@[simp] theorem un229 : unitT Tryz.prog 229 = some 1 := by kernel_rfl
@[simp] theorem ze229 : zeroT Tryz.prog 229 = some [.d (.s (.pointer none))] := by kernel_rfl
@[simp] theorem sz230 : szOf Tryz.prog 230 = some 1 := by kernel_rfl
@[simp] theorem ag230 : aggT Tryz.prog 230 = some false := by kernel_rfl
@[simp] theorem un230 : unitT Tryz.prog 230 = some 1 := by kernel_rfl
@[simp] theorem sz231 : szOf Tryz.prog 231 = some 1 := by kernel_rfl
@[simp] theorem ag231 : aggT Tryz.prog 231 = some false := by kernel_rfl
@[simp] theorem un231 : unitT Tryz.prog 231 = some 1 := by kernel_rfl
@[simp] theorem ze231 : zeroT Tryz.prog 231 = some [.d (.s .nilFunc)] := by kernel_rfl
@[simp] theorem sz232 : szOf Tryz.prog 232 = some 1 := by kernel_rfl
@[simp] theorem ag232 : aggT Tryz.prog 232 = some false := by kernel_rfl
@[simp] theorem un232 : unitT Tryz.prog 232 = some 1 := by kernel_rfl
@[simp] theorem ze232 : zeroT Tryz.prog 232 = some [.d (.s (.pointer none))] := by kernel_rfl
@[simp] theorem sz233 : szOf Tryz.prog 233 = some 1 := by kernel_rfl
@[simp] theorem ag233 : aggT Tryz.prog 233 = some false := by kernel_rfl
@[simp] theorem un233 : unitT Tryz.prog 233 = some 1 := by kernel_rfl
@[simp] theorem ze233 : zeroT Tryz.prog 233 = some [.d (.s .nilFunc)] := by kernel_rfl
@[simp] theorem sz234 : szOf Tryz.prog 234 = some 4 := by kernel_rfl
@[simp] theorem ag234 : aggT Tryz.prog 234 = some true := by kernel_rfl
@[simp] theorem un234 : unitT Tryz.prog 234 = some 4 := by kernel_rfl
@[simp] theorem ze234 : zeroT Tryz.prog 234 = some [.d (.s (.pointer none)), .d (.s (.pointer none)), .d (.s (.pointer none)), .d (.s (.string ByteArray.empty))] := by kernel_rfl
@[simp] theorem fi234_0 : fieldT Tryz.prog 234 0 = some (0, 1, false) := by kernel_rfl
@[simp] theorem fi234_1 : fieldT Tryz.prog 234 1 = some (1, 1, false) := by kernel_rfl
@[simp] theorem fi234_2 : fieldT Tryz.prog 234 2 = some (2, 1, false) := by kernel_rfl
@[simp] theorem fi234_3 : fieldT Tryz.prog 234 3 = some (3, 1, false) := by kernel_rfl
@[simp] theorem pl234 : placesT Tryz.prog 234 = some [(0, 1), (1, 1), (2, 1), (3, 1)] := by kernel_rfl
@[simp] theorem sz235 : szOf Tryz.prog 235 = some 4 := by kernel_rfl
@[simp] theorem ag235 : aggT Tryz.prog 235 = some true := by kernel_rfl
@[simp] theorem un235 : unitT Tryz.prog 235 = some 4 := by kernel_rfl
@[simp] theorem ze235 : zeroT Tryz.prog 235 = some [.d (.s (.pointer none)), .d (.s (.pointer none)), .d (.s (.pointer none)), .d (.s (.string ByteArray.empty))] := by kernel_rfl
@[simp] theorem fi235_0 : fieldT Tryz.prog 235 0 = some (0, 1, false) := by kernel_rfl
@[simp] theorem fi235_1 : fieldT Tryz.prog 235 1 = some (1, 1, false) := by kernel_rfl
@[simp] theorem fi235_2 : fieldT Tryz.prog 235 2 = some (2, 1, false) := by kernel_rfl
@[simp] theorem fi235_3 : fieldT Tryz.prog 235 3 = some (3, 1, false) := by kernel_rfl
@[simp] theorem pl235 : placesT Tryz.prog 235 = some [(0, 1), (1, 1), (2, 1), (3, 1)] := by kernel_rfl
@[simp] theorem sz236 : szOf Tryz.prog 236 = some 0 := by kernel_rfl
@[simp] theorem ag236 : aggT Tryz.prog 236 = some true := by kernel_rfl
@[simp] theorem un236 : unitT Tryz.prog 236 = some 1 := by kernel_rfl
@[simp] theorem pl236 : placesT Tryz.prog 236 = some [] := by kernel_rfl
@[simp] theorem ar236 : arrT Tryz.prog 236 = some (0, 16, 1) := by kernel_rfl
@[simp] theorem sl236 : sliceT Tryz.prog 236 = none := by kernel_rfl
@[simp] theorem ze236 : zeroT Tryz.prog 236 = some [] := by kernel_rfl
@[simp] theorem sz237 : szOf Tryz.prog 237 = some 0 := by kernel_rfl
@[simp] theorem ag237 : aggT Tryz.prog 237 = some true := by kernel_rfl
@[simp] theorem un237 : unitT Tryz.prog 237 = some 0 := by kernel_rfl
@[simp] theorem ze237 : zeroT Tryz.prog 237 = some [] := by kernel_rfl
@[simp] theorem fi237_0 : fieldT Tryz.prog 237 0 = some (0, 0, true) := by kernel_rfl
@[simp] theorem pl237 : placesT Tryz.prog 237 = some [(0, 0)] := by kernel_rfl
@[simp] theorem sz238 : szOf Tryz.prog 238 = some 0 := by kernel_rfl
@[simp] theorem ag238 : aggT Tryz.prog 238 = some true := by kernel_rfl
@[simp] theorem un238 : unitT Tryz.prog 238 = some 0 := by kernel_rfl
@[simp] theorem ze238 : zeroT Tryz.prog 238 = some [] := by kernel_rfl
@[simp] theorem fi238_0 : fieldT Tryz.prog 238 0 = some (0, 0, true) := by kernel_rfl
@[simp] theorem pl238 : placesT Tryz.prog 238 = some [(0, 0)] := by kernel_rfl
@[simp] theorem sz239 : szOf Tryz.prog 239 = some 1 := by kernel_rfl
@[simp] theorem ag239 : aggT Tryz.prog 239 = some false := by kernel_rfl
@[simp] theorem un239 : unitT Tryz.prog 239 = some 1 := by kernel_rfl
@[simp] theorem ze239 : zeroT Tryz.prog 239 = some [.d (.s .nilFunc)] := by kernel_rfl
@[simp] theorem sz240 : szOf Tryz.prog 240 = some 1 := by kernel_rfl
@[simp] theorem ag240 : aggT Tryz.prog 240 = some false := by kernel_rfl
@[simp] theorem un240 : unitT Tryz.prog 240 = some 1 := by kernel_rfl
theorem kd240 : kindT Tryz.prog 12 240 = some [.int .u8] := by kernel_rfl
@[simp] theorem ze240 : zeroT Tryz.prog 240 = some [.d (.s (.int .u8 0))] := by kernel_rfl
@[simp] theorem sz241 : szOf Tryz.prog 241 = some 1 := by kernel_rfl
@[simp] theorem ag241 : aggT Tryz.prog 241 = some false := by kernel_rfl
@[simp] theorem un241 : unitT Tryz.prog 241 = some 1 := by kernel_rfl
theorem kd241 : kindT Tryz.prog 12 241 = some [.int .u8] := by kernel_rfl
@[simp] theorem ze241 : zeroT Tryz.prog 241 = some [.d (.s (.int .u8 0))] := by kernel_rfl
@[simp] theorem sz242 : szOf Tryz.prog 242 = some 1 := by kernel_rfl
@[simp] theorem ag242 : aggT Tryz.prog 242 = some false := by kernel_rfl
@[simp] theorem un242 : unitT Tryz.prog 242 = some 1 := by kernel_rfl
@[simp] theorem ze242 : zeroT Tryz.prog 242 = some [.d (.s .nilFunc)] := by kernel_rfl
@[simp] theorem sz243 : szOf Tryz.prog 243 = some 1 := by kernel_rfl
@[simp] theorem ag243 : aggT Tryz.prog 243 = some false := by kernel_rfl
@[simp] theorem un243 : unitT Tryz.prog 243 = some 1 := by kernel_rfl
@[simp] theorem ze243 : zeroT Tryz.prog 243 = some [.d (.s (.pointer none))] := by kernel_rfl
@[simp] theorem sz244 : szOf Tryz.prog 244 = some 1 := by kernel_rfl
@[simp] theorem ag244 : aggT Tryz.prog 244 = some false := by kernel_rfl
@[simp] theorem un244 : unitT Tryz.prog 244 = some 1 := by kernel_rfl
theorem kd244 : kindT Tryz.prog 12 244 = some [.int .i32] := by kernel_rfl
@[simp] theorem ze244 : zeroT Tryz.prog 244 = some [.d (.s (.int .i32 0))] := by kernel_rfl
@[simp] theorem sz245 : szOf Tryz.prog 245 = some 1 := by kernel_rfl
@[simp] theorem ag245 : aggT Tryz.prog 245 = some false := by kernel_rfl
@[simp] theorem un245 : unitT Tryz.prog 245 = some 1 := by kernel_rfl
theorem kd245 : kindT Tryz.prog 12 245 = some [.int .i32] := by kernel_rfl
@[simp] theorem ze245 : zeroT Tryz.prog 245 = some [.d (.s (.int .i32 0))] := by kernel_rfl
@[simp] theorem sz246 : szOf Tryz.prog 246 = some 11 := by kernel_rfl
@[simp] theorem ag246 : aggT Tryz.prog 246 = some true := by kernel_rfl
@[simp] theorem un246 : unitT Tryz.prog 246 = some 11 := by kernel_rfl
@[simp] theorem ze246 : zeroT Tryz.prog 246 = some [.d (.s (.int .u64 0)), .d (.s (.int .u64 0)), .d (.s (.int .u32 0)), .d (.s (.int .u8 0)), .d (.s (.int .u8 0)), .d (.s (.int .u8 0)), .d (.s (.int .u8 0)), .d (.s .nilFunc), .d (.s (.pointer none)), .d (.s (.int .i32 0)), .d (.s (.int .i32 0))] := by kernel_rfl
@[simp] theorem fi246_0 : fieldT Tryz.prog 246 0 = some (0, 1, false) := by kernel_rfl
@[simp] theorem fi246_1 : fieldT Tryz.prog 246 1 = some (1, 1, false) := by kernel_rfl
@[simp] theorem fi246_2 : fieldT Tryz.prog 246 2 = some (2, 1, false) := by kernel_rfl
@[simp] theorem fi246_3 : fieldT Tryz.prog 246 3 = some (3, 1, false) := by kernel_rfl
@[simp] theorem fi246_4 : fieldT Tryz.prog 246 4 = some (4, 1, false) := by kernel_rfl
@[simp] theorem fi246_5 : fieldT Tryz.prog 246 5 = some (5, 1, false) := by kernel_rfl
@[simp] theorem fi246_6 : fieldT Tryz.prog 246 6 = some (6, 1, false) := by kernel_rfl
@[simp] theorem fi246_7 : fieldT Tryz.prog 246 7 = some (7, 1, false) := by kernel_rfl
@[simp] theorem fi246_8 : fieldT Tryz.prog 246 8 = some (8, 1, false) := by kernel_rfl
@[simp] theorem fi246_9 : fieldT Tryz.prog 246 9 = some (9, 1, false) := by kernel_rfl
@[simp] theorem fi246_10 : fieldT Tryz.prog 246 10 = some (10, 1, false) := by kernel_rfl
@[simp] theorem pl246 : placesT Tryz.prog 246 = some [(0, 1), (1, 1), (2, 1), (3, 1), (4, 1), (5, 1), (6, 1), (7, 1), (8, 1), (9, 1), (10, 1)] := by kernel_rfl
@[simp] theorem sz247 : szOf Tryz.prog 247 = some 11 := by kernel_rfl
@[simp] theorem ag247 : aggT Tryz.prog 247 = some true := by kernel_rfl
@[simp] theorem un247 : unitT Tryz.prog 247 = some 11 := by kernel_rfl
@[simp] theorem ze247 : zeroT Tryz.prog 247 = some [.d (.s (.int .u64 0)), .d (.s (.int .u64 0)), .d (.s (.int .u32 0)), .d (.s (.int .u8 0)), .d (.s (.int .u8 0)), .d (.s (.int .u8 0)), .d (.s (.int .u8 0)), .d (.s .nilFunc), .d (.s (.pointer none)), .d (.s (.int .i32 0)), .d (.s (.int .i32 0))] := by kernel_rfl
@[simp] theorem fi247_0 : fieldT Tryz.prog 247 0 = some (0, 1, false) := by kernel_rfl
@[simp] theorem fi247_1 : fieldT Tryz.prog 247 1 = some (1, 1, false) := by kernel_rfl
@[simp] theorem fi247_2 : fieldT Tryz.prog 247 2 = some (2, 1, false) := by kernel_rfl
@[simp] theorem fi247_3 : fieldT Tryz.prog 247 3 = some (3, 1, false) := by kernel_rfl
@[simp] theorem fi247_4 : fieldT Tryz.prog 247 4 = some (4, 1, false) := by kernel_rfl
@[simp] theorem fi247_5 : fieldT Tryz.prog 247 5 = some (5, 1, false) := by kernel_rfl
@[simp] theorem fi247_6 : fieldT Tryz.prog 247 6 = some (6, 1, false) := by kernel_rfl
@[simp] theorem fi247_7 : fieldT Tryz.prog 247 7 = some (7, 1, false) := by kernel_rfl
@[simp] theorem fi247_8 : fieldT Tryz.prog 247 8 = some (8, 1, false) := by kernel_rfl
@[simp] theorem fi247_9 : fieldT Tryz.prog 247 9 = some (9, 1, false) := by kernel_rfl
@[simp] theorem fi247_10 : fieldT Tryz.prog 247 10 = some (10, 1, false) := by kernel_rfl
@[simp] theorem pl247 : placesT Tryz.prog 247 = some [(0, 1), (1, 1), (2, 1), (3, 1), (4, 1), (5, 1), (6, 1), (7, 1), (8, 1), (9, 1), (10, 1)] := by kernel_rfl
@[simp] theorem sz248 : szOf Tryz.prog 248 = some 1 := by kernel_rfl
@[simp] theorem ag248 : aggT Tryz.prog 248 = some false := by kernel_rfl
@[simp] theorem un248 : unitT Tryz.prog 248 = some 1 := by kernel_rfl
@[simp] theorem ze248 : zeroT Tryz.prog 248 = some [.d (.s .nilFunc)] := by kernel_rfl
@[simp] theorem sz249 : szOf Tryz.prog 249 = some 1 := by kernel_rfl
@[simp] theorem ag249 : aggT Tryz.prog 249 = some false := by kernel_rfl
@[simp] theorem un249 : unitT Tryz.prog 249 = some 1 := by kernel_rfl
@[simp] theorem ze249 : zeroT Tryz.prog 249 = some [.d (.s .nilFunc)] := by kernel_rfl
@[simp] theorem sz250 : szOf Tryz.prog 250 = some 1 := by kernel_rfl
@[simp] theorem ag250 : aggT Tryz.prog 250 = some false := by kernel_rfl
@[simp] theorem un250 : unitT Tryz.prog 250 = some 1 := by kernel_rfl
@[simp] theorem ze250 : zeroT Tryz.prog 250 = some [.d (.s .nilFunc)] := by kernel_rfl
@[simp] theorem sz251 : szOf Tryz.prog 251 = some 1 := by kernel_rfl
@[simp] theorem ag251 : aggT Tryz.prog 251 = some false := by kernel_rfl
@[simp] theorem un251 : unitT Tryz.prog 251 = some 1 := by kernel_rfl
@[simp] theorem ze251 : zeroT Tryz.prog 251 = some [.d (.s .nilFunc)] := by kernel_rfl
@[simp] theorem sz252 : szOf Tryz.prog 252 = some 1 := by kernel_rfl
@[simp] theorem ag252 : aggT Tryz.prog 252 = some false := by kernel_rfl
@[simp] theorem un252 : unitT Tryz.prog 252 = some 1 := by kernel_rfl
@[simp] theorem ze252 : zeroT Tryz.prog 252 = some [.d (.s .nilFunc)] := by kernel_rfl
@[simp] theorem sz253 : szOf Tryz.prog 253 = some 1 := by kernel_rfl
@[simp] theorem ag253 : aggT Tryz.prog 253 = some false := by kernel_rfl
@[simp] theorem un253 : unitT Tryz.prog 253 = some 1 := by kernel_rfl
@[simp] theorem ze253 : zeroT Tryz.prog 253 = some [.d (.s .nilFunc)] := by kernel_rfl
@[simp] theorem sz254 : szOf Tryz.prog 254 = some 1 := by kernel_rfl
@[simp] theorem ag254 : aggT Tryz.prog 254 = some false := by kernel_rfl
@[simp] theorem un254 : unitT Tryz.prog 254 = some 1 := by kernel_rfl
@[simp] theorem ze254 : zeroT Tryz.prog 254 = some [.d (.s .nilFunc)] := by kernel_rfl
@[simp] theorem sz255 : szOf Tryz.prog 255 = some 2 := by kernel_rfl
@[simp] theorem ag255 : aggT Tryz.prog 255 = some true := by kernel_rfl
@[simp] theorem un255 : unitT Tryz.prog 255 = some 2 := by kernel_rfl
theorem kd255 : kindT Tryz.prog 12 255 = some [.str, .int .u8] := by kernel_rfl
@[simp] theorem ze255 : zeroT Tryz.prog 255 = some [.d (.s (.string ByteArray.empty)), .d (.s (.int .u8 0))] := by kernel_rfl
@[simp] theorem fi255_0 : fieldT Tryz.prog 255 0 = some (0, 1, false) := by kernel_rfl
@[simp] theorem fi255_1 : fieldT Tryz.prog 255 1 = some (1, 1, false) := by kernel_rfl
@[simp] theorem pl255 : placesT Tryz.prog 255 = some [(0, 1), (1, 1)] := by kernel_rfl
@[simp] theorem sz256 : szOf Tryz.prog 256 = some 2 := by kernel_rfl
@[simp] theorem ag256 : aggT Tryz.prog 256 = some true := by kernel_rfl
@[simp] theorem un256 : unitT Tryz.prog 256 = some 2 := by kernel_rfl
theorem kd256 : kindT Tryz.prog 12 256 = some [.str, .int .u8] := by kernel_rfl
@[simp] theorem ze256 : zeroT Tryz.prog 256 = some [.d (.s (.string ByteArray.empty)), .d (.s (.int .u8 0))] := by kernel_rfl
@[simp] theorem fi256_0 : fieldT Tryz.prog 256 0 = some (0, 1, false) := by kernel_rfl
@[simp] theorem fi256_1 : fieldT Tryz.prog 256 1 = some (1, 1, false) := by kernel_rfl
@[simp] theorem pl256 : placesT Tryz.prog 256 = some [(0, 1), (1, 1)] := by kernel_rfl
@[simp] theorem sz257 : szOf Tryz.prog 257 = some 1 := by kernel_rfl
@[simp] theorem ag257 : aggT Tryz.prog 257 = some true := by kernel_rfl
@[simp] theorem un257 : unitT Tryz.prog 257 = some 1 := by kernel_rfl
theorem kd257 : kindT Tryz.prog 12 257 = some [.str] := by kernel_rfl
theorem eqk257 : eqT Tryz.prog 8 257 = some (true, [.str]) := by kernel_rfl
theorem eqg257 : (Tryz.prog).eqGuardType (Tryz.prog).depth 257 = false := by kernel_rfl
@[simp] theorem neqA257 (a0 b0 : ByteArray) (K : Value → Prop) : aggBin Tryz.prog .neq 257 [.d (.s (.string a0))] [.d (.s (.string b0))] K = K (.bool (!(eqVs [.string a0] [.string b0]))) := agg_neq (xs := [.string a0]) (ys := [.string b0]) eqk257 (by decide) eqg257 rfl rfl K
@[simp] theorem eqlA257 (a0 b0 : ByteArray) (K : Value → Prop) : aggBin Tryz.prog .eql 257 [.d (.s (.string a0))] [.d (.s (.string b0))] K = K (.bool ((eqVs [.string a0] [.string b0]))) := agg_eql (xs := [.string a0]) (ys := [.string b0]) eqk257 (by decide) eqg257 rfl rfl K
@[simp] theorem ze257 : zeroT Tryz.prog 257 = some [.d (.s (.string ByteArray.empty))] := by kernel_rfl
@[simp] theorem fi257_0 : fieldT Tryz.prog 257 0 = some (0, 1, false) := by kernel_rfl
@[simp] theorem pl257 : placesT Tryz.prog 257 = some [(0, 1)] := by kernel_rfl
@[simp] theorem sz258 : szOf Tryz.prog 258 = some 1 := by kernel_rfl
@[simp] theorem ag258 : aggT Tryz.prog 258 = some true := by kernel_rfl
@[simp] theorem un258 : unitT Tryz.prog 258 = some 1 := by kernel_rfl
theorem kd258 : kindT Tryz.prog 12 258 = some [.str] := by kernel_rfl
theorem eqk258 : eqT Tryz.prog 8 258 = some (true, [.str]) := by kernel_rfl
theorem eqg258 : (Tryz.prog).eqGuardType (Tryz.prog).depth 258 = false := by kernel_rfl
@[simp] theorem neqA258 (a0 b0 : ByteArray) (K : Value → Prop) : aggBin Tryz.prog .neq 258 [.d (.s (.string a0))] [.d (.s (.string b0))] K = K (.bool (!(eqVs [.string a0] [.string b0]))) := agg_neq (xs := [.string a0]) (ys := [.string b0]) eqk258 (by decide) eqg258 rfl rfl K
@[simp] theorem eqlA258 (a0 b0 : ByteArray) (K : Value → Prop) : aggBin Tryz.prog .eql 258 [.d (.s (.string a0))] [.d (.s (.string b0))] K = K (.bool ((eqVs [.string a0] [.string b0]))) := agg_eql (xs := [.string a0]) (ys := [.string b0]) eqk258 (by decide) eqg258 rfl rfl K
@[simp] theorem ze258 : zeroT Tryz.prog 258 = some [.d (.s (.string ByteArray.empty))] := by kernel_rfl
@[simp] theorem fi258_0 : fieldT Tryz.prog 258 0 = some (0, 1, false) := by kernel_rfl
@[simp] theorem pl258 : placesT Tryz.prog 258 = some [(0, 1)] := by kernel_rfl
@[simp] theorem sz259 : szOf Tryz.prog 259 = some 1 := by kernel_rfl
@[simp] theorem ag259 : aggT Tryz.prog 259 = some false := by kernel_rfl
@[simp] theorem un259 : unitT Tryz.prog 259 = some 1 := by kernel_rfl
@[simp] theorem ze259 : zeroT Tryz.prog 259 = some [.d (.s (.pointer none))] := by kernel_rfl
@[simp] theorem sz260 : szOf Tryz.prog 260 = some 14 := by kernel_rfl
@[simp] theorem ag260 : aggT Tryz.prog 260 = some true := by kernel_rfl
@[simp] theorem un260 : unitT Tryz.prog 260 = some 14 := by kernel_rfl
theorem kd260 : kindT Tryz.prog 12 260 = some [.int .i64, .int .i64, .int .i64, .int .i64, .int .i64, .int .i64, .int .i64, .int .i64, .int .i64, .int .i64, .int .i64, .int .i64, .int .i64, .int .i64] := by kernel_rfl
theorem eqk260 : eqT Tryz.prog 8 260 = some (true, [.int .i64, .int .i64, .int .i64, .int .i64, .int .i64, .int .i64, .int .i64, .int .i64, .int .i64, .int .i64, .int .i64, .int .i64, .int .i64, .int .i64]) := by kernel_rfl
theorem eqg260 : (Tryz.prog).eqGuardType (Tryz.prog).depth 260 = false := by kernel_rfl
@[simp] theorem neqA260 (a0 b0 : Int) (a1 b1 : Int) (a2 b2 : Int) (a3 b3 : Int) (a4 b4 : Int) (a5 b5 : Int) (a6 b6 : Int) (a7 b7 : Int) (a8 b8 : Int) (a9 b9 : Int) (a10 b10 : Int) (a11 b11 : Int) (a12 b12 : Int) (a13 b13 : Int) (K : Value → Prop) : aggBin Tryz.prog .neq 260 [.d (.s (.int .i64 a0)), .d (.s (.int .i64 a1)), .d (.s (.int .i64 a2)), .d (.s (.int .i64 a3)), .d (.s (.int .i64 a4)), .d (.s (.int .i64 a5)), .d (.s (.int .i64 a6)), .d (.s (.int .i64 a7)), .d (.s (.int .i64 a8)), .d (.s (.int .i64 a9)), .d (.s (.int .i64 a10)), .d (.s (.int .i64 a11)), .d (.s (.int .i64 a12)), .d (.s (.int .i64 a13))] [.d (.s (.int .i64 b0)), .d (.s (.int .i64 b1)), .d (.s (.int .i64 b2)), .d (.s (.int .i64 b3)), .d (.s (.int .i64 b4)), .d (.s (.int .i64 b5)), .d (.s (.int .i64 b6)), .d (.s (.int .i64 b7)), .d (.s (.int .i64 b8)), .d (.s (.int .i64 b9)), .d (.s (.int .i64 b10)), .d (.s (.int .i64 b11)), .d (.s (.int .i64 b12)), .d (.s (.int .i64 b13))] K = K (.bool (!(eqVs [.int .i64 a0, .int .i64 a1, .int .i64 a2, .int .i64 a3, .int .i64 a4, .int .i64 a5, .int .i64 a6, .int .i64 a7, .int .i64 a8, .int .i64 a9, .int .i64 a10, .int .i64 a11, .int .i64 a12, .int .i64 a13] [.int .i64 b0, .int .i64 b1, .int .i64 b2, .int .i64 b3, .int .i64 b4, .int .i64 b5, .int .i64 b6, .int .i64 b7, .int .i64 b8, .int .i64 b9, .int .i64 b10, .int .i64 b11, .int .i64 b12, .int .i64 b13]))) := agg_neq (xs := [.int .i64 a0, .int .i64 a1, .int .i64 a2, .int .i64 a3, .int .i64 a4, .int .i64 a5, .int .i64 a6, .int .i64 a7, .int .i64 a8, .int .i64 a9, .int .i64 a10, .int .i64 a11, .int .i64 a12, .int .i64 a13]) (ys := [.int .i64 b0, .int .i64 b1, .int .i64 b2, .int .i64 b3, .int .i64 b4, .int .i64 b5, .int .i64 b6, .int .i64 b7, .int .i64 b8, .int .i64 b9, .int .i64 b10, .int .i64 b11, .int .i64 b12, .int .i64 b13]) eqk260 (by decide) eqg260 rfl rfl K
@[simp] theorem eqlA260 (a0 b0 : Int) (a1 b1 : Int) (a2 b2 : Int) (a3 b3 : Int) (a4 b4 : Int) (a5 b5 : Int) (a6 b6 : Int) (a7 b7 : Int) (a8 b8 : Int) (a9 b9 : Int) (a10 b10 : Int) (a11 b11 : Int) (a12 b12 : Int) (a13 b13 : Int) (K : Value → Prop) : aggBin Tryz.prog .eql 260 [.d (.s (.int .i64 a0)), .d (.s (.int .i64 a1)), .d (.s (.int .i64 a2)), .d (.s (.int .i64 a3)), .d (.s (.int .i64 a4)), .d (.s (.int .i64 a5)), .d (.s (.int .i64 a6)), .d (.s (.int .i64 a7)), .d (.s (.int .i64 a8)), .d (.s (.int .i64 a9)), .d (.s (.int .i64 a10)), .d (.s (.int .i64 a11)), .d (.s (.int .i64 a12)), .d (.s (.int .i64 a13))] [.d (.s (.int .i64 b0)), .d (.s (.int .i64 b1)), .d (.s (.int .i64 b2)), .d (.s (.int .i64 b3)), .d (.s (.int .i64 b4)), .d (.s (.int .i64 b5)), .d (.s (.int .i64 b6)), .d (.s (.int .i64 b7)), .d (.s (.int .i64 b8)), .d (.s (.int .i64 b9)), .d (.s (.int .i64 b10)), .d (.s (.int .i64 b11)), .d (.s (.int .i64 b12)), .d (.s (.int .i64 b13))] K = K (.bool ((eqVs [.int .i64 a0, .int .i64 a1, .int .i64 a2, .int .i64 a3, .int .i64 a4, .int .i64 a5, .int .i64 a6, .int .i64 a7, .int .i64 a8, .int .i64 a9, .int .i64 a10, .int .i64 a11, .int .i64 a12, .int .i64 a13] [.int .i64 b0, .int .i64 b1, .int .i64 b2, .int .i64 b3, .int .i64 b4, .int .i64 b5, .int .i64 b6, .int .i64 b7, .int .i64 b8, .int .i64 b9, .int .i64 b10, .int .i64 b11, .int .i64 b12, .int .i64 b13]))) := agg_eql (xs := [.int .i64 a0, .int .i64 a1, .int .i64 a2, .int .i64 a3, .int .i64 a4, .int .i64 a5, .int .i64 a6, .int .i64 a7, .int .i64 a8, .int .i64 a9, .int .i64 a10, .int .i64 a11, .int .i64 a12, .int .i64 a13]) (ys := [.int .i64 b0, .int .i64 b1, .int .i64 b2, .int .i64 b3, .int .i64 b4, .int .i64 b5, .int .i64 b6, .int .i64 b7, .int .i64 b8, .int .i64 b9, .int .i64 b10, .int .i64 b11, .int .i64 b12, .int .i64 b13]) eqk260 (by decide) eqg260 rfl rfl K
@[simp] theorem ze260 : zeroT Tryz.prog 260 = some [.d (.s (.int .i64 0)), .d (.s (.int .i64 0)), .d (.s (.int .i64 0)), .d (.s (.int .i64 0)), .d (.s (.int .i64 0)), .d (.s (.int .i64 0)), .d (.s (.int .i64 0)), .d (.s (.int .i64 0)), .d (.s (.int .i64 0)), .d (.s (.int .i64 0)), .d (.s (.int .i64 0)), .d (.s (.int .i64 0)), .d (.s (.int .i64 0)), .d (.s (.int .i64 0))] := by kernel_rfl
@[simp] theorem fi260_0 : fieldT Tryz.prog 260 0 = some (0, 1, false) := by kernel_rfl
@[simp] theorem fi260_1 : fieldT Tryz.prog 260 1 = some (1, 10, true) := by kernel_rfl
@[simp] theorem fi260_2 : fieldT Tryz.prog 260 2 = some (11, 1, false) := by kernel_rfl
@[simp] theorem fi260_3 : fieldT Tryz.prog 260 3 = some (12, 1, false) := by kernel_rfl
@[simp] theorem fi260_4 : fieldT Tryz.prog 260 4 = some (13, 1, false) := by kernel_rfl
@[simp] theorem pl260 : placesT Tryz.prog 260 = some [(0, 1), (1, 10), (11, 1), (12, 1), (13, 1)] := by kernel_rfl
@[simp] theorem sz261 : szOf Tryz.prog 261 = some 14 := by kernel_rfl
@[simp] theorem ag261 : aggT Tryz.prog 261 = some true := by kernel_rfl
@[simp] theorem un261 : unitT Tryz.prog 261 = some 14 := by kernel_rfl
theorem kd261 : kindT Tryz.prog 12 261 = some [.int .i64, .int .i64, .int .i64, .int .i64, .int .i64, .int .i64, .int .i64, .int .i64, .int .i64, .int .i64, .int .i64, .int .i64, .int .i64, .int .i64] := by kernel_rfl
theorem eqk261 : eqT Tryz.prog 8 261 = some (true, [.int .i64, .int .i64, .int .i64, .int .i64, .int .i64, .int .i64, .int .i64, .int .i64, .int .i64, .int .i64, .int .i64, .int .i64, .int .i64, .int .i64]) := by kernel_rfl
theorem eqg261 : (Tryz.prog).eqGuardType (Tryz.prog).depth 261 = false := by kernel_rfl
@[simp] theorem neqA261 (a0 b0 : Int) (a1 b1 : Int) (a2 b2 : Int) (a3 b3 : Int) (a4 b4 : Int) (a5 b5 : Int) (a6 b6 : Int) (a7 b7 : Int) (a8 b8 : Int) (a9 b9 : Int) (a10 b10 : Int) (a11 b11 : Int) (a12 b12 : Int) (a13 b13 : Int) (K : Value → Prop) : aggBin Tryz.prog .neq 261 [.d (.s (.int .i64 a0)), .d (.s (.int .i64 a1)), .d (.s (.int .i64 a2)), .d (.s (.int .i64 a3)), .d (.s (.int .i64 a4)), .d (.s (.int .i64 a5)), .d (.s (.int .i64 a6)), .d (.s (.int .i64 a7)), .d (.s (.int .i64 a8)), .d (.s (.int .i64 a9)), .d (.s (.int .i64 a10)), .d (.s (.int .i64 a11)), .d (.s (.int .i64 a12)), .d (.s (.int .i64 a13))] [.d (.s (.int .i64 b0)), .d (.s (.int .i64 b1)), .d (.s (.int .i64 b2)), .d (.s (.int .i64 b3)), .d (.s (.int .i64 b4)), .d (.s (.int .i64 b5)), .d (.s (.int .i64 b6)), .d (.s (.int .i64 b7)), .d (.s (.int .i64 b8)), .d (.s (.int .i64 b9)), .d (.s (.int .i64 b10)), .d (.s (.int .i64 b11)), .d (.s (.int .i64 b12)), .d (.s (.int .i64 b13))] K = K (.bool (!(eqVs [.int .i64 a0, .int .i64 a1, .int .i64 a2, .int .i64 a3, .int .i64 a4, .int .i64 a5, .int .i64 a6, .int .i64 a7, .int .i64 a8, .int .i64 a9, .int .i64 a10, .int .i64 a11, .int .i64 a12, .int .i64 a13] [.int .i64 b0, .int .i64 b1, .int .i64 b2, .int .i64 b3, .int .i64 b4, .int .i64 b5, .int .i64 b6, .int .i64 b7, .int .i64 b8, .int .i64 b9, .int .i64 b10, .int .i64 b11, .int .i64 b12, .int .i64 b13]))) := agg_neq (xs := [.int .i64 a0, .int .i64 a1, .int .i64 a2, .int .i64 a3, .int .i64 a4, .int .i64 a5, .int .i64 a6, .int .i64 a7, .int .i64 a8, .int .i64 a9, .int .i64 a10, .int .i64 a11, .int .i64 a12, .int .i64 a13]) (ys := [.int .i64 b0, .int .i64 b1, .int .i64 b2, .int .i64 b3, .int .i64 b4, .int .i64 b5, .int .i64 b6, .int .i64 b7, .int .i64 b8, .int .i64 b9, .int .i64 b10, .int .i64 b11, .int .i64 b12, .int .i64 b13]) eqk261 (by decide) eqg261 rfl rfl K
@[simp] theorem eqlA261 (a0 b0 : Int) (a1 b1 : Int) (a2 b2 : Int) (a3 b3 : Int) (a4 b4 : Int) (a5 b5 : Int) (a6 b6 : Int) (a7 b7 : Int) (a8 b8 : Int) (a9 b9 : Int) (a10 b10 : Int) (a11 b11 : Int) (a12 b12 : Int) (a13 b13 : Int) (K : Value → Prop) : aggBin Tryz.prog .eql 261 [.d (.s (.int .i64 a0)), .d (.s (.int .i64 a1)), .d (.s (.int .i64 a2)), .d (.s (.int .i64 a3)), .d (.s (.int .i64 a4)), .d (.s (.int .i64 a5)), .d (.s (.int .i64 a6)), .d (.s (.int .i64 a7)), .d (.s (.int .i64 a8)), .d (.s (.int .i64 a9)), .d (.s (.int .i64 a10)), .d (.s (.int .i64 a11)), .d (.s (.int .i64 a12)), .d (.s (.int .i64 a13))] [.d (.s (.int .i64 b0)), .d (.s (.int .i64 b1)), .d (.s (.int .i64 b2)), .d (.s (.int .i64 b3)), .d (.s (.int .i64 b4)), .d (.s (.int .i64 b5)), .d (.s (.int .i64 b6)), .d (.s (.int .i64 b7)), .d (.s (.int .i64 b8)), .d (.s (.int .i64 b9)), .d (.s (.int .i64 b10)), .d (.s (.int .i64 b11)), .d (.s (.int .i64 b12)), .d (.s (.int .i64 b13))] K = K (.bool ((eqVs [.int .i64 a0, .int .i64 a1, .int .i64 a2, .int .i64 a3, .int .i64 a4, .int .i64 a5, .int .i64 a6, .int .i64 a7, .int .i64 a8, .int .i64 a9, .int .i64 a10, .int .i64 a11, .int .i64 a12, .int .i64 a13] [.int .i64 b0, .int .i64 b1, .int .i64 b2, .int .i64 b3, .int .i64 b4, .int .i64 b5, .int .i64 b6, .int .i64 b7, .int .i64 b8, .int .i64 b9, .int .i64 b10, .int .i64 b11, .int .i64 b12, .int .i64 b13]))) := agg_eql (xs := [.int .i64 a0, .int .i64 a1, .int .i64 a2, .int .i64 a3, .int .i64 a4, .int .i64 a5, .int .i64 a6, .int .i64 a7, .int .i64 a8, .int .i64 a9, .int .i64 a10, .int .i64 a11, .int .i64 a12, .int .i64 a13]) (ys := [.int .i64 b0, .int .i64 b1, .int .i64 b2, .int .i64 b3, .int .i64 b4, .int .i64 b5, .int .i64 b6, .int .i64 b7, .int .i64 b8, .int .i64 b9, .int .i64 b10, .int .i64 b11, .int .i64 b12, .int .i64 b13]) eqk261 (by decide) eqg261 rfl rfl K
@[simp] theorem ze261 : zeroT Tryz.prog 261 = some [.d (.s (.int .i64 0)), .d (.s (.int .i64 0)), .d (.s (.int .i64 0)), .d (.s (.int .i64 0)), .d (.s (.int .i64 0)), .d (.s (.int .i64 0)), .d (.s (.int .i64 0)), .d (.s (.int .i64 0)), .d (.s (.int .i64 0)), .d (.s (.int .i64 0)), .d (.s (.int .i64 0)), .d (.s (.int .i64 0)), .d (.s (.int .i64 0)), .d (.s (.int .i64 0))] := by kernel_rfl
@[simp] theorem fi261_0 : fieldT Tryz.prog 261 0 = some (0, 1, false) := by kernel_rfl
@[simp] theorem fi261_1 : fieldT Tryz.prog 261 1 = some (1, 10, true) := by kernel_rfl
@[simp] theorem fi261_2 : fieldT Tryz.prog 261 2 = some (11, 1, false) := by kernel_rfl
@[simp] theorem fi261_3 : fieldT Tryz.prog 261 3 = some (12, 1, false) := by kernel_rfl
@[simp] theorem fi261_4 : fieldT Tryz.prog 261 4 = some (13, 1, false) := by kernel_rfl
@[simp] theorem pl261 : placesT Tryz.prog 261 = some [(0, 1), (1, 10), (11, 1), (12, 1), (13, 1)] := by kernel_rfl
@[simp] theorem sz262 : szOf Tryz.prog 262 = some 1 := by kernel_rfl
@[simp] theorem ag262 : aggT Tryz.prog 262 = some false := by kernel_rfl
@[simp] theorem un262 : unitT Tryz.prog 262 = some 1 := by kernel_rfl
@[simp] theorem ze262 : zeroT Tryz.prog 262 = some [.d (.s (.pointer none))] := by kernel_rfl
@[simp] theorem sz263 : szOf Tryz.prog 263 = some 1 := by kernel_rfl
@[simp] theorem ag263 : aggT Tryz.prog 263 = some false := by kernel_rfl
@[simp] theorem un263 : unitT Tryz.prog 263 = some 1 := by kernel_rfl
@[simp] theorem ze263 : zeroT Tryz.prog 263 = some [.d (.s .nilFunc)] := by kernel_rfl
@[simp] theorem sz264 : szOf Tryz.prog 264 = some 1 := by kernel_rfl
@[simp] theorem ag264 : aggT Tryz.prog 264 = some false := by kernel_rfl
@[simp] theorem un264 : unitT Tryz.prog 264 = some 1 := by kernel_rfl
theorem kd264 : kindT Tryz.prog 12 264 = some [.int .u16] := by kernel_rfl
@[simp] theorem ze264 : zeroT Tryz.prog 264 = some [.d (.s (.int .u16 0))] := by kernel_rfl
@[simp] theorem sz265 : szOf Tryz.prog 265 = some 5 := by kernel_rfl
@[simp] theorem ag265 : aggT Tryz.prog 265 = some true := by kernel_rfl
@[simp] theorem un265 : unitT Tryz.prog 265 = some 5 := by kernel_rfl
theorem kd265 : kindT Tryz.prog 12 265 = some [.int .i32, .int .u16, .int .u16, .int .u32, .int .u32] := by kernel_rfl
@[simp] theorem ze265 : zeroT Tryz.prog 265 = some [.d (.s (.int .i32 0)), .d (.s (.int .u16 0)), .d (.s (.int .u16 0)), .d (.s (.int .u32 0)), .d (.s (.int .u32 0))] := by kernel_rfl
@[simp] theorem fi265_0 : fieldT Tryz.prog 265 0 = some (0, 1, false) := by kernel_rfl
@[simp] theorem fi265_1 : fieldT Tryz.prog 265 1 = some (1, 1, false) := by kernel_rfl
@[simp] theorem fi265_2 : fieldT Tryz.prog 265 2 = some (2, 1, false) := by kernel_rfl
@[simp] theorem fi265_3 : fieldT Tryz.prog 265 3 = some (3, 1, false) := by kernel_rfl
@[simp] theorem fi265_4 : fieldT Tryz.prog 265 4 = some (4, 1, false) := by kernel_rfl
@[simp] theorem pl265 : placesT Tryz.prog 265 = some [(0, 1), (1, 1), (2, 1), (3, 1), (4, 1)] := by kernel_rfl
@[simp] theorem sz266 : szOf Tryz.prog 266 = some 5 := by kernel_rfl
@[simp] theorem ag266 : aggT Tryz.prog 266 = some true := by kernel_rfl
@[simp] theorem un266 : unitT Tryz.prog 266 = some 5 := by kernel_rfl
theorem kd266 : kindT Tryz.prog 12 266 = some [.int .i32, .int .u16, .int .u16, .int .u32, .int .u32] := by kernel_rfl
@[simp] theorem ze266 : zeroT Tryz.prog 266 = some [.d (.s (.int .i32 0)), .d (.s (.int .u16 0)), .d (.s (.int .u16 0)), .d (.s (.int .u32 0)), .d (.s (.int .u32 0))] := by kernel_rfl
@[simp] theorem fi266_0 : fieldT Tryz.prog 266 0 = some (0, 1, false) := by kernel_rfl
@[simp] theorem fi266_1 : fieldT Tryz.prog 266 1 = some (1, 1, false) := by kernel_rfl
@[simp] theorem fi266_2 : fieldT Tryz.prog 266 2 = some (2, 1, false) := by kernel_rfl
@[simp] theorem fi266_3 : fieldT Tryz.prog 266 3 = some (3, 1, false) := by kernel_rfl
@[simp] theorem fi266_4 : fieldT Tryz.prog 266 4 = some (4, 1, false) := by kernel_rfl
@[simp] theorem pl266 : placesT Tryz.prog 266 = some [(0, 1), (1, 1), (2, 1), (3, 1), (4, 1)] := by kernel_rfl
@[simp] theorem sz267 : szOf Tryz.prog 267 = some 1 := by kernel_rfl
@[simp] theorem ag267 : aggT Tryz.prog 267 = some false := by kernel_rfl
@[simp] theorem un267 : unitT Tryz.prog 267 = some 1 := by kernel_rfl
theorem kd267 : kindT Tryz.prog 12 267 = some [.slice [.int .i32, .int .i32, .int .i32, .int .i32]] := by kernel_rfl
@[simp] theorem sl267 : sliceT Tryz.prog 267 = some (270, 4, 16) := by kernel_rfl
@[simp] theorem ze267 : zeroT Tryz.prog 267 = some [.d .nil] := by kernel_rfl
@[simp] theorem sz268 : szOf Tryz.prog 268 = some 1 := by kernel_rfl
@[simp] theorem ag268 : aggT Tryz.prog 268 = some false := by kernel_rfl
@[simp] theorem un268 : unitT Tryz.prog 268 = some 1 := by kernel_rfl
theorem kd268 : kindT Tryz.prog 12 268 = some [.int .i32] := by kernel_rfl
@[simp] theorem ze268 : zeroT Tryz.prog 268 = some [.d (.s (.int .i32 0))] := by kernel_rfl
@[simp] theorem sz269 : szOf Tryz.prog 269 = some 4 := by kernel_rfl
@[simp] theorem ag269 : aggT Tryz.prog 269 = some true := by kernel_rfl
@[simp] theorem un269 : unitT Tryz.prog 269 = some 4 := by kernel_rfl
theorem kd269 : kindT Tryz.prog 12 269 = some [.int .i32, .int .i32, .int .i32, .int .i32] := by kernel_rfl
@[simp] theorem ze269 : zeroT Tryz.prog 269 = some [.d (.s (.int .i32 0)), .d (.s (.int .i32 0)), .d (.s (.int .i32 0)), .d (.s (.int .i32 0))] := by kernel_rfl
@[simp] theorem fi269_0 : fieldT Tryz.prog 269 0 = some (0, 1, false) := by kernel_rfl
@[simp] theorem fi269_1 : fieldT Tryz.prog 269 1 = some (1, 1, false) := by kernel_rfl
@[simp] theorem fi269_2 : fieldT Tryz.prog 269 2 = some (2, 1, false) := by kernel_rfl
@[simp] theorem fi269_3 : fieldT Tryz.prog 269 3 = some (3, 1, false) := by kernel_rfl
@[simp] theorem pl269 : placesT Tryz.prog 269 = some [(0, 1), (1, 1), (2, 1), (3, 1)] := by kernel_rfl
@[simp] theorem sz270 : szOf Tryz.prog 270 = some 4 := by kernel_rfl
@[simp] theorem ag270 : aggT Tryz.prog 270 = some true := by kernel_rfl
@[simp] theorem un270 : unitT Tryz.prog 270 = some 4 := by kernel_rfl
theorem kd270 : kindT Tryz.prog 12 270 = some [.int .i32, .int .i32, .int .i32, .int .i32] := by kernel_rfl
@[simp] theorem ze270 : zeroT Tryz.prog 270 = some [.d (.s (.int .i32 0)), .d (.s (.int .i32 0)), .d (.s (.int .i32 0)), .d (.s (.int .i32 0))] := by kernel_rfl
@[simp] theorem fi270_0 : fieldT Tryz.prog 270 0 = some (0, 1, false) := by kernel_rfl
@[simp] theorem fi270_1 : fieldT Tryz.prog 270 1 = some (1, 1, false) := by kernel_rfl
@[simp] theorem fi270_2 : fieldT Tryz.prog 270 2 = some (2, 1, false) := by kernel_rfl
@[simp] theorem fi270_3 : fieldT Tryz.prog 270 3 = some (3, 1, false) := by kernel_rfl
@[simp] theorem pl270 : placesT Tryz.prog 270 = some [(0, 1), (1, 1), (2, 1), (3, 1)] := by kernel_rfl
@[simp] theorem sz271 : szOf Tryz.prog 271 = some 1 := by kernel_rfl
@[simp] theorem ag271 : aggT Tryz.prog 271 = some false := by kernel_rfl
@[simp] theorem un271 : unitT Tryz.prog 271 = some 1 := by kernel_rfl
@[simp] theorem ze271 : zeroT Tryz.prog 271 = some [.d (.s .nilFunc)] := by kernel_rfl
@[simp] theorem ca2 : callable Tryz.prog 2 = true := by kernel_rfl
@[simp] theorem ca3 : callable Tryz.prog 3 = true := by kernel_rfl
@[simp] theorem ca4 : callable Tryz.prog 4 = true := by kernel_rfl
@[simp] theorem ca5 : callable Tryz.prog 5 = true := by kernel_rfl
@[simp] theorem ca6 : callable Tryz.prog 6 = true := by kernel_rfl
@[simp] theorem ca7 : callable Tryz.prog 7 = true := by kernel_rfl
@[simp] theorem ca8 : callable Tryz.prog 8 = true := by kernel_rfl
@[simp] theorem ca9 : callable Tryz.prog 9 = true := by kernel_rfl
@[simp] theorem ca10 : callable Tryz.prog 10 = true := by kernel_rfl
@[simp] theorem ca11 : callable Tryz.prog 11 = true := by kernel_rfl
@[simp] theorem ca12 : callable Tryz.prog 12 = true := by kernel_rfl
@[simp] theorem ca13 : callable Tryz.prog 13 = true := by kernel_rfl
@[simp] theorem ca14 : callable Tryz.prog 14 = true := by kernel_rfl
@[simp] theorem ca15 : callable Tryz.prog 15 = true := by kernel_rfl
@[simp] theorem ca16 : callable Tryz.prog 16 = true := by kernel_rfl
@[simp] theorem ca17 : callable Tryz.prog 17 = true := by kernel_rfl
@[simp] theorem ca18 : callable Tryz.prog 18 = true := by kernel_rfl
@[simp] theorem ca19 : callable Tryz.prog 19 = true := by kernel_rfl
@[simp] theorem ca20 : callable Tryz.prog 20 = true := by kernel_rfl
@[simp] theorem ca21 : callable Tryz.prog 21 = true := by kernel_rfl
@[simp] theorem ca22 : callable Tryz.prog 22 = true := by kernel_rfl
@[simp] theorem ca23 : callable Tryz.prog 23 = true := by kernel_rfl
@[simp] theorem ca24 : callable Tryz.prog 24 = true := by kernel_rfl
@[simp] theorem ca25 : callable Tryz.prog 25 = true := by kernel_rfl
@[simp] theorem ca26 : callable Tryz.prog 26 = true := by kernel_rfl
@[simp] theorem ca27 : callable Tryz.prog 27 = true := by kernel_rfl
@[simp] theorem ca28 : callable Tryz.prog 28 = true := by kernel_rfl
@[simp] theorem ca29 : callable Tryz.prog 29 = true := by kernel_rfl
@[simp] theorem ca30 : callable Tryz.prog 30 = true := by kernel_rfl
@[simp] theorem ca31 : callable Tryz.prog 31 = true := by kernel_rfl
@[simp] theorem ca32 : callable Tryz.prog 32 = true := by kernel_rfl
@[simp] theorem ca33 : callable Tryz.prog 33 = true := by kernel_rfl
@[simp] theorem ca34 : callable Tryz.prog 34 = true := by kernel_rfl
@[simp] theorem ca35 : callable Tryz.prog 35 = true := by kernel_rfl
@[simp] theorem ca36 : callable Tryz.prog 36 = true := by kernel_rfl
@[simp] theorem ca37 : callable Tryz.prog 37 = true := by kernel_rfl
@[simp] theorem ca38 : callable Tryz.prog 38 = true := by kernel_rfl
@[simp] theorem ca39 : callable Tryz.prog 39 = true := by kernel_rfl
@[simp] theorem ca40 : callable Tryz.prog 40 = true := by kernel_rfl
@[simp] theorem ca41 : callable Tryz.prog 41 = true := by kernel_rfl
@[simp] theorem ca42 : callable Tryz.prog 42 = true := by kernel_rfl
@[simp] theorem ca43 : callable Tryz.prog 43 = true := by kernel_rfl
@[simp] theorem ca44 : callable Tryz.prog 44 = true := by kernel_rfl
@[simp] theorem ca45 : callable Tryz.prog 45 = true := by kernel_rfl
@[simp] theorem ca46 : callable Tryz.prog 46 = true := by kernel_rfl
@[simp] theorem ca47 : callable Tryz.prog 47 = true := by kernel_rfl
@[simp] theorem ca48 : callable Tryz.prog 48 = true := by kernel_rfl
@[simp] theorem ca49 : callable Tryz.prog 49 = true := by kernel_rfl
@[simp] theorem ca50 : callable Tryz.prog 50 = true := by kernel_rfl
@[simp] theorem ca51 : callable Tryz.prog 51 = true := by kernel_rfl
@[simp] theorem ca52 : callable Tryz.prog 52 = true := by kernel_rfl
@[simp] theorem ca53 : callable Tryz.prog 53 = true := by kernel_rfl
@[simp] theorem ca54 : callable Tryz.prog 54 = true := by kernel_rfl
@[simp] theorem ca55 : callable Tryz.prog 55 = true := by kernel_rfl
@[simp] theorem ca56 : callable Tryz.prog 56 = true := by kernel_rfl
@[simp] theorem ca57 : callable Tryz.prog 57 = true := by kernel_rfl
@[simp] theorem ca58 : callable Tryz.prog 58 = true := by kernel_rfl
@[simp] theorem ca59 : callable Tryz.prog 59 = true := by kernel_rfl
@[simp] theorem ca60 : callable Tryz.prog 60 = true := by kernel_rfl
@[simp] theorem ca61 : callable Tryz.prog 61 = true := by kernel_rfl
@[simp] theorem ca62 : callable Tryz.prog 62 = true := by kernel_rfl
@[simp] theorem ca63 : callable Tryz.prog 63 = true := by kernel_rfl
@[simp] theorem ca64 : callable Tryz.prog 64 = true := by kernel_rfl
@[simp] theorem ca65 : callable Tryz.prog 65 = true := by kernel_rfl
@[simp] theorem ca66 : callable Tryz.prog 66 = true := by kernel_rfl
@[simp] theorem ca67 : callable Tryz.prog 67 = true := by kernel_rfl
@[simp] theorem ca68 : callable Tryz.prog 68 = true := by kernel_rfl
@[simp] theorem ca69 : callable Tryz.prog 69 = true := by kernel_rfl
@[simp] theorem ca70 : callable Tryz.prog 70 = true := by kernel_rfl
@[simp] theorem ca71 : callable Tryz.prog 71 = true := by kernel_rfl
@[simp] theorem ca72 : callable Tryz.prog 72 = true := by kernel_rfl
@[simp] theorem ca73 : callable Tryz.prog 73 = true := by kernel_rfl
@[simp] theorem ca74 : callable Tryz.prog 74 = true := by kernel_rfl
@[simp] theorem ca75 : callable Tryz.prog 75 = true := by kernel_rfl
@[simp] theorem ca76 : callable Tryz.prog 76 = true := by kernel_rfl
@[simp] theorem ca77 : callable Tryz.prog 77 = true := by kernel_rfl
@[simp] theorem ca78 : callable Tryz.prog 78 = true := by kernel_rfl
@[simp] theorem ca79 : callable Tryz.prog 79 = true := by kernel_rfl
@[simp] theorem ca80 : callable Tryz.prog 80 = true := by kernel_rfl
@[simp] theorem ca81 : callable Tryz.prog 81 = true := by kernel_rfl
@[simp] theorem ca82 : callable Tryz.prog 82 = true := by kernel_rfl
@[simp] theorem ca83 : callable Tryz.prog 83 = true := by kernel_rfl
@[simp] theorem ca84 : callable Tryz.prog 84 = true := by kernel_rfl
@[simp] theorem ca85 : callable Tryz.prog 85 = true := by kernel_rfl
@[simp] theorem ca86 : callable Tryz.prog 86 = true := by kernel_rfl
@[simp] theorem ca87 : callable Tryz.prog 87 = true := by kernel_rfl
@[simp] theorem ca88 : callable Tryz.prog 88 = true := by kernel_rfl
@[simp] theorem ca89 : callable Tryz.prog 89 = true := by kernel_rfl
@[simp] theorem ca90 : callable Tryz.prog 90 = true := by kernel_rfl
@[simp] theorem ca91 : callable Tryz.prog 91 = true := by kernel_rfl
@[simp] theorem ca92 : callable Tryz.prog 92 = true := by kernel_rfl
@[simp] theorem ca93 : callable Tryz.prog 93 = true := by kernel_rfl
@[simp] theorem ca94 : callable Tryz.prog 94 = true := by kernel_rfl
@[simp] theorem ca95 : callable Tryz.prog 95 = true := by kernel_rfl
@[simp] theorem ca96 : callable Tryz.prog 96 = true := by kernel_rfl
@[simp] theorem ca97 : callable Tryz.prog 97 = true := by kernel_rfl
@[simp] theorem ca98 : callable Tryz.prog 98 = true := by kernel_rfl
@[simp] theorem ca99 : callable Tryz.prog 99 = true := by kernel_rfl
@[simp] theorem ca100 : callable Tryz.prog 100 = true := by kernel_rfl
@[simp] theorem ca101 : callable Tryz.prog 101 = true := by kernel_rfl
@[simp] theorem ca102 : callable Tryz.prog 102 = true := by kernel_rfl
@[simp] theorem ca103 : callable Tryz.prog 103 = true := by kernel_rfl
@[simp] theorem ca104 : callable Tryz.prog 104 = true := by kernel_rfl
@[simp] theorem ca105 : callable Tryz.prog 105 = true := by kernel_rfl
@[simp] theorem ca106 : callable Tryz.prog 106 = true := by kernel_rfl
@[simp] theorem ca107 : callable Tryz.prog 107 = true := by kernel_rfl
@[simp] theorem ca108 : callable Tryz.prog 108 = true := by kernel_rfl
@[simp] theorem ca109 : callable Tryz.prog 109 = true := by kernel_rfl
@[simp] theorem ca110 : callable Tryz.prog 110 = true := by kernel_rfl
@[simp] theorem ca111 : callable Tryz.prog 111 = true := by kernel_rfl
@[simp] theorem ca112 : callable Tryz.prog 112 = true := by kernel_rfl
@[simp] theorem ca113 : callable Tryz.prog 113 = true := by kernel_rfl
@[simp] theorem ca114 : callable Tryz.prog 114 = true := by kernel_rfl
@[simp] theorem ca115 : callable Tryz.prog 115 = true := by kernel_rfl
@[simp] theorem ca116 : callable Tryz.prog 116 = true := by kernel_rfl
@[simp] theorem ca117 : callable Tryz.prog 117 = true := by kernel_rfl
@[simp] theorem ca118 : callable Tryz.prog 118 = true := by kernel_rfl
@[simp] theorem ca119 : callable Tryz.prog 119 = true := by kernel_rfl
@[simp] theorem ca120 : callable Tryz.prog 120 = true := by kernel_rfl
@[simp] theorem ca121 : callable Tryz.prog 121 = true := by kernel_rfl
@[simp] theorem ca122 : callable Tryz.prog 122 = true := by kernel_rfl
@[simp] theorem ca123 : callable Tryz.prog 123 = true := by kernel_rfl
@[simp] theorem ca125 : callable Tryz.prog 125 = true := by kernel_rfl
@[simp] theorem ca126 : callable Tryz.prog 126 = true := by kernel_rfl
@[simp] theorem ca127 : callable Tryz.prog 127 = true := by kernel_rfl
@[simp] theorem ca128 : callable Tryz.prog 128 = true := by kernel_rfl
@[simp] theorem ca129 : callable Tryz.prog 129 = true := by kernel_rfl
@[simp] theorem ca130 : callable Tryz.prog 130 = true := by kernel_rfl
@[simp] theorem ca131 : callable Tryz.prog 131 = true := by kernel_rfl
@[simp] theorem ca132 : callable Tryz.prog 132 = true := by kernel_rfl
@[simp] theorem ca133 : callable Tryz.prog 133 = true := by kernel_rfl
@[simp] theorem ca134 : callable Tryz.prog 134 = true := by kernel_rfl
@[simp] theorem ca135 : callable Tryz.prog 135 = true := by kernel_rfl
@[simp] theorem ca136 : callable Tryz.prog 136 = true := by kernel_rfl
@[simp] theorem ca137 : callable Tryz.prog 137 = true := by kernel_rfl
@[simp] theorem ca138 : callable Tryz.prog 138 = true := by kernel_rfl
@[simp] theorem ca139 : callable Tryz.prog 139 = true := by kernel_rfl
@[simp] theorem ca140 : callable Tryz.prog 140 = true := by kernel_rfl
@[simp] theorem ca141 : callable Tryz.prog 141 = true := by kernel_rfl
@[simp] theorem ca142 : callable Tryz.prog 142 = true := by kernel_rfl
@[simp] theorem ca143 : callable Tryz.prog 143 = true := by kernel_rfl
@[simp] theorem ca144 : callable Tryz.prog 144 = true := by kernel_rfl
@[simp] theorem ca145 : callable Tryz.prog 145 = true := by kernel_rfl
@[simp] theorem ca146 : callable Tryz.prog 146 = true := by kernel_rfl
@[simp] theorem ca147 : callable Tryz.prog 147 = true := by kernel_rfl
@[simp] theorem ca148 : callable Tryz.prog 148 = true := by kernel_rfl
@[simp] theorem ca149 : callable Tryz.prog 149 = true := by kernel_rfl
@[simp] theorem ca150 : callable Tryz.prog 150 = true := by kernel_rfl
@[simp] theorem ca151 : callable Tryz.prog 151 = true := by kernel_rfl
@[simp] theorem ca167 : callable Tryz.prog 167 = true := by kernel_rfl
@[simp] theorem ca168 : callable Tryz.prog 168 = true := by kernel_rfl
@[simp] theorem ca169 : callable Tryz.prog 169 = true := by kernel_rfl
@[simp] theorem ca186 : callable Tryz.prog 186 = true := by kernel_rfl
@[simp] theorem ca194 : callable Tryz.prog 194 = true := by kernel_rfl
@[simp] theorem glob2 : globT 2 = some [.err 2] := rfl
@[simp] theorem glob1 : globT 1 = some [.err 1] := rfl
@[simp] theorem glob3 : globT 3 = some [.err 3] := rfl
@[simp] theorem glob4 : globT 4 = some [.err 4] := rfl
theorem mixed : Tryz.prog.follows .mixedOrders = true := by kernel_rfl
end Go.Proofs.YtledabakodggcaaGreatDoor
