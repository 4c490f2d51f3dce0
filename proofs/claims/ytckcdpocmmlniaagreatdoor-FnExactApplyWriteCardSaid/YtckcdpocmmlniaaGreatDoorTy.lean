/- Closed facts on the types and functions of the translation. -/
import Derived.Test.YtckcdpocmmlniaaGreatDoorProg
import Derived.KernelRfl
import Derived.Test.YtckcdpocmmlniaaGreatDoorK4
namespace Go.Proofs.YtckcdpocmmlniaaGreatDoor
open Go Go.Abs Go.Proofs
@[simp] theorem sz0 : szOf Tryz.prog 0 = some 1 := by kernel_rfl
@[simp] theorem ag0 : aggT Tryz.prog 0 = some false := by kernel_rfl
@[simp] theorem un0 : unitT Tryz.prog 0 = some 1 := by kernel_rfl
@[simp] theorem sz1 : szOf Tryz.prog 1 = some 1 := by kernel_rfl
@[simp] theorem ag1 : aggT Tryz.prog 1 = some false := by kernel_rfl
@[simp] theorem un1 : unitT Tryz.prog 1 = some 1 := by kernel_rfl
@[simp] theorem ze1 : zeroT Tryz.prog 1 = some [.d (.s .nilFunc)] := by kernel_rfl
@[simp] theorem sz2 : szOf Tryz.prog 2 = some 1 := by kernel_rfl
@[simp] theorem ag2 : aggT Tryz.prog 2 = some false := by kernel_rfl
@[simp] theorem un2 : unitT Tryz.prog 2 = some 1 := by kernel_rfl
theorem kd2 : kindT Tryz.prog 12 2 = some [.int .i64] := by kernel_rfl
@[simp] theorem ze2 : zeroT Tryz.prog 2 = some [.d (.s (.int .i64 0))] := by kernel_rfl
@[simp] theorem sz3 : szOf Tryz.prog 3 = some 1 := by kernel_rfl
@[simp] theorem ag3 : aggT Tryz.prog 3 = some false := by kernel_rfl
@[simp] theorem un3 : unitT Tryz.prog 3 = some 1 := by kernel_rfl
theorem kd3 : kindT Tryz.prog 12 3 = some [.int .i64] := by kernel_rfl
@[simp] theorem ze3 : zeroT Tryz.prog 3 = some [.d (.s (.int .i64 0))] := by kernel_rfl
@[simp] theorem sz4 : szOf Tryz.prog 4 = some 1 := by kernel_rfl
@[simp] theorem ag4 : aggT Tryz.prog 4 = some false := by kernel_rfl
@[simp] theorem un4 : unitT Tryz.prog 4 = some 1 := by kernel_rfl
theorem kd4 : kindT Tryz.prog 12 4 = some [.bool] := by kernel_rfl
@[simp] theorem ze4 : zeroT Tryz.prog 4 = some [.d (.s (.bool false))] := by kernel_rfl
@[simp] theorem sz5 : szOf Tryz.prog 5 = some 1 := by kernel_rfl
@[simp] theorem ag5 : aggT Tryz.prog 5 = some false := by kernel_rfl
@[simp] theorem un5 : unitT Tryz.prog 5 = some 1 := by kernel_rfl
theorem kd5 : kindT Tryz.prog 12 5 = some [.int .u8] := by kernel_rfl
@[simp] theorem ze5 : zeroT Tryz.prog 5 = some [.d (.s (.int .u8 0))] := by kernel_rfl
@[simp] theorem sz6 : szOf Tryz.prog 6 = some 1 := by kernel_rfl
@[simp] theorem ag6 : aggT Tryz.prog 6 = some false := by kernel_rfl
@[simp] theorem un6 : unitT Tryz.prog 6 = some 1 := by kernel_rfl
theorem kd6 : kindT Tryz.prog 12 6 = some [.int .u8] := by kernel_rfl
@[simp] theorem ze6 : zeroT Tryz.prog 6 = some [.d (.s (.int .u8 0))] := by kernel_rfl
@[simp] theorem sz7 : szOf Tryz.prog 7 = some 4 := by kernel_rfl
@[simp] theorem ag7 : aggT Tryz.prog 7 = some true := by kernel_rfl
@[simp] theorem un7 : unitT Tryz.prog 7 = some 4 := by kernel_rfl
theorem kd7 : kindT Tryz.prog 12 7 = some [.int .i64, .int .i64, .bool, .int .u8] := by kernel_rfl
theorem eqk7 : eqT Tryz.prog 8 7 = some (true, [.int .i64, .int .i64, .bool, .int .u8]) := by kernel_rfl
theorem eqg7 : (Tryz.prog).eqGuardType (Tryz.prog).depth 7 = false := by kernel_rfl
@[simp] theorem neqA7 (a0 b0 : Int) (a1 b1 : Int) (a2 b2 : Bool) (a3 b3 : Int) (K : Value → Prop) : aggBin Tryz.prog .neq 7 [.d (.s (.int .i64 a0)), .d (.s (.int .i64 a1)), .d (.s (.bool a2)), .d (.s (.int .u8 a3))] [.d (.s (.int .i64 b0)), .d (.s (.int .i64 b1)), .d (.s (.bool b2)), .d (.s (.int .u8 b3))] K = K (.bool (!(eqVs [.int .i64 a0, .int .i64 a1, .bool a2, .int .u8 a3] [.int .i64 b0, .int .i64 b1, .bool b2, .int .u8 b3]))) := agg_neq (xs := [.int .i64 a0, .int .i64 a1, .bool a2, .int .u8 a3]) (ys := [.int .i64 b0, .int .i64 b1, .bool b2, .int .u8 b3]) eqk7 (by decide) eqg7 rfl rfl K
@[simp] theorem eqlA7 (a0 b0 : Int) (a1 b1 : Int) (a2 b2 : Bool) (a3 b3 : Int) (K : Value → Prop) : aggBin Tryz.prog .eql 7 [.d (.s (.int .i64 a0)), .d (.s (.int .i64 a1)), .d (.s (.bool a2)), .d (.s (.int .u8 a3))] [.d (.s (.int .i64 b0)), .d (.s (.int .i64 b1)), .d (.s (.bool b2)), .d (.s (.int .u8 b3))] K = K (.bool ((eqVs [.int .i64 a0, .int .i64 a1, .bool a2, .int .u8 a3] [.int .i64 b0, .int .i64 b1, .bool b2, .int .u8 b3]))) := agg_eql (xs := [.int .i64 a0, .int .i64 a1, .bool a2, .int .u8 a3]) (ys := [.int .i64 b0, .int .i64 b1, .bool b2, .int .u8 b3]) eqk7 (by decide) eqg7 rfl rfl K
@[simp] theorem ze7 : zeroT Tryz.prog 7 = some [.d (.s (.int .i64 0)), .d (.s (.int .i64 0)), .d (.s (.bool false)), .d (.s (.int .u8 0))] := by kernel_rfl
@[simp] theorem fi7_0 : fieldT Tryz.prog 7 0 = some (0, 1, false) := by kernel_rfl
@[simp] theorem fi7_1 : fieldT Tryz.prog 7 1 = some (1, 1, false) := by kernel_rfl
@[simp] theorem fi7_2 : fieldT Tryz.prog 7 2 = some (2, 1, false) := by kernel_rfl
@[simp] theorem fi7_3 : fieldT Tryz.prog 7 3 = some (3, 1, false) := by kernel_rfl
@[simp] theorem pl7 : placesT Tryz.prog 7 = some [(0, 1), (1, 1), (2, 1), (3, 1)] := by kernel_rfl
@[simp] theorem sz8 : szOf Tryz.prog 8 = some 4 := by kernel_rfl
@[simp] theorem ag8 : aggT Tryz.prog 8 = some true := by kernel_rfl
@[simp] theorem un8 : unitT Tryz.prog 8 = some 4 := by kernel_rfl
theorem kd8 : kindT Tryz.prog 12 8 = some [.int .i64, .int .i64, .bool, .int .u8] := by kernel_rfl
theorem eqk8 : eqT Tryz.prog 8 8 = some (true, [.int .i64, .int .i64, .bool, .int .u8]) := by kernel_rfl
theorem eqg8 : (Tryz.prog).eqGuardType (Tryz.prog).depth 8 = false := by kernel_rfl
@[simp] theorem neqA8 (a0 b0 : Int) (a1 b1 : Int) (a2 b2 : Bool) (a3 b3 : Int) (K : Value → Prop) : aggBin Tryz.prog .neq 8 [.d (.s (.int .i64 a0)), .d (.s (.int .i64 a1)), .d (.s (.bool a2)), .d (.s (.int .u8 a3))] [.d (.s (.int .i64 b0)), .d (.s (.int .i64 b1)), .d (.s (.bool b2)), .d (.s (.int .u8 b3))] K = K (.bool (!(eqVs [.int .i64 a0, .int .i64 a1, .bool a2, .int .u8 a3] [.int .i64 b0, .int .i64 b1, .bool b2, .int .u8 b3]))) := agg_neq (xs := [.int .i64 a0, .int .i64 a1, .bool a2, .int .u8 a3]) (ys := [.int .i64 b0, .int .i64 b1, .bool b2, .int .u8 b3]) eqk8 (by decide) eqg8 rfl rfl K
@[simp] theorem eqlA8 (a0 b0 : Int) (a1 b1 : Int) (a2 b2 : Bool) (a3 b3 : Int) (K : Value → Prop) : aggBin Tryz.prog .eql 8 [.d (.s (.int .i64 a0)), .d (.s (.int .i64 a1)), .d (.s (.bool a2)), .d (.s (.int .u8 a3))] [.d (.s (.int .i64 b0)), .d (.s (.int .i64 b1)), .d (.s (.bool b2)), .d (.s (.int .u8 b3))] K = K (.bool ((eqVs [.int .i64 a0, .int .i64 a1, .bool a2, .int .u8 a3] [.int .i64 b0, .int .i64 b1, .bool b2, .int .u8 b3]))) := agg_eql (xs := [.int .i64 a0, .int .i64 a1, .bool a2, .int .u8 a3]) (ys := [.int .i64 b0, .int .i64 b1, .bool b2, .int .u8 b3]) eqk8 (by decide) eqg8 rfl rfl K
@[simp] theorem ze8 : zeroT Tryz.prog 8 = some [.d (.s (.int .i64 0)), .d (.s (.int .i64 0)), .d (.s (.bool false)), .d (.s (.int .u8 0))] := by kernel_rfl
@[simp] theorem fi8_0 : fieldT Tryz.prog 8 0 = some (0, 1, false) := by kernel_rfl
@[simp] theorem fi8_1 : fieldT Tryz.prog 8 1 = some (1, 1, false) := by kernel_rfl
@[simp] theorem fi8_2 : fieldT Tryz.prog 8 2 = some (2, 1, false) := by kernel_rfl
@[simp] theorem fi8_3 : fieldT Tryz.prog 8 3 = some (3, 1, false) := by kernel_rfl
@[simp] theorem pl8 : placesT Tryz.prog 8 = some [(0, 1), (1, 1), (2, 1), (3, 1)] := by kernel_rfl
@[simp] theorem sz9 : szOf Tryz.prog 9 = some 1 := by kernel_rfl
@[simp] theorem ag9 : aggT Tryz.prog 9 = some false := by kernel_rfl
@[simp] theorem un9 : unitT Tryz.prog 9 = some 1 := by kernel_rfl
theorem kd9 : kindT Tryz.prog 12 9 = some [.str] := by kernel_rfl
@[simp] theorem ze9 : zeroT Tryz.prog 9 = some [.d (.s (.string ByteArray.empty))] := by kernel_rfl
@[simp] theorem sz10 : szOf Tryz.prog 10 = some 1 := by kernel_rfl
@[simp] theorem ag10 : aggT Tryz.prog 10 = some false := by kernel_rfl
@[simp] theorem un10 : unitT Tryz.prog 10 = some 1 := by kernel_rfl
theorem kd10 : kindT Tryz.prog 12 10 = some [.str] := by kernel_rfl
@[simp] theorem ze10 : zeroT Tryz.prog 10 = some [.d (.s (.string ByteArray.empty))] := by kernel_rfl
@[simp] theorem sz11 : szOf Tryz.prog 11 = some 1 := by kernel_rfl
@[simp] theorem ag11 : aggT Tryz.prog 11 = some false := by kernel_rfl
@[simp] theorem un11 : unitT Tryz.prog 11 = some 1 := by kernel_rfl
theorem kd11 : kindT Tryz.prog 12 11 = some [.str] := by kernel_rfl
@[simp] theorem ze11 : zeroT Tryz.prog 11 = some [.d (.s (.string ByteArray.empty))] := by kernel_rfl
@[simp] theorem sz12 : szOf Tryz.prog 12 = some 1 := by kernel_rfl
@[simp] theorem ag12 : aggT Tryz.prog 12 = some false := by kernel_rfl
@[simp] theorem un12 : unitT Tryz.prog 12 = some 1 := by kernel_rfl
theorem kd12 : kindT Tryz.prog 12 12 = some [.int .u64] := by kernel_rfl
@[simp] theorem ze12 : zeroT Tryz.prog 12 = some [.d (.s (.int .u64 0))] := by kernel_rfl
@[simp] theorem sz13 : szOf Tryz.prog 13 = some 2 := by kernel_rfl
@[simp] theorem ag13 : aggT Tryz.prog 13 = some true := by kernel_rfl
@[simp] theorem un13 : unitT Tryz.prog 13 = some 2 := by kernel_rfl
theorem kd13 : kindT Tryz.prog 12 13 = some [.str, .int .u64] := by kernel_rfl
@[simp] theorem ze13 : zeroT Tryz.prog 13 = some [.d (.s (.string ByteArray.empty)), .d (.s (.int .u64 0))] := by kernel_rfl
@[simp] theorem fi13_0 : fieldT Tryz.prog 13 0 = some (0, 1, false) := by kernel_rfl
@[simp] theorem fi13_1 : fieldT Tryz.prog 13 1 = some (1, 1, false) := by kernel_rfl
@[simp] theorem pl13 : placesT Tryz.prog 13 = some [(0, 1), (1, 1)] := by kernel_rfl
@[simp] theorem sz14 : szOf Tryz.prog 14 = some 2 := by kernel_rfl
@[simp] theorem ag14 : aggT Tryz.prog 14 = some true := by kernel_rfl
@[simp] theorem un14 : unitT Tryz.prog 14 = some 2 := by kernel_rfl
theorem kd14 : kindT Tryz.prog 12 14 = some [.str, .int .u64] := by kernel_rfl
@[simp] theorem ze14 : zeroT Tryz.prog 14 = some [.d (.s (.string ByteArray.empty)), .d (.s (.int .u64 0))] := by kernel_rfl
@[simp] theorem fi14_0 : fieldT Tryz.prog 14 0 = some (0, 1, false) := by kernel_rfl
@[simp] theorem fi14_1 : fieldT Tryz.prog 14 1 = some (1, 1, false) := by kernel_rfl
@[simp] theorem pl14 : placesT Tryz.prog 14 = some [(0, 1), (1, 1)] := by kernel_rfl
@[simp] theorem sz15 : szOf Tryz.prog 15 = some 1 := by kernel_rfl
@[simp] theorem ag15 : aggT Tryz.prog 15 = some false := by kernel_rfl
@[simp] theorem un15 : unitT Tryz.prog 15 = some 1 := by kernel_rfl
@[simp] theorem ze15 : zeroT Tryz.prog 15 = some [.d (.s (.pointer none))] := by kernel_rfl
@[simp] theorem sz16 : szOf Tryz.prog 16 = some 1 := by kernel_rfl
@[simp] theorem ag16 : aggT Tryz.prog 16 = some false := by kernel_rfl
@[simp] theorem un16 : unitT Tryz.prog 16 = some 1 := by kernel_rfl
@[simp] theorem ze16 : zeroT Tryz.prog 16 = some [.d (.s (.pointer none))] := by kernel_rfl
@[simp] theorem sz17 : szOf Tryz.prog 17 = some 1 := by kernel_rfl
@[simp] theorem ag17 : aggT Tryz.prog 17 = some false := by kernel_rfl
@[simp] theorem un17 : unitT Tryz.prog 17 = some 1 := by kernel_rfl
@[simp] theorem ze17 : zeroT Tryz.prog 17 = some [.d (.s (.pointer none))] := by kernel_rfl
@[simp] theorem sz18 : szOf Tryz.prog 18 = some 1 := by kernel_rfl
@[simp] theorem ag18 : aggT Tryz.prog 18 = some true := by kernel_rfl
@[simp] theorem un18 : unitT Tryz.prog 18 = some 1 := by kernel_rfl
@[simp] theorem ze18 : zeroT Tryz.prog 18 = some [.d (.s (.pointer none))] := by kernel_rfl
@[simp] theorem fi18_0 : fieldT Tryz.prog 18 0 = some (0, 1, false) := by kernel_rfl
@[simp] theorem pl18 : placesT Tryz.prog 18 = some [(0, 1)] := by kernel_rfl
@[simp] theorem sz19 : szOf Tryz.prog 19 = some 1 := by kernel_rfl
@[simp] theorem ag19 : aggT Tryz.prog 19 = some true := by kernel_rfl
@[simp] theorem un19 : unitT Tryz.prog 19 = some 1 := by kernel_rfl
@[simp] theorem ze19 : zeroT Tryz.prog 19 = some [.d (.s (.pointer none))] := by kernel_rfl
@[simp] theorem fi19_0 : fieldT Tryz.prog 19 0 = some (0, 1, false) := by kernel_rfl
@[simp] theorem pl19 : placesT Tryz.prog 19 = some [(0, 1)] := by kernel_rfl
@[simp] theorem sz20 : szOf Tryz.prog 20 = some 1 := by kernel_rfl
@[simp] theorem ag20 : aggT Tryz.prog 20 = some false := by kernel_rfl
@[simp] theorem un20 : unitT Tryz.prog 20 = some 1 := by kernel_rfl
@[simp] theorem ze20 : zeroT Tryz.prog 20 = some [.d (.s .nilIface)] := by kernel_rfl
@[simp] theorem sz21 : szOf Tryz.prog 21 = some 1 := by kernel_rfl
@[simp] theorem ag21 : aggT Tryz.prog 21 = some false := by kernel_rfl
@[simp] theorem un21 : unitT Tryz.prog 21 = some 1 := by kernel_rfl
theorem kd21 : kindT Tryz.prog 12 21 = some [.int .i32] := by kernel_rfl
@[simp] theorem ze21 : zeroT Tryz.prog 21 = some [.d (.s (.int .i32 0))] := by kernel_rfl
@[simp] theorem sz22 : szOf Tryz.prog 22 = some 1 := by kernel_rfl
@[simp] theorem ag22 : aggT Tryz.prog 22 = some false := by kernel_rfl
@[simp] theorem un22 : unitT Tryz.prog 22 = some 1 := by kernel_rfl
theorem kd22 : kindT Tryz.prog 12 22 = some [.slice [.int .u8]] := by kernel_rfl
@[simp] theorem sl22 : sliceT Tryz.prog 22 = some (5, 1, 1) := by kernel_rfl
@[simp] theorem ze22 : zeroT Tryz.prog 22 = some [.d .nil] := by kernel_rfl
@[simp] theorem sz23 : szOf Tryz.prog 23 = some 1 := by kernel_rfl
@[simp] theorem ag23 : aggT Tryz.prog 23 = some false := by kernel_rfl
@[simp] theorem un23 : unitT Tryz.prog 23 = some 1 := by kernel_rfl
@[simp] theorem ze23 : zeroT Tryz.prog 23 = some [.d (.s .nilFunc)] := by kernel_rfl
@[simp] theorem sz24 : szOf Tryz.prog 24 = some 1 := by kernel_rfl
@[simp] theorem ag24 : aggT Tryz.prog 24 = some false := by kernel_rfl
@[simp] theorem un24 : unitT Tryz.prog 24 = some 1 := by kernel_rfl
theorem kd24 : kindT Tryz.prog 12 24 = some [.slice [.int .i64, .int .i64, .int .i64, .int .i64, .int .i64, .int .i64, .int .i64]] := by kernel_rfl
@[simp] theorem sl24 : sliceT Tryz.prog 24 = some (29, 7, 56) := by kernel_rfl
@[simp] theorem ze24 : zeroT Tryz.prog 24 = some [.d .nil] := by kernel_rfl
@[simp] theorem sz25 : szOf Tryz.prog 25 = some 1 := by kernel_rfl
@[simp] theorem ag25 : aggT Tryz.prog 25 = some false := by kernel_rfl
@[simp] theorem un25 : unitT Tryz.prog 25 = some 1 := by kernel_rfl
theorem kd25 : kindT Tryz.prog 12 25 = some [.slice [.int .i64, .bool, .int .i64, .int .i64, .int .i64, .int .i64, .int .i64, .int .i64, .int .i64]] := by kernel_rfl
@[simp] theorem sl25 : sliceT Tryz.prog 25 = some (118, 9, 72) := by kernel_rfl
@[simp] theorem ze25 : zeroT Tryz.prog 25 = some [.d .nil] := by kernel_rfl
@[simp] theorem sz26 : szOf Tryz.prog 26 = some 3 := by kernel_rfl
@[simp] theorem ag26 : aggT Tryz.prog 26 = some true := by kernel_rfl
@[simp] theorem un26 : unitT Tryz.prog 26 = some 3 := by kernel_rfl
theorem kd26 : kindT Tryz.prog 12 26 = some [.int .i64, .slice [.int .i64, .int .i64, .int .i64, .int .i64, .int .i64, .int .i64, .int .i64], .slice [.int .i64, .bool, .int .i64, .int .i64, .int .i64, .int .i64, .int .i64, .int .i64, .int .i64]] := by kernel_rfl
@[simp] theorem ze26 : zeroT Tryz.prog 26 = some [.d (.s (.int .i64 0)), .d .nil, .d .nil] := by kernel_rfl
@[simp] theorem fi26_0 : fieldT Tryz.prog 26 0 = some (0, 1, false) := by kernel_rfl
@[simp] theorem fi26_1 : fieldT Tryz.prog 26 1 = some (1, 1, false) := by kernel_rfl
@[simp] theorem fi26_2 : fieldT Tryz.prog 26 2 = some (2, 1, false) := by kernel_rfl
@[simp] theorem pl26 : placesT Tryz.prog 26 = some [(0, 1), (1, 1), (2, 1)] := by kernel_rfl
@[simp] theorem sz27 : szOf Tryz.prog 27 = some 3 := by kernel_rfl
@[simp] theorem ag27 : aggT Tryz.prog 27 = some true := by kernel_rfl
@[simp] theorem un27 : unitT Tryz.prog 27 = some 3 := by kernel_rfl
theorem kd27 : kindT Tryz.prog 12 27 = some [.int .i64, .slice [.int .i64, .int .i64, .int .i64, .int .i64, .int .i64, .int .i64, .int .i64], .slice [.int .i64, .bool, .int .i64, .int .i64, .int .i64, .int .i64, .int .i64, .int .i64, .int .i64]] := by kernel_rfl
@[simp] theorem ze27 : zeroT Tryz.prog 27 = some [.d (.s (.int .i64 0)), .d .nil, .d .nil] := by kernel_rfl
@[simp] theorem fi27_0 : fieldT Tryz.prog 27 0 = some (0, 1, false) := by kernel_rfl
@[simp] theorem fi27_1 : fieldT Tryz.prog 27 1 = some (1, 1, false) := by kernel_rfl
@[simp] theorem fi27_2 : fieldT Tryz.prog 27 2 = some (2, 1, false) := by kernel_rfl
@[simp] theorem pl27 : placesT Tryz.prog 27 = some [(0, 1), (1, 1), (2, 1)] := by kernel_rfl
@[simp] theorem sz28 : szOf Tryz.prog 28 = some 7 := by kernel_rfl
@[simp] theorem ag28 : aggT Tryz.prog 28 = some true := by kernel_rfl
@[simp] theorem un28 : unitT Tryz.prog 28 = some 7 := by kernel_rfl
theorem kd28 : kindT Tryz.prog 12 28 = some [.int .i64, .int .i64, .int .i64, .int .i64, .int .i64, .int .i64, .int .i64] := by kernel_rfl
theorem eqk28 : eqT Tryz.prog 8 28 = some (true, [.int .i64, .int .i64, .int .i64, .int .i64, .int .i64, .int .i64, .int .i64]) := by kernel_rfl
theorem eqg28 : (Tryz.prog).eqGuardType (Tryz.prog).depth 28 = false := by kernel_rfl
@[simp] theorem neqA28 (a0 b0 : Int) (a1 b1 : Int) (a2 b2 : Int) (a3 b3 : Int) (a4 b4 : Int) (a5 b5 : Int) (a6 b6 : Int) (K : Value → Prop) : aggBin Tryz.prog .neq 28 [.d (.s (.int .i64 a0)), .d (.s (.int .i64 a1)), .d (.s (.int .i64 a2)), .d (.s (.int .i64 a3)), .d (.s (.int .i64 a4)), .d (.s (.int .i64 a5)), .d (.s (.int .i64 a6))] [.d (.s (.int .i64 b0)), .d (.s (.int .i64 b1)), .d (.s (.int .i64 b2)), .d (.s (.int .i64 b3)), .d (.s (.int .i64 b4)), .d (.s (.int .i64 b5)), .d (.s (.int .i64 b6))] K = K (.bool (!(eqVs [.int .i64 a0, .int .i64 a1, .int .i64 a2, .int .i64 a3, .int .i64 a4, .int .i64 a5, .int .i64 a6] [.int .i64 b0, .int .i64 b1, .int .i64 b2, .int .i64 b3, .int .i64 b4, .int .i64 b5, .int .i64 b6]))) := agg_neq (xs := [.int .i64 a0, .int .i64 a1, .int .i64 a2, .int .i64 a3, .int .i64 a4, .int .i64 a5, .int .i64 a6]) (ys := [.int .i64 b0, .int .i64 b1, .int .i64 b2, .int .i64 b3, .int .i64 b4, .int .i64 b5, .int .i64 b6]) eqk28 (by decide) eqg28 rfl rfl K
@[simp] theorem eqlA28 (a0 b0 : Int) (a1 b1 : Int) (a2 b2 : Int) (a3 b3 : Int) (a4 b4 : Int) (a5 b5 : Int) (a6 b6 : Int) (K : Value → Prop) : aggBin Tryz.prog .eql 28 [.d (.s (.int .i64 a0)), .d (.s (.int .i64 a1)), .d (.s (.int .i64 a2)), .d (.s (.int .i64 a3)), .d (.s (.int .i64 a4)), .d (.s (.int .i64 a5)), .d (.s (.int .i64 a6))] [.d (.s (.int .i64 b0)), .d (.s (.int .i64 b1)), .d (.s (.int .i64 b2)), .d (.s (.int .i64 b3)), .d (.s (.int .i64 b4)), .d (.s (.int .i64 b5)), .d (.s (.int .i64 b6))] K = K (.bool ((eqVs [.int .i64 a0, .int .i64 a1, .int .i64 a2, .int .i64 a3, .int .i64 a4, .int .i64 a5, .int .i64 a6] [.int .i64 b0, .int .i64 b1, .int .i64 b2, .int .i64 b3, .int .i64 b4, .int .i64 b5, .int .i64 b6]))) := agg_eql (xs := [.int .i64 a0, .int .i64 a1, .int .i64 a2, .int .i64 a3, .int .i64 a4, .int .i64 a5, .int .i64 a6]) (ys := [.int .i64 b0, .int .i64 b1, .int .i64 b2, .int .i64 b3, .int .i64 b4, .int .i64 b5, .int .i64 b6]) eqk28 (by decide) eqg28 rfl rfl K
@[simp] theorem ze28 : zeroT Tryz.prog 28 = some [.d (.s (.int .i64 0)), .d (.s (.int .i64 0)), .d (.s (.int .i64 0)), .d (.s (.int .i64 0)), .d (.s (.int .i64 0)), .d (.s (.int .i64 0)), .d (.s (.int .i64 0))] := by kernel_rfl
@[simp] theorem fi28_0 : fieldT Tryz.prog 28 0 = some (0, 1, false) := by kernel_rfl
@[simp] theorem fi28_1 : fieldT Tryz.prog 28 1 = some (1, 1, false) := by kernel_rfl
@[simp] theorem fi28_2 : fieldT Tryz.prog 28 2 = some (2, 1, false) := by kernel_rfl
@[simp] theorem fi28_3 : fieldT Tryz.prog 28 3 = some (3, 1, false) := by kernel_rfl
@[simp] theorem fi28_4 : fieldT Tryz.prog 28 4 = some (4, 1, false) := by kernel_rfl
@[simp] theorem fi28_5 : fieldT Tryz.prog 28 5 = some (5, 1, false) := by kernel_rfl
@[simp] theorem fi28_6 : fieldT Tryz.prog 28 6 = some (6, 1, false) := by kernel_rfl
@[simp] theorem pl28 : placesT Tryz.prog 28 = some [(0, 1), (1, 1), (2, 1), (3, 1), (4, 1), (5, 1), (6, 1)] := by kernel_rfl
@[simp] theorem sz29 : szOf Tryz.prog 29 = some 7 := by kernel_rfl
@[simp] theorem ag29 : aggT Tryz.prog 29 = some true := by kernel_rfl
@[simp] theorem un29 : unitT Tryz.prog 29 = some 7 := by kernel_rfl
theorem kd29 : kindT Tryz.prog 12 29 = some [.int .i64, .int .i64, .int .i64, .int .i64, .int .i64, .int .i64, .int .i64] := by kernel_rfl
theorem eqk29 : eqT Tryz.prog 8 29 = some (true, [.int .i64, .int .i64, .int .i64, .int .i64, .int .i64, .int .i64, .int .i64]) := by kernel_rfl
theorem eqg29 : (Tryz.prog).eqGuardType (Tryz.prog).depth 29 = false := by kernel_rfl
@[simp] theorem neqA29 (a0 b0 : Int) (a1 b1 : Int) (a2 b2 : Int) (a3 b3 : Int) (a4 b4 : Int) (a5 b5 : Int) (a6 b6 : Int) (K : Value → Prop) : aggBin Tryz.prog .neq 29 [.d (.s (.int .i64 a0)), .d (.s (.int .i64 a1)), .d (.s (.int .i64 a2)), .d (.s (.int .i64 a3)), .d (.s (.int .i64 a4)), .d (.s (.int .i64 a5)), .d (.s (.int .i64 a6))] [.d (.s (.int .i64 b0)), .d (.s (.int .i64 b1)), .d (.s (.int .i64 b2)), .d (.s (.int .i64 b3)), .d (.s (.int .i64 b4)), .d (.s (.int .i64 b5)), .d (.s (.int .i64 b6))] K = K (.bool (!(eqVs [.int .i64 a0, .int .i64 a1, .int .i64 a2, .int .i64 a3, .int .i64 a4, .int .i64 a5, .int .i64 a6] [.int .i64 b0, .int .i64 b1, .int .i64 b2, .int .i64 b3, .int .i64 b4, .int .i64 b5, .int .i64 b6]))) := agg_neq (xs := [.int .i64 a0, .int .i64 a1, .int .i64 a2, .int .i64 a3, .int .i64 a4, .int .i64 a5, .int .i64 a6]) (ys := [.int .i64 b0, .int .i64 b1, .int .i64 b2, .int .i64 b3, .int .i64 b4, .int .i64 b5, .int .i64 b6]) eqk29 (by decide) eqg29 rfl rfl K
@[simp] theorem eqlA29 (a0 b0 : Int) (a1 b1 : Int) (a2 b2 : Int) (a3 b3 : Int) (a4 b4 : Int) (a5 b5 : Int) (a6 b6 : Int) (K : Value → Prop) : aggBin Tryz.prog .eql 29 [.d (.s (.int .i64 a0)), .d (.s (.int .i64 a1)), .d (.s (.int .i64 a2)), .d (.s (.int .i64 a3)), .d (.s (.int .i64 a4)), .d (.s (.int .i64 a5)), .d (.s (.int .i64 a6))] [.d (.s (.int .i64 b0)), .d (.s (.int .i64 b1)), .d (.s (.int .i64 b2)), .d (.s (.int .i64 b3)), .d (.s (.int .i64 b4)), .d (.s (.int .i64 b5)), .d (.s (.int .i64 b6))] K = K (.bool ((eqVs [.int .i64 a0, .int .i64 a1, .int .i64 a2, .int .i64 a3, .int .i64 a4, .int .i64 a5, .int .i64 a6] [.int .i64 b0, .int .i64 b1, .int .i64 b2, .int .i64 b3, .int .i64 b4, .int .i64 b5, .int .i64 b6]))) := agg_eql (xs := [.int .i64 a0, .int .i64 a1, .int .i64 a2, .int .i64 a3, .int .i64 a4, .int .i64 a5, .int .i64 a6]) (ys := [.int .i64 b0, .int .i64 b1, .int .i64 b2, .int .i64 b3, .int .i64 b4, .int .i64 b5, .int .i64 b6]) eqk29 (by decide) eqg29 rfl rfl K
@[simp] theorem ze29 : zeroT Tryz.prog 29 = some [.d (.s (.int .i64 0)), .d (.s (.int .i64 0)), .d (.s (.int .i64 0)), .d (.s (.int .i64 0)), .d (.s (.int .i64 0)), .d (.s (.int .i64 0)), .d (.s (.int .i64 0))] := by kernel_rfl
@[simp] theorem fi29_0 : fieldT Tryz.prog 29 0 = some (0, 1, false) := by kernel_rfl
@[simp] theorem fi29_1 : fieldT Tryz.prog 29 1 = some (1, 1, false) := by kernel_rfl
@[simp] theorem fi29_2 : fieldT Tryz.prog 29 2 = some (2, 1, false) := by kernel_rfl
@[simp] theorem fi29_3 : fieldT Tryz.prog 29 3 = some (3, 1, false) := by kernel_rfl
@[simp] theorem fi29_4 : fieldT Tryz.prog 29 4 = some (4, 1, false) := by kernel_rfl
@[simp] theorem fi29_5 : fieldT Tryz.prog 29 5 = some (5, 1, false) := by kernel_rfl
@[simp] theorem fi29_6 : fieldT Tryz.prog 29 6 = some (6, 1, false) := by kernel_rfl
@[simp] theorem pl29 : placesT Tryz.prog 29 = some [(0, 1), (1, 1), (2, 1), (3, 1), (4, 1), (5, 1), (6, 1)] := by kernel_rfl
@[simp] theorem sz30 : szOf Tryz.prog 30 = some 10 := by kernel_rfl
@[simp] theorem ag30 : aggT Tryz.prog 30 = some true := by kernel_rfl
@[simp] theorem un30 : unitT Tryz.prog 30 = some 10 := by kernel_rfl
theorem kd30 : kindT Tryz.prog 12 30 = some [.int .i64, .int .i64, .int .i64, .int .i64, .int .i64, .int .i64, .int .i64, .int .i64, .int .i64, .int .i64] := by kernel_rfl
theorem eqk30 : eqT Tryz.prog 8 30 = some (true, [.int .i64, .int .i64, .int .i64, .int .i64, .int .i64, .int .i64, .int .i64, .int .i64, .int .i64, .int .i64]) := by kernel_rfl
theorem eqg30 : (Tryz.prog).eqGuardType (Tryz.prog).depth 30 = false := by kernel_rfl
@[simp] theorem neqA30 (a0 b0 : Int) (a1 b1 : Int) (a2 b2 : Int) (a3 b3 : Int) (a4 b4 : Int) (a5 b5 : Int) (a6 b6 : Int) (a7 b7 : Int) (a8 b8 : Int) (a9 b9 : Int) (K : Value → Prop) : aggBin Tryz.prog .neq 30 [.d (.s (.int .i64 a0)), .d (.s (.int .i64 a1)), .d (.s (.int .i64 a2)), .d (.s (.int .i64 a3)), .d (.s (.int .i64 a4)), .d (.s (.int .i64 a5)), .d (.s (.int .i64 a6)), .d (.s (.int .i64 a7)), .d (.s (.int .i64 a8)), .d (.s (.int .i64 a9))] [.d (.s (.int .i64 b0)), .d (.s (.int .i64 b1)), .d (.s (.int .i64 b2)), .d (.s (.int .i64 b3)), .d (.s (.int .i64 b4)), .d (.s (.int .i64 b5)), .d (.s (.int .i64 b6)), .d (.s (.int .i64 b7)), .d (.s (.int .i64 b8)), .d (.s (.int .i64 b9))] K = K (.bool (!(eqVs [.int .i64 a0, .int .i64 a1, .int .i64 a2, .int .i64 a3, .int .i64 a4, .int .i64 a5, .int .i64 a6, .int .i64 a7, .int .i64 a8, .int .i64 a9] [.int .i64 b0, .int .i64 b1, .int .i64 b2, .int .i64 b3, .int .i64 b4, .int .i64 b5, .int .i64 b6, .int .i64 b7, .int .i64 b8, .int .i64 b9]))) := agg_neq (xs := [.int .i64 a0, .int .i64 a1, .int .i64 a2, .int .i64 a3, .int .i64 a4, .int .i64 a5, .int .i64 a6, .int .i64 a7, .int .i64 a8, .int .i64 a9]) (ys := [.int .i64 b0, .int .i64 b1, .int .i64 b2, .int .i64 b3, .int .i64 b4, .int .i64 b5, .int .i64 b6, .int .i64 b7, .int .i64 b8, .int .i64 b9]) eqk30 (by decide) eqg30 rfl rfl K
@[simp] theorem eqlA30 (a0 b0 : Int) (a1 b1 : Int) (a2 b2 : Int) (a3 b3 : Int) (a4 b4 : Int) (a5 b5 : Int) (a6 b6 : Int) (a7 b7 : Int) (a8 b8 : Int) (a9 b9 : Int) (K : Value → Prop) : aggBin Tryz.prog .eql 30 [.d (.s (.int .i64 a0)), .d (.s (.int .i64 a1)), .d (.s (.int .i64 a2)), .d (.s (.int .i64 a3)), .d (.s (.int .i64 a4)), .d (.s (.int .i64 a5)), .d (.s (.int .i64 a6)), .d (.s (.int .i64 a7)), .d (.s (.int .i64 a8)), .d (.s (.int .i64 a9))] [.d (.s (.int .i64 b0)), .d (.s (.int .i64 b1)), .d (.s (.int .i64 b2)), .d (.s (.int .i64 b3)), .d (.s (.int .i64 b4)), .d (.s (.int .i64 b5)), .d (.s (.int .i64 b6)), .d (.s (.int .i64 b7)), .d (.s (.int .i64 b8)), .d (.s (.int .i64 b9))] K = K (.bool ((eqVs [.int .i64 a0, .int .i64 a1, .int .i64 a2, .int .i64 a3, .int .i64 a4, .int .i64 a5, .int .i64 a6, .int .i64 a7, .int .i64 a8, .int .i64 a9] [.int .i64 b0, .int .i64 b1, .int .i64 b2, .int .i64 b3, .int .i64 b4, .int .i64 b5, .int .i64 b6, .int .i64 b7, .int .i64 b8, .int .i64 b9]))) := agg_eql (xs := [.int .i64 a0, .int .i64 a1, .int .i64 a2, .int .i64 a3, .int .i64 a4, .int .i64 a5, .int .i64 a6, .int .i64 a7, .int .i64 a8, .int .i64 a9]) (ys := [.int .i64 b0, .int .i64 b1, .int .i64 b2, .int .i64 b3, .int .i64 b4, .int .i64 b5, .int .i64 b6, .int .i64 b7, .int .i64 b8, .int .i64 b9]) eqk30 (by decide) eqg30 rfl rfl K
@[simp] theorem ze30 : zeroT Tryz.prog 30 = some [.d (.s (.int .i64 0)), .d (.s (.int .i64 0)), .d (.s (.int .i64 0)), .d (.s (.int .i64 0)), .d (.s (.int .i64 0)), .d (.s (.int .i64 0)), .d (.s (.int .i64 0)), .d (.s (.int .i64 0)), .d (.s (.int .i64 0)), .d (.s (.int .i64 0))] := by kernel_rfl
@[simp] theorem fi30_0 : fieldT Tryz.prog 30 0 = some (0, 1, false) := by kernel_rfl
@[simp] theorem fi30_1 : fieldT Tryz.prog 30 1 = some (1, 7, true) := by kernel_rfl
@[simp] theorem fi30_2 : fieldT Tryz.prog 30 2 = some (8, 1, false) := by kernel_rfl
@[simp] theorem fi30_3 : fieldT Tryz.prog 30 3 = some (9, 1, false) := by kernel_rfl
@[simp] theorem pl30 : placesT Tryz.prog 30 = some [(0, 1), (1, 7), (8, 1), (9, 1)] := by kernel_rfl
@[simp] theorem sz31 : szOf Tryz.prog 31 = some 10 := by kernel_rfl
@[simp] theorem ag31 : aggT Tryz.prog 31 = some true := by kernel_rfl
@[simp] theorem un31 : unitT Tryz.prog 31 = some 10 := by kernel_rfl
theorem kd31 : kindT Tryz.prog 12 31 = some [.int .i64, .int .i64, .int .i64, .int .i64, .int .i64, .int .i64, .int .i64, .int .i64, .int .i64, .int .i64] := by kernel_rfl
theorem eqk31 : eqT Tryz.prog 8 31 = some (true, [.int .i64, .int .i64, .int .i64, .int .i64, .int .i64, .int .i64, .int .i64, .int .i64, .int .i64, .int .i64]) := by kernel_rfl
theorem eqg31 : (Tryz.prog).eqGuardType (Tryz.prog).depth 31 = false := by kernel_rfl
@[simp] theorem neqA31 (a0 b0 : Int) (a1 b1 : Int) (a2 b2 : Int) (a3 b3 : Int) (a4 b4 : Int) (a5 b5 : Int) (a6 b6 : Int) (a7 b7 : Int) (a8 b8 : Int) (a9 b9 : Int) (K : Value → Prop) : aggBin Tryz.prog .neq 31 [.d (.s (.int .i64 a0)), .d (.s (.int .i64 a1)), .d (.s (.int .i64 a2)), .d (.s (.int .i64 a3)), .d (.s (.int .i64 a4)), .d (.s (.int .i64 a5)), .d (.s (.int .i64 a6)), .d (.s (.int .i64 a7)), .d (.s (.int .i64 a8)), .d (.s (.int .i64 a9))] [.d (.s (.int .i64 b0)), .d (.s (.int .i64 b1)), .d (.s (.int .i64 b2)), .d (.s (.int .i64 b3)), .d (.s (.int .i64 b4)), .d (.s (.int .i64 b5)), .d (.s (.int .i64 b6)), .d (.s (.int .i64 b7)), .d (.s (.int .i64 b8)), .d (.s (.int .i64 b9))] K = K (.bool (!(eqVs [.int .i64 a0, .int .i64 a1, .int .i64 a2, .int .i64 a3, .int .i64 a4, .int .i64 a5, .int .i64 a6, .int .i64 a7, .int .i64 a8, .int .i64 a9] [.int .i64 b0, .int .i64 b1, .int .i64 b2, .int .i64 b3, .int .i64 b4, .int .i64 b5, .int .i64 b6, .int .i64 b7, .int .i64 b8, .int .i64 b9]))) := agg_neq (xs := [.int .i64 a0, .int .i64 a1, .int .i64 a2, .int .i64 a3, .int .i64 a4, .int .i64 a5, .int .i64 a6, .int .i64 a7, .int .i64 a8, .int .i64 a9]) (ys := [.int .i64 b0, .int .i64 b1, .int .i64 b2, .int .i64 b3, .int .i64 b4, .int .i64 b5, .int .i64 b6, .int .i64 b7, .int .i64 b8, .int .i64 b9]) eqk31 (by decide) eqg31 rfl rfl K
@[simp] theorem eqlA31 (a0 b0 : Int) (a1 b1 : Int) (a2 b2 : Int) (a3 b3 : Int) (a4 b4 : Int) (a5 b5 : Int) (a6 b6 : Int) (a7 b7 : Int) (a8 b8 : Int) (a9 b9 : Int) (K : Value → Prop) : aggBin Tryz.prog .eql 31 [.d (.s (.int .i64 a0)), .d (.s (.int .i64 a1)), .d (.s (.int .i64 a2)), .d (.s (.int .i64 a3)), .d (.s (.int .i64 a4)), .d (.s (.int .i64 a5)), .d (.s (.int .i64 a6)), .d (.s (.int .i64 a7)), .d (.s (.int .i64 a8)), .d (.s (.int .i64 a9))] [.d (.s (.int .i64 b0)), .d (.s (.int .i64 b1)), .d (.s (.int .i64 b2)), .d (.s (.int .i64 b3)), .d (.s (.int .i64 b4)), .d (.s (.int .i64 b5)), .d (.s (.int .i64 b6)), .d (.s (.int .i64 b7)), .d (.s (.int .i64 b8)), .d (.s (.int .i64 b9))] K = K (.bool ((eqVs [.int .i64 a0, .int .i64 a1, .int .i64 a2, .int .i64 a3, .int .i64 a4, .int .i64 a5, .int .i64 a6, .int .i64 a7, .int .i64 a8, .int .i64 a9] [.int .i64 b0, .int .i64 b1, .int .i64 b2, .int .i64 b3, .int .i64 b4, .int .i64 b5, .int .i64 b6, .int .i64 b7, .int .i64 b8, .int .i64 b9]))) := agg_eql (xs := [.int .i64 a0, .int .i64 a1, .int .i64 a2, .int .i64 a3, .int .i64 a4, .int .i64 a5, .int .i64 a6, .int .i64 a7, .int .i64 a8, .int .i64 a9]) (ys := [.int .i64 b0, .int .i64 b1, .int .i64 b2, .int .i64 b3, .int .i64 b4, .int .i64 b5, .int .i64 b6, .int .i64 b7, .int .i64 b8, .int .i64 b9]) eqk31 (by decide) eqg31 rfl rfl K
@[simp] theorem ze31 : zeroT Tryz.prog 31 = some [.d (.s (.int .i64 0)), .d (.s (.int .i64 0)), .d (.s (.int .i64 0)), .d (.s (.int .i64 0)), .d (.s (.int .i64 0)), .d (.s (.int .i64 0)), .d (.s (.int .i64 0)), .d (.s (.int .i64 0)), .d (.s (.int .i64 0)), .d (.s (.int .i64 0))] := by kernel_rfl
@[simp] theorem fi31_0 : fieldT Tryz.prog 31 0 = some (0, 1, false) := by kernel_rfl
@[simp] theorem fi31_1 : fieldT Tryz.prog 31 1 = some (1, 7, true) := by kernel_rfl
@[simp] theorem fi31_2 : fieldT Tryz.prog 31 2 = some (8, 1, false) := by kernel_rfl
@[simp] theorem fi31_3 : fieldT Tryz.prog 31 3 = some (9, 1, false) := by kernel_rfl
@[simp] theorem pl31 : placesT Tryz.prog 31 = some [(0, 1), (1, 7), (8, 1), (9, 1)] := by kernel_rfl
@[simp] theorem sz32 : szOf Tryz.prog 32 = some 1 := by kernel_rfl
@[simp] theorem ag32 : aggT Tryz.prog 32 = some false := by kernel_rfl
@[simp] theorem un32 : unitT Tryz.prog 32 = some 1 := by kernel_rfl
@[simp] theorem sz33 : szOf Tryz.prog 33 = some 1 := by kernel_rfl
@[simp] theorem ag33 : aggT Tryz.prog 33 = some false := by kernel_rfl
@[simp] theorem un33 : unitT Tryz.prog 33 = some 1 := by kernel_rfl
@[simp] theorem ze33 : zeroT Tryz.prog 33 = some [.d (.s .nilFunc)] := by kernel_rfl
@[simp] theorem sz34 : szOf Tryz.prog 34 = some 4 := by kernel_rfl
@[simp] theorem ag34 : aggT Tryz.prog 34 = some true := by kernel_rfl
@[simp] theorem un34 : unitT Tryz.prog 34 = some 4 := by kernel_rfl
theorem kd34 : kindT Tryz.prog 12 34 = some [.int .i64, .int .i64, .slice [.int .i64, .int .i64, .int .i64, .int .i64, .int .i64, .int .i64, .int .i64], .slice [.int .i64, .bool, .int .i64, .int .i64, .int .i64, .int .i64, .int .i64, .int .i64, .int .i64]] := by kernel_rfl
@[simp] theorem ze34 : zeroT Tryz.prog 34 = some [.d (.s (.int .i64 0)), .d (.s (.int .i64 0)), .d .nil, .d .nil] := by kernel_rfl
@[simp] theorem fi34_0 : fieldT Tryz.prog 34 0 = some (0, 1, false) := by kernel_rfl
@[simp] theorem fi34_1 : fieldT Tryz.prog 34 1 = some (1, 3, true) := by kernel_rfl
@[simp] theorem pl34 : placesT Tryz.prog 34 = some [(0, 1), (1, 3)] := by kernel_rfl
@[simp] theorem sz35 : szOf Tryz.prog 35 = some 4 := by kernel_rfl
@[simp] theorem ag35 : aggT Tryz.prog 35 = some true := by kernel_rfl
@[simp] theorem un35 : unitT Tryz.prog 35 = some 4 := by kernel_rfl
theorem kd35 : kindT Tryz.prog 12 35 = some [.int .i64, .int .i64, .slice [.int .i64, .int .i64, .int .i64, .int .i64, .int .i64, .int .i64, .int .i64], .slice [.int .i64, .bool, .int .i64, .int .i64, .int .i64, .int .i64, .int .i64, .int .i64, .int .i64]] := by kernel_rfl
@[simp] theorem ze35 : zeroT Tryz.prog 35 = some [.d (.s (.int .i64 0)), .d (.s (.int .i64 0)), .d .nil, .d .nil] := by kernel_rfl
@[simp] theorem fi35_0 : fieldT Tryz.prog 35 0 = some (0, 1, false) := by kernel_rfl
@[simp] theorem fi35_1 : fieldT Tryz.prog 35 1 = some (1, 3, true) := by kernel_rfl
@[simp] theorem pl35 : placesT Tryz.prog 35 = some [(0, 1), (1, 3)] := by kernel_rfl
@[simp] theorem sz36 : szOf Tryz.prog 36 = some 1 := by kernel_rfl
@[simp] theorem ag36 : aggT Tryz.prog 36 = some false := by kernel_rfl
@[simp] theorem un36 : unitT Tryz.prog 36 = some 1 := by kernel_rfl
@[simp] theorem ze36 : zeroT Tryz.prog 36 = some [.d (.s .nilFunc)] := by kernel_rfl
@[simp] theorem sz37 : szOf Tryz.prog 37 = some 1 := by kernel_rfl
@[simp] theorem ag37 : aggT Tryz.prog 37 = some false := by kernel_rfl
@[simp] theorem un37 : unitT Tryz.prog 37 = some 1 := by kernel_rfl
@[simp] theorem ze37 : zeroT Tryz.prog 37 = some [.d (.s .nilFunc)] := by kernel_rfl
@[simp] theorem sz38 : szOf Tryz.prog 38 = some 2 := by kernel_rfl
@[simp] theorem ag38 : aggT Tryz.prog 38 = some true := by kernel_rfl
@[simp] theorem un38 : unitT Tryz.prog 38 = some 2 := by kernel_rfl
theorem kd38 : kindT Tryz.prog 12 38 = some [.int .i64, .int .i64] := by kernel_rfl
theorem eqk38 : eqT Tryz.prog 8 38 = some (true, [.int .i64, .int .i64]) := by kernel_rfl
theorem eqg38 : (Tryz.prog).eqGuardType (Tryz.prog).depth 38 = false := by kernel_rfl
@[simp] theorem neqA38 (a0 b0 : Int) (a1 b1 : Int) (K : Value → Prop) : aggBin Tryz.prog .neq 38 [.d (.s (.int .i64 a0)), .d (.s (.int .i64 a1))] [.d (.s (.int .i64 b0)), .d (.s (.int .i64 b1))] K = K (.bool (!(eqVs [.int .i64 a0, .int .i64 a1] [.int .i64 b0, .int .i64 b1]))) := agg_neq (xs := [.int .i64 a0, .int .i64 a1]) (ys := [.int .i64 b0, .int .i64 b1]) eqk38 (by decide) eqg38 rfl rfl K
@[simp] theorem eqlA38 (a0 b0 : Int) (a1 b1 : Int) (K : Value → Prop) : aggBin Tryz.prog .eql 38 [.d (.s (.int .i64 a0)), .d (.s (.int .i64 a1))] [.d (.s (.int .i64 b0)), .d (.s (.int .i64 b1))] K = K (.bool ((eqVs [.int .i64 a0, .int .i64 a1] [.int .i64 b0, .int .i64 b1]))) := agg_eql (xs := [.int .i64 a0, .int .i64 a1]) (ys := [.int .i64 b0, .int .i64 b1]) eqk38 (by decide) eqg38 rfl rfl K
@[simp] theorem ze38 : zeroT Tryz.prog 38 = some [.d (.s (.int .i64 0)), .d (.s (.int .i64 0))] := by kernel_rfl
@[simp] theorem fi38_0 : fieldT Tryz.prog 38 0 = some (0, 1, false) := by kernel_rfl
@[simp] theorem fi38_1 : fieldT Tryz.prog 38 1 = some (1, 1, false) := by kernel_rfl
@[simp] theorem pl38 : placesT Tryz.prog 38 = some [(0, 1), (1, 1)] := by kernel_rfl
@[simp] theorem sz39 : szOf Tryz.prog 39 = some 2 := by kernel_rfl
@[simp] theorem ag39 : aggT Tryz.prog 39 = some true := by kernel_rfl
@[simp] theorem un39 : unitT Tryz.prog 39 = some 2 := by kernel_rfl
theorem kd39 : kindT Tryz.prog 12 39 = some [.int .i64, .int .i64] := by kernel_rfl
theorem eqk39 : eqT Tryz.prog 8 39 = some (true, [.int .i64, .int .i64]) := by kernel_rfl
theorem eqg39 : (Tryz.prog).eqGuardType (Tryz.prog).depth 39 = false := by kernel_rfl
@[simp] theorem neqA39 (a0 b0 : Int) (a1 b1 : Int) (K : Value → Prop) : aggBin Tryz.prog .neq 39 [.d (.s (.int .i64 a0)), .d (.s (.int .i64 a1))] [.d (.s (.int .i64 b0)), .d (.s (.int .i64 b1))] K = K (.bool (!(eqVs [.int .i64 a0, .int .i64 a1] [.int .i64 b0, .int .i64 b1]))) := agg_neq (xs := [.int .i64 a0, .int .i64 a1]) (ys := [.int .i64 b0, .int .i64 b1]) eqk39 (by decide) eqg39 rfl rfl K
@[simp] theorem eqlA39 (a0 b0 : Int) (a1 b1 : Int) (K : Value → Prop) : aggBin Tryz.prog .eql 39 [.d (.s (.int .i64 a0)), .d (.s (.int .i64 a1))] [.d (.s (.int .i64 b0)), .d (.s (.int .i64 b1))] K = K (.bool ((eqVs [.int .i64 a0, .int .i64 a1] [.int .i64 b0, .int .i64 b1]))) := agg_eql (xs := [.int .i64 a0, .int .i64 a1]) (ys := [.int .i64 b0, .int .i64 b1]) eqk39 (by decide) eqg39 rfl rfl K
@[simp] theorem ze39 : zeroT Tryz.prog 39 = some [.d (.s (.int .i64 0)), .d (.s (.int .i64 0))] := by kernel_rfl
@[simp] theorem fi39_0 : fieldT Tryz.prog 39 0 = some (0, 1, false) := by kernel_rfl
@[simp] theorem fi39_1 : fieldT Tryz.prog 39 1 = some (1, 1, false) := by kernel_rfl
@[simp] theorem pl39 : placesT Tryz.prog 39 = some [(0, 1), (1, 1)] := by kernel_rfl
@[simp] theorem sz40 : szOf Tryz.prog 40 = some 1 := by kernel_rfl
@[simp] theorem ag40 : aggT Tryz.prog 40 = some false := by kernel_rfl
@[simp] theorem un40 : unitT Tryz.prog 40 = some 1 := by kernel_rfl
@[simp] theorem sz41 : szOf Tryz.prog 41 = some 1 := by kernel_rfl
@[simp] theorem ag41 : aggT Tryz.prog 41 = some false := by kernel_rfl
@[simp] theorem un41 : unitT Tryz.prog 41 = some 1 := by kernel_rfl
@[simp] theorem ze41 : zeroT Tryz.prog 41 = some [.d (.s .nilFunc)] := by kernel_rfl
@[simp] theorem sz42 : szOf Tryz.prog 42 = some 8 := by kernel_rfl
@[simp] theorem ag42 : aggT Tryz.prog 42 = some true := by kernel_rfl
@[simp] theorem un42 : unitT Tryz.prog 42 = some 8 := by kernel_rfl
theorem kd42 : kindT Tryz.prog 12 42 = some [.int .i64, .int .i64, .int .i64, .int .i64, .int .i64, .int .i64, .int .i64, .int .i64] := by kernel_rfl
theorem eqk42 : eqT Tryz.prog 8 42 = some (true, [.int .i64, .int .i64, .int .i64, .int .i64, .int .i64, .int .i64, .int .i64, .int .i64]) := by kernel_rfl
theorem eqg42 : (Tryz.prog).eqGuardType (Tryz.prog).depth 42 = false := by kernel_rfl
@[simp] theorem neqA42 (a0 b0 : Int) (a1 b1 : Int) (a2 b2 : Int) (a3 b3 : Int) (a4 b4 : Int) (a5 b5 : Int) (a6 b6 : Int) (a7 b7 : Int) (K : Value → Prop) : aggBin Tryz.prog .neq 42 [.d (.s (.int .i64 a0)), .d (.s (.int .i64 a1)), .d (.s (.int .i64 a2)), .d (.s (.int .i64 a3)), .d (.s (.int .i64 a4)), .d (.s (.int .i64 a5)), .d (.s (.int .i64 a6)), .d (.s (.int .i64 a7))] [.d (.s (.int .i64 b0)), .d (.s (.int .i64 b1)), .d (.s (.int .i64 b2)), .d (.s (.int .i64 b3)), .d (.s (.int .i64 b4)), .d (.s (.int .i64 b5)), .d (.s (.int .i64 b6)), .d (.s (.int .i64 b7))] K = K (.bool (!(eqVs [.int .i64 a0, .int .i64 a1, .int .i64 a2, .int .i64 a3, .int .i64 a4, .int .i64 a5, .int .i64 a6, .int .i64 a7] [.int .i64 b0, .int .i64 b1, .int .i64 b2, .int .i64 b3, .int .i64 b4, .int .i64 b5, .int .i64 b6, .int .i64 b7]))) := agg_neq (xs := [.int .i64 a0, .int .i64 a1, .int .i64 a2, .int .i64 a3, .int .i64 a4, .int .i64 a5, .int .i64 a6, .int .i64 a7]) (ys := [.int .i64 b0, .int .i64 b1, .int .i64 b2, .int .i64 b3, .int .i64 b4, .int .i64 b5, .int .i64 b6, .int .i64 b7]) eqk42 (by decide) eqg42 rfl rfl K
@[simp] theorem eqlA42 (a0 b0 : Int) (a1 b1 : Int) (a2 b2 : Int) (a3 b3 : Int) (a4 b4 : Int) (a5 b5 : Int) (a6 b6 : Int) (a7 b7 : Int) (K : Value → Prop) : aggBin Tryz.prog .eql 42 [.d (.s (.int .i64 a0)), .d (.s (.int .i64 a1)), .d (.s (.int .i64 a2)), .d (.s (.int .i64 a3)), .d (.s (.int .i64 a4)), .d (.s (.int .i64 a5)), .d (.s (.int .i64 a6)), .d (.s (.int .i64 a7))] [.d (.s (.int .i64 b0)), .d (.s (.int .i64 b1)), .d (.s (.int .i64 b2)), .d (.s (.int .i64 b3)), .d (.s (.int .i64 b4)), .d (.s (.int .i64 b5)), .d (.s (.int .i64 b6)), .d (.s (.int .i64 b7))] K = K (.bool ((eqVs [.int .i64 a0, .int .i64 a1, .int .i64 a2, .int .i64 a3, .int .i64 a4, .int .i64 a5, .int .i64 a6, .int .i64 a7] [.int .i64 b0, .int .i64 b1, .int .i64 b2, .int .i64 b3, .int .i64 b4, .int .i64 b5, .int .i64 b6, .int .i64 b7]))) := agg_eql (xs := [.int .i64 a0, .int .i64 a1, .int .i64 a2, .int .i64 a3, .int .i64 a4, .int .i64 a5, .int .i64 a6, .int .i64 a7]) (ys := [.int .i64 b0, .int .i64 b1, .int .i64 b2, .int .i64 b3, .int .i64 b4, .int .i64 b5, .int .i64 b6, .int .i64 b7]) eqk42 (by decide) eqg42 rfl rfl K
@[simp] theorem ze42 : zeroT Tryz.prog 42 = some [.d (.s (.int .i64 0)), .d (.s (.int .i64 0)), .d (.s (.int .i64 0)), .d (.s (.int .i64 0)), .d (.s (.int .i64 0)), .d (.s (.int .i64 0)), .d (.s (.int .i64 0)), .d (.s (.int .i64 0))] := by kernel_rfl
@[simp] theorem fi42_0 : fieldT Tryz.prog 42 0 = some (0, 1, false) := by kernel_rfl
@[simp] theorem fi42_1 : fieldT Tryz.prog 42 1 = some (1, 7, true) := by kernel_rfl
@[simp] theorem pl42 : placesT Tryz.prog 42 = some [(0, 1), (1, 7)] := by kernel_rfl
@[simp] theorem sz43 : szOf Tryz.prog 43 = some 8 := by kernel_rfl
@[simp] theorem ag43 : aggT Tryz.prog 43 = some true := by kernel_rfl
@[simp] theorem un43 : unitT Tryz.prog 43 = some 8 := by kernel_rfl
theorem kd43 : kindT Tryz.prog 12 43 = some [.int .i64, .int .i64, .int .i64, .int .i64, .int .i64, .int .i64, .int .i64, .int .i64] := by kernel_rfl
theorem eqk43 : eqT Tryz.prog 8 43 = some (true, [.int .i64, .int .i64, .int .i64, .int .i64, .int .i64, .int .i64, .int .i64, .int .i64]) := by kernel_rfl
theorem eqg43 : (Tryz.prog).eqGuardType (Tryz.prog).depth 43 = false := by kernel_rfl
@[simp] theorem neqA43 (a0 b0 : Int) (a1 b1 : Int) (a2 b2 : Int) (a3 b3 : Int) (a4 b4 : Int) (a5 b5 : Int) (a6 b6 : Int) (a7 b7 : Int) (K : Value → Prop) : aggBin Tryz.prog .neq 43 [.d (.s (.int .i64 a0)), .d (.s (.int .i64 a1)), .d (.s (.int .i64 a2)), .d (.s (.int .i64 a3)), .d (.s (.int .i64 a4)), .d (.s (.int .i64 a5)), .d (.s (.int .i64 a6)), .d (.s (.int .i64 a7))] [.d (.s (.int .i64 b0)), .d (.s (.int .i64 b1)), .d (.s (.int .i64 b2)), .d (.s (.int .i64 b3)), .d (.s (.int .i64 b4)), .d (.s (.int .i64 b5)), .d (.s (.int .i64 b6)), .d (.s (.int .i64 b7))] K = K (.bool (!(eqVs [.int .i64 a0, .int .i64 a1, .int .i64 a2, .int .i64 a3, .int .i64 a4, .int .i64 a5, .int .i64 a6, .int .i64 a7] [.int .i64 b0, .int .i64 b1, .int .i64 b2, .int .i64 b3, .int .i64 b4, .int .i64 b5, .int .i64 b6, .int .i64 b7]))) := agg_neq (xs := [.int .i64 a0, .int .i64 a1, .int .i64 a2, .int .i64 a3, .int .i64 a4, .int .i64 a5, .int .i64 a6, .int .i64 a7]) (ys := [.int .i64 b0, .int .i64 b1, .int .i64 b2, .int .i64 b3, .int .i64 b4, .int .i64 b5, .int .i64 b6, .int .i64 b7]) eqk43 (by decide) eqg43 rfl rfl K
@[simp] theorem eqlA43 (a0 b0 : Int) (a1 b1 : Int) (a2 b2 : Int) (a3 b3 : Int) (a4 b4 : Int) (a5 b5 : Int) (a6 b6 : Int) (a7 b7 : Int) (K : Value → Prop) : aggBin Tryz.prog .eql 43 [.d (.s (.int .i64 a0)), .d (.s (.int .i64 a1)), .d (.s (.int .i64 a2)), .d (.s (.int .i64 a3)), .d (.s (.int .i64 a4)), .d (.s (.int .i64 a5)), .d (.s (.int .i64 a6)), .d (.s (.int .i64 a7))] [.d (.s (.int .i64 b0)), .d (.s (.int .i64 b1)), .d (.s (.int .i64 b2)), .d (.s (.int .i64 b3)), .d (.s (.int .i64 b4)), .d (.s (.int .i64 b5)), .d (.s (.int .i64 b6)), .d (.s (.int .i64 b7))] K = K (.bool ((eqVs [.int .i64 a0, .int .i64 a1, .int .i64 a2, .int .i64 a3, .int .i64 a4, .int .i64 a5, .int .i64 a6, .int .i64 a7] [.int .i64 b0, .int .i64 b1, .int .i64 b2, .int .i64 b3, .int .i64 b4, .int .i64 b5, .int .i64 b6, .int .i64 b7]))) := agg_eql (xs := [.int .i64 a0, .int .i64 a1, .int .i64 a2, .int .i64 a3, .int .i64 a4, .int .i64 a5, .int .i64 a6, .int .i64 a7]) (ys := [.int .i64 b0, .int .i64 b1, .int .i64 b2, .int .i64 b3, .int .i64 b4, .int .i64 b5, .int .i64 b6, .int .i64 b7]) eqk43 (by decide) eqg43 rfl rfl K
@[simp] theorem ze43 : zeroT Tryz.prog 43 = some [.d (.s (.int .i64 0)), .d (.s (.int .i64 0)), .d (.s (.int .i64 0)), .d (.s (.int .i64 0)), .d (.s (.int .i64 0)), .d (.s (.int .i64 0)), .d (.s (.int .i64 0)), .d (.s (.int .i64 0))] := by kernel_rfl
@[simp] theorem fi43_0 : fieldT Tryz.prog 43 0 = some (0, 1, false) := by kernel_rfl
@[simp] theorem fi43_1 : fieldT Tryz.prog 43 1 = some (1, 7, true) := by kernel_rfl
@[simp] theorem pl43 : placesT Tryz.prog 43 = some [(0, 1), (1, 7)] := by kernel_rfl
@[simp] theorem sz44 : szOf Tryz.prog 44 = some 1 := by kernel_rfl
@[simp] theorem ag44 : aggT Tryz.prog 44 = some false := by kernel_rfl
@[simp] theorem un44 : unitT Tryz.prog 44 = some 1 := by kernel_rfl
@[simp] theorem ze44 : zeroT Tryz.prog 44 = some [.d (.s .nilFunc)] := by kernel_rfl
@[simp] theorem sz45 : szOf Tryz.prog 45 = some 1 := by kernel_rfl
@[simp] theorem ag45 : aggT Tryz.prog 45 = some false := by kernel_rfl
@[simp] theorem un45 : unitT Tryz.prog 45 = some 1 := by kernel_rfl
@[simp] theorem sz46 : szOf Tryz.prog 46 = some 1 := by kernel_rfl
@[simp] theorem ag46 : aggT Tryz.prog 46 = some false := by kernel_rfl
@[simp] theorem un46 : unitT Tryz.prog 46 = some 1 := by kernel_rfl
@[simp] theorem ze46 : zeroT Tryz.prog 46 = some [.d (.s .nilFunc)] := by kernel_rfl
@[simp] theorem sz47 : szOf Tryz.prog 47 = some 2 := by kernel_rfl
@[simp] theorem ag47 : aggT Tryz.prog 47 = some true := by kernel_rfl
@[simp] theorem un47 : unitT Tryz.prog 47 = some 2 := by kernel_rfl
theorem kd47 : kindT Tryz.prog 12 47 = some [.int .i64, .int .i64] := by kernel_rfl
theorem eqk47 : eqT Tryz.prog 8 47 = some (true, [.int .i64, .int .i64]) := by kernel_rfl
theorem eqg47 : (Tryz.prog).eqGuardType (Tryz.prog).depth 47 = false := by kernel_rfl
@[simp] theorem neqA47 (a0 b0 : Int) (a1 b1 : Int) (K : Value → Prop) : aggBin Tryz.prog .neq 47 [.d (.s (.int .i64 a0)), .d (.s (.int .i64 a1))] [.d (.s (.int .i64 b0)), .d (.s (.int .i64 b1))] K = K (.bool (!(eqVs [.int .i64 a0, .int .i64 a1] [.int .i64 b0, .int .i64 b1]))) := agg_neq (xs := [.int .i64 a0, .int .i64 a1]) (ys := [.int .i64 b0, .int .i64 b1]) eqk47 (by decide) eqg47 rfl rfl K
@[simp] theorem eqlA47 (a0 b0 : Int) (a1 b1 : Int) (K : Value → Prop) : aggBin Tryz.prog .eql 47 [.d (.s (.int .i64 a0)), .d (.s (.int .i64 a1))] [.d (.s (.int .i64 b0)), .d (.s (.int .i64 b1))] K = K (.bool ((eqVs [.int .i64 a0, .int .i64 a1] [.int .i64 b0, .int .i64 b1]))) := agg_eql (xs := [.int .i64 a0, .int .i64 a1]) (ys := [.int .i64 b0, .int .i64 b1]) eqk47 (by decide) eqg47 rfl rfl K
@[simp] theorem ze47 : zeroT Tryz.prog 47 = some [.d (.s (.int .i64 0)), .d (.s (.int .i64 0))] := by kernel_rfl
@[simp] theorem fi47_0 : fieldT Tryz.prog 47 0 = some (0, 1, false) := by kernel_rfl
@[simp] theorem fi47_1 : fieldT Tryz.prog 47 1 = some (1, 1, false) := by kernel_rfl
@[simp] theorem pl47 : placesT Tryz.prog 47 = some [(0, 1), (1, 1)] := by kernel_rfl
@[simp] theorem sz48 : szOf Tryz.prog 48 = some 2 := by kernel_rfl
@[simp] theorem ag48 : aggT Tryz.prog 48 = some true := by kernel_rfl
@[simp] theorem un48 : unitT Tryz.prog 48 = some 2 := by kernel_rfl
theorem kd48 : kindT Tryz.prog 12 48 = some [.int .i64, .int .i64] := by kernel_rfl
theorem eqk48 : eqT Tryz.prog 8 48 = some (true, [.int .i64, .int .i64]) := by kernel_rfl
theorem eqg48 : (Tryz.prog).eqGuardType (Tryz.prog).depth 48 = false := by kernel_rfl
@[simp] theorem neqA48 (a0 b0 : Int) (a1 b1 : Int) (K : Value → Prop) : aggBin Tryz.prog .neq 48 [.d (.s (.int .i64 a0)), .d (.s (.int .i64 a1))] [.d (.s (.int .i64 b0)), .d (.s (.int .i64 b1))] K = K (.bool (!(eqVs [.int .i64 a0, .int .i64 a1] [.int .i64 b0, .int .i64 b1]))) := agg_neq (xs := [.int .i64 a0, .int .i64 a1]) (ys := [.int .i64 b0, .int .i64 b1]) eqk48 (by decide) eqg48 rfl rfl K
@[simp] theorem eqlA48 (a0 b0 : Int) (a1 b1 : Int) (K : Value → Prop) : aggBin Tryz.prog .eql 48 [.d (.s (.int .i64 a0)), .d (.s (.int .i64 a1))] [.d (.s (.int .i64 b0)), .d (.s (.int .i64 b1))] K = K (.bool ((eqVs [.int .i64 a0, .int .i64 a1] [.int .i64 b0, .int .i64 b1]))) := agg_eql (xs := [.int .i64 a0, .int .i64 a1]) (ys := [.int .i64 b0, .int .i64 b1]) eqk48 (by decide) eqg48 rfl rfl K
@[simp] theorem ze48 : zeroT Tryz.prog 48 = some [.d (.s (.int .i64 0)), .d (.s (.int .i64 0))] := by kernel_rfl
@[simp] theorem fi48_0 : fieldT Tryz.prog 48 0 = some (0, 1, false) := by kernel_rfl
@[simp] theorem fi48_1 : fieldT Tryz.prog 48 1 = some (1, 1, false) := by kernel_rfl
@[simp] theorem pl48 : placesT Tryz.prog 48 = some [(0, 1), (1, 1)] := by kernel_rfl
@[simp] theorem sz49 : szOf Tryz.prog 49 = some 1 := by kernel_rfl
@[simp] theorem ag49 : aggT Tryz.prog 49 = some false := by kernel_rfl
@[simp] theorem un49 : unitT Tryz.prog 49 = some 1 := by kernel_rfl
@[simp] theorem ze49 : zeroT Tryz.prog 49 = some [.d (.s .nilFunc)] := by kernel_rfl
@[simp] theorem sz50 : szOf Tryz.prog 50 = some 1 := by kernel_rfl
@[simp] theorem ag50 : aggT Tryz.prog 50 = some false := by kernel_rfl
@[simp] theorem un50 : unitT Tryz.prog 50 = some 1 := by kernel_rfl
@[simp] theorem ze50 : zeroT Tryz.prog 50 = some [.d (.s .nilFunc)] := by kernel_rfl
@[simp] theorem sz51 : szOf Tryz.prog 51 = some 1 := by kernel_rfl
@[simp] theorem ag51 : aggT Tryz.prog 51 = some false := by kernel_rfl
@[simp] theorem un51 : unitT Tryz.prog 51 = some 1 := by kernel_rfl
@[simp] theorem ze51 : zeroT Tryz.prog 51 = some [.d (.s .nilFunc)] := by kernel_rfl
@[simp] theorem sz52 : szOf Tryz.prog 52 = some 1 := by kernel_rfl
@[simp] theorem ag52 : aggT Tryz.prog 52 = some false := by kernel_rfl
@[simp] theorem un52 : unitT Tryz.prog 52 = some 1 := by kernel_rfl
theorem kd52 : kindT Tryz.prog 12 52 = some [.slice [.int .i64, .int .i64, .int .i64, .int .i64, .int .i64, .int .i64, .int .i64, .int .i64, .int .i64, .int .i64]] := by kernel_rfl
@[simp] theorem sl52 : sliceT Tryz.prog 52 = some (31, 10, 80) := by kernel_rfl
@[simp] theorem ze52 : zeroT Tryz.prog 52 = some [.d .nil] := by kernel_rfl
@[simp] theorem sz53 : szOf Tryz.prog 53 = some 1 := by kernel_rfl
@[simp] theorem ag53 : aggT Tryz.prog 53 = some false := by kernel_rfl
@[simp] theorem un53 : unitT Tryz.prog 53 = some 1 := by kernel_rfl
@[simp] theorem ze53 : zeroT Tryz.prog 53 = some [.d (.s .nilFunc)] := by kernel_rfl
@[simp] theorem sz54 : szOf Tryz.prog 54 = some 1 := by kernel_rfl
@[simp] theorem ag54 : aggT Tryz.prog 54 = some false := by kernel_rfl
@[simp] theorem un54 : unitT Tryz.prog 54 = some 1 := by kernel_rfl
@[simp] theorem ze54 : zeroT Tryz.prog 54 = some [.d (.s .nilFunc)] := by kernel_rfl
@[simp] theorem sz55 : szOf Tryz.prog 55 = some 1 := by kernel_rfl
@[simp] theorem ag55 : aggT Tryz.prog 55 = some false := by kernel_rfl
@[simp] theorem un55 : unitT Tryz.prog 55 = some 1 := by kernel_rfl
@[simp] theorem ze55 : zeroT Tryz.prog 55 = some [.d (.s .nilFunc)] := by kernel_rfl
@[simp] theorem sz56 : szOf Tryz.prog 56 = some 1 := by kernel_rfl
@[simp] theorem ag56 : aggT Tryz.prog 56 = some false := by kernel_rfl
@[simp] theorem un56 : unitT Tryz.prog 56 = some 1 := by kernel_rfl
@[simp] theorem ze56 : zeroT Tryz.prog 56 = some [.d (.s .nilFunc)] := by kernel_rfl
@[simp] theorem sz57 : szOf Tryz.prog 57 = some 2 := by kernel_rfl
@[simp] theorem ag57 : aggT Tryz.prog 57 = some true := by kernel_rfl
@[simp] theorem un57 : unitT Tryz.prog 57 = some 2 := by kernel_rfl
theorem kd57 : kindT Tryz.prog 12 57 = some [.int .i64, .slice [.int .i64, .int .i64, .int .i64, .int .i64, .int .i64, .int .i64, .int .i64]] := by kernel_rfl
@[simp] theorem ze57 : zeroT Tryz.prog 57 = some [.d (.s (.int .i64 0)), .d .nil] := by kernel_rfl
@[simp] theorem fi57_0 : fieldT Tryz.prog 57 0 = some (0, 1, false) := by kernel_rfl
@[simp] theorem fi57_1 : fieldT Tryz.prog 57 1 = some (1, 1, false) := by kernel_rfl
@[simp] theorem pl57 : placesT Tryz.prog 57 = some [(0, 1), (1, 1)] := by kernel_rfl
@[simp] theorem sz58 : szOf Tryz.prog 58 = some 2 := by kernel_rfl
@[simp] theorem ag58 : aggT Tryz.prog 58 = some true := by kernel_rfl
@[simp] theorem un58 : unitT Tryz.prog 58 = some 2 := by kernel_rfl
theorem kd58 : kindT Tryz.prog 12 58 = some [.int .i64, .slice [.int .i64, .int .i64, .int .i64, .int .i64, .int .i64, .int .i64, .int .i64]] := by kernel_rfl
@[simp] theorem ze58 : zeroT Tryz.prog 58 = some [.d (.s (.int .i64 0)), .d .nil] := by kernel_rfl
@[simp] theorem fi58_0 : fieldT Tryz.prog 58 0 = some (0, 1, false) := by kernel_rfl
@[simp] theorem fi58_1 : fieldT Tryz.prog 58 1 = some (1, 1, false) := by kernel_rfl
@[simp] theorem pl58 : placesT Tryz.prog 58 = some [(0, 1), (1, 1)] := by kernel_rfl
@[simp] theorem sz59 : szOf Tryz.prog 59 = some 3 := by kernel_rfl
@[simp] theorem ag59 : aggT Tryz.prog 59 = some true := by kernel_rfl
@[simp] theorem un59 : unitT Tryz.prog 59 = some 3 := by kernel_rfl
theorem kd59 : kindT Tryz.prog 12 59 = some [.int .i64, .int .i64, .slice [.int .i64, .int .i64, .int .i64, .int .i64, .int .i64, .int .i64, .int .i64]] := by kernel_rfl
@[simp] theorem ze59 : zeroT Tryz.prog 59 = some [.d (.s (.int .i64 0)), .d (.s (.int .i64 0)), .d .nil] := by kernel_rfl
@[simp] theorem fi59_0 : fieldT Tryz.prog 59 0 = some (0, 1, false) := by kernel_rfl
@[simp] theorem fi59_1 : fieldT Tryz.prog 59 1 = some (1, 2, true) := by kernel_rfl
@[simp] theorem pl59 : placesT Tryz.prog 59 = some [(0, 1), (1, 2)] := by kernel_rfl
@[simp] theorem sz60 : szOf Tryz.prog 60 = some 3 := by kernel_rfl
@[simp] theorem ag60 : aggT Tryz.prog 60 = some true := by kernel_rfl
@[simp] theorem un60 : unitT Tryz.prog 60 = some 3 := by kernel_rfl
theorem kd60 : kindT Tryz.prog 12 60 = some [.int .i64, .int .i64, .slice [.int .i64, .int .i64, .int .i64, .int .i64, .int .i64, .int .i64, .int .i64]] := by kernel_rfl
@[simp] theorem ze60 : zeroT Tryz.prog 60 = some [.d (.s (.int .i64 0)), .d (.s (.int .i64 0)), .d .nil] := by kernel_rfl
@[simp] theorem fi60_0 : fieldT Tryz.prog 60 0 = some (0, 1, false) := by kernel_rfl
@[simp] theorem fi60_1 : fieldT Tryz.prog 60 1 = some (1, 2, true) := by kernel_rfl
@[simp] theorem pl60 : placesT Tryz.prog 60 = some [(0, 1), (1, 2)] := by kernel_rfl
@[simp] theorem sz61 : szOf Tryz.prog 61 = some 1 := by kernel_rfl
@[simp] theorem ag61 : aggT Tryz.prog 61 = some false := by kernel_rfl
@[simp] theorem un61 : unitT Tryz.prog 61 = some 1 := by kernel_rfl
@[simp] theorem ze61 : zeroT Tryz.prog 61 = some [.d (.s .nilFunc)] := by kernel_rfl
@[simp] theorem sz62 : szOf Tryz.prog 62 = some 2 := by kernel_rfl
@[simp] theorem ag62 : aggT Tryz.prog 62 = some true := by kernel_rfl
@[simp] theorem un62 : unitT Tryz.prog 62 = some 2 := by kernel_rfl
theorem kd62 : kindT Tryz.prog 12 62 = some [.int .i64, .slice [.int .i64, .bool, .int .i64, .int .i64, .int .i64, .int .i64, .int .i64, .int .i64, .int .i64]] := by kernel_rfl
@[simp] theorem ze62 : zeroT Tryz.prog 62 = some [.d (.s (.int .i64 0)), .d .nil] := by kernel_rfl
@[simp] theorem fi62_0 : fieldT Tryz.prog 62 0 = some (0, 1, false) := by kernel_rfl
@[simp] theorem fi62_1 : fieldT Tryz.prog 62 1 = some (1, 1, false) := by kernel_rfl
@[simp] theorem pl62 : placesT Tryz.prog 62 = some [(0, 1), (1, 1)] := by kernel_rfl
@[simp] theorem sz63 : szOf Tryz.prog 63 = some 2 := by kernel_rfl
@[simp] theorem ag63 : aggT Tryz.prog 63 = some true := by kernel_rfl
@[simp] theorem un63 : unitT Tryz.prog 63 = some 2 := by kernel_rfl
theorem kd63 : kindT Tryz.prog 12 63 = some [.int .i64, .slice [.int .i64, .bool, .int .i64, .int .i64, .int .i64, .int .i64, .int .i64, .int .i64, .int .i64]] := by kernel_rfl
@[simp] theorem ze63 : zeroT Tryz.prog 63 = some [.d (.s (.int .i64 0)), .d .nil] := by kernel_rfl
@[simp] theorem fi63_0 : fieldT Tryz.prog 63 0 = some (0, 1, false) := by kernel_rfl
@[simp] theorem fi63_1 : fieldT Tryz.prog 63 1 = some (1, 1, false) := by kernel_rfl
@[simp] theorem pl63 : placesT Tryz.prog 63 = some [(0, 1), (1, 1)] := by kernel_rfl
@[simp] theorem sz64 : szOf Tryz.prog 64 = some 1 := by kernel_rfl
@[simp] theorem ag64 : aggT Tryz.prog 64 = some false := by kernel_rfl
@[simp] theorem un64 : unitT Tryz.prog 64 = some 1 := by kernel_rfl
@[simp] theorem ze64 : zeroT Tryz.prog 64 = some [.d (.s .nilFunc)] := by kernel_rfl
@[simp] theorem sz65 : szOf Tryz.prog 65 = some 1 := by kernel_rfl
@[simp] theorem ag65 : aggT Tryz.prog 65 = some false := by kernel_rfl
@[simp] theorem un65 : unitT Tryz.prog 65 = some 1 := by kernel_rfl
@[simp] theorem ze65 : zeroT Tryz.prog 65 = some [.d (.s .nilFunc)] := by kernel_rfl
@[simp] theorem sz66 : szOf Tryz.prog 66 = some 1 := by kernel_rfl
@[simp] theorem ag66 : aggT Tryz.prog 66 = some false := by kernel_rfl
@[simp] theorem un66 : unitT Tryz.prog 66 = some 1 := by kernel_rfl
@[simp] theorem ze66 : zeroT Tryz.prog 66 = some [.d (.s .nilFunc)] := by kernel_rfl
@[simp] theorem sz67 : szOf Tryz.prog 67 = some 1 := by kernel_rfl
@[simp] theorem ag67 : aggT Tryz.prog 67 = some false := by kernel_rfl
@[simp] theorem un67 : unitT Tryz.prog 67 = some 1 := by kernel_rfl
theorem kd67 : kindT Tryz.prog 12 67 = some [.slice [.int .i64, .int .i64, .int .i64, .int .i64, .int .i64, .int .i64, .int .i64, .int .i64, .int .i64, .int .i64, .int .i64, .int .i64, .int .i64, .int .i64]] := by kernel_rfl
@[simp] theorem sl67 : sliceT Tryz.prog 67 = some (74, 14, 112) := by kernel_rfl
@[simp] theorem ze67 : zeroT Tryz.prog 67 = some [.d .nil] := by kernel_rfl
@[simp] theorem sz68 : szOf Tryz.prog 68 = some 1 := by kernel_rfl
@[simp] theorem ag68 : aggT Tryz.prog 68 = some false := by kernel_rfl
@[simp] theorem un68 : unitT Tryz.prog 68 = some 1 := by kernel_rfl
@[simp] theorem ze68 : zeroT Tryz.prog 68 = some [.d (.s .nilFunc)] := by kernel_rfl
@[simp] theorem sz69 : szOf Tryz.prog 69 = some 1 := by kernel_rfl
@[simp] theorem ag69 : aggT Tryz.prog 69 = some false := by kernel_rfl
@[simp] theorem un69 : unitT Tryz.prog 69 = some 1 := by kernel_rfl
theorem kd69 : kindT Tryz.prog 12 69 = some [.slice [.int .i64]] := by kernel_rfl
@[simp] theorem sl69 : sliceT Tryz.prog 69 = some (2, 1, 8) := by kernel_rfl
@[simp] theorem ze69 : zeroT Tryz.prog 69 = some [.d .nil] := by kernel_rfl
@[simp] theorem sz70 : szOf Tryz.prog 70 = some 6 := by kernel_rfl
@[simp] theorem ag70 : aggT Tryz.prog 70 = some true := by kernel_rfl
@[simp] theorem un70 : unitT Tryz.prog 70 = some 6 := by kernel_rfl
theorem kd70 : kindT Tryz.prog 12 70 = some [.int .i64, .slice [.int .u8], .int .i64, .slice [.int .i64, .int .i64, .int .i64, .int .i64, .int .i64, .int .i64, .int .i64], .slice [.int .i64, .bool, .int .i64, .int .i64, .int .i64, .int .i64, .int .i64, .int .i64, .int .i64], .slice [.int .i64]] := by kernel_rfl
@[simp] theorem ze70 : zeroT Tryz.prog 70 = some [.d (.s (.int .i64 0)), .d .nil, .d (.s (.int .i64 0)), .d .nil, .d .nil, .d .nil] := by kernel_rfl
@[simp] theorem fi70_0 : fieldT Tryz.prog 70 0 = some (0, 1, false) := by kernel_rfl
@[simp] theorem fi70_1 : fieldT Tryz.prog 70 1 = some (1, 1, false) := by kernel_rfl
@[simp] theorem fi70_2 : fieldT Tryz.prog 70 2 = some (2, 3, true) := by kernel_rfl
@[simp] theorem fi70_3 : fieldT Tryz.prog 70 3 = some (5, 1, false) := by kernel_rfl
@[simp] theorem pl70 : placesT Tryz.prog 70 = some [(0, 1), (1, 1), (2, 3), (5, 1)] := by kernel_rfl
@[simp] theorem sz71 : szOf Tryz.prog 71 = some 6 := by kernel_rfl
@[simp] theorem ag71 : aggT Tryz.prog 71 = some true := by kernel_rfl
@[simp] theorem un71 : unitT Tryz.prog 71 = some 6 := by kernel_rfl
theorem kd71 : kindT Tryz.prog 12 71 = some [.int .i64, .slice [.int .u8], .int .i64, .slice [.int .i64, .int .i64, .int .i64, .int .i64, .int .i64, .int .i64, .int .i64], .slice [.int .i64, .bool, .int .i64, .int .i64, .int .i64, .int .i64, .int .i64, .int .i64, .int .i64], .slice [.int .i64]] := by kernel_rfl
@[simp] theorem ze71 : zeroT Tryz.prog 71 = some [.d (.s (.int .i64 0)), .d .nil, .d (.s (.int .i64 0)), .d .nil, .d .nil, .d .nil] := by kernel_rfl
@[simp] theorem fi71_0 : fieldT Tryz.prog 71 0 = some (0, 1, false) := by kernel_rfl
@[simp] theorem fi71_1 : fieldT Tryz.prog 71 1 = some (1, 1, false) := by kernel_rfl
@[simp] theorem fi71_2 : fieldT Tryz.prog 71 2 = some (2, 3, true) := by kernel_rfl
@[simp] theorem fi71_3 : fieldT Tryz.prog 71 3 = some (5, 1, false) := by kernel_rfl
@[simp] theorem pl71 : placesT Tryz.prog 71 = some [(0, 1), (1, 1), (2, 3), (5, 1)] := by kernel_rfl
@[simp] theorem sz72 : szOf Tryz.prog 72 = some 1 := by kernel_rfl
@[simp] theorem ag72 : aggT Tryz.prog 72 = some false := by kernel_rfl
@[simp] theorem un72 : unitT Tryz.prog 72 = some 1 := by kernel_rfl
@[simp] theorem ze72 : zeroT Tryz.prog 72 = some [.d (.s .nilFunc)] := by kernel_rfl
@[simp] theorem sz73 : szOf Tryz.prog 73 = some 14 := by kernel_rfl
@[simp] theorem ag73 : aggT Tryz.prog 73 = some true := by kernel_rfl
@[simp] theorem un73 : unitT Tryz.prog 73 = some 14 := by kernel_rfl
theorem kd73 : kindT Tryz.prog 12 73 = some [.int .i64, .int .i64, .int .i64, .int .i64, .int .i64, .int .i64, .int .i64, .int .i64, .int .i64, .int .i64, .int .i64, .int .i64, .int .i64, .int .i64] := by kernel_rfl
theorem eqk73 : eqT Tryz.prog 8 73 = some (true, [.int .i64, .int .i64, .int .i64, .int .i64, .int .i64, .int .i64, .int .i64, .int .i64, .int .i64, .int .i64, .int .i64, .int .i64, .int .i64, .int .i64]) := by kernel_rfl
theorem eqg73 : (Tryz.prog).eqGuardType (Tryz.prog).depth 73 = false := by kernel_rfl
@[simp] theorem neqA73 (a0 b0 : Int) (a1 b1 : Int) (a2 b2 : Int) (a3 b3 : Int) (a4 b4 : Int) (a5 b5 : Int) (a6 b6 : Int) (a7 b7 : Int) (a8 b8 : Int) (a9 b9 : Int) (a10 b10 : Int) (a11 b11 : Int) (a12 b12 : Int) (a13 b13 : Int) (K : Value → Prop) : aggBin Tryz.prog .neq 73 [.d (.s (.int .i64 a0)), .d (.s (.int .i64 a1)), .d (.s (.int .i64 a2)), .d (.s (.int .i64 a3)), .d (.s (.int .i64 a4)), .d (.s (.int .i64 a5)), .d (.s (.int .i64 a6)), .d (.s (.int .i64 a7)), .d (.s (.int .i64 a8)), .d (.s (.int .i64 a9)), .d (.s (.int .i64 a10)), .d (.s (.int .i64 a11)), .d (.s (.int .i64 a12)), .d (.s (.int .i64 a13))] [.d (.s (.int .i64 b0)), .d (.s (.int .i64 b1)), .d (.s (.int .i64 b2)), .d (.s (.int .i64 b3)), .d (.s (.int .i64 b4)), .d (.s (.int .i64 b5)), .d (.s (.int .i64 b6)), .d (.s (.int .i64 b7)), .d (.s (.int .i64 b8)), .d (.s (.int .i64 b9)), .d (.s (.int .i64 b10)), .d (.s (.int .i64 b11)), .d (.s (.int .i64 b12)), .d (.s (.int .i64 b13))] K = K (.bool (!(eqVs [.int .i64 a0, .int .i64 a1, .int .i64 a2, .int .i64 a3, .int .i64 a4, .int .i64 a5, .int .i64 a6, .int .i64 a7, .int .i64 a8, .int .i64 a9, .int .i64 a10, .int .i64 a11, .int .i64 a12, .int .i64 a13] [.int .i64 b0, .int .i64 b1, .int .i64 b2, .int .i64 b3, .int .i64 b4, .int .i64 b5, .int .i64 b6, .int .i64 b7, .int .i64 b8, .int .i64 b9, .int .i64 b10, .int .i64 b11, .int .i64 b12, .int .i64 b13]))) := agg_neq (xs := [.int .i64 a0, .int .i64 a1, .int .i64 a2, .int .i64 a3, .int .i64 a4, .int .i64 a5, .int .i64 a6, .int .i64 a7, .int .i64 a8, .int .i64 a9, .int .i64 a10, .int .i64 a11, .int .i64 a12, .int .i64 a13]) (ys := [.int .i64 b0, .int .i64 b1, .int .i64 b2, .int .i64 b3, .int .i64 b4, .int .i64 b5, .int .i64 b6, .int .i64 b7, .int .i64 b8, .int .i64 b9, .int .i64 b10, .int .i64 b11, .int .i64 b12, .int .i64 b13]) eqk73 (by decide) eqg73 rfl rfl K
@[simp] theorem eqlA73 (a0 b0 : Int) (a1 b1 : Int) (a2 b2 : Int) (a3 b3 : Int) (a4 b4 : Int) (a5 b5 : Int) (a6 b6 : Int) (a7 b7 : Int) (a8 b8 : Int) (a9 b9 : Int) (a10 b10 : Int) (a11 b11 : Int) (a12 b12 : Int) (a13 b13 : Int) (K : Value → Prop) : aggBin Tryz.prog .eql 73 [.d (.s (.int .i64 a0)), .d (.s (.int .i64 a1)), .d (.s (.int .i64 a2)), .d (.s (.int .i64 a3)), .d (.s (.int .i64 a4)), .d (.s (.int .i64 a5)), .d (.s (.int .i64 a6)), .d (.s (.int .i64 a7)), .d (.s (.int .i64 a8)), .d (.s (.int .i64 a9)), .d (.s (.int .i64 a10)), .d (.s (.int .i64 a11)), .d (.s (.int .i64 a12)), .d (.s (.int .i64 a13))] [.d (.s (.int .i64 b0)), .d (.s (.int .i64 b1)), .d (.s (.int .i64 b2)), .d (.s (.int .i64 b3)), .d (.s (.int .i64 b4)), .d (.s (.int .i64 b5)), .d (.s (.int .i64 b6)), .d (.s (.int .i64 b7)), .d (.s (.int .i64 b8)), .d (.s (.int .i64 b9)), .d (.s (.int .i64 b10)), .d (.s (.int .i64 b11)), .d (.s (.int .i64 b12)), .d (.s (.int .i64 b13))] K = K (.bool ((eqVs [.int .i64 a0, .int .i64 a1, .int .i64 a2, .int .i64 a3, .int .i64 a4, .int .i64 a5, .int .i64 a6, .int .i64 a7, .int .i64 a8, .int .i64 a9, .int .i64 a10, .int .i64 a11, .int .i64 a12, .int .i64 a13] [.int .i64 b0, .int .i64 b1, .int .i64 b2, .int .i64 b3, .int .i64 b4, .int .i64 b5, .int .i64 b6, .int .i64 b7, .int .i64 b8, .int .i64 b9, .int .i64 b10, .int .i64 b11, .int .i64 b12, .int .i64 b13]))) := agg_eql (xs := [.int .i64 a0, .int .i64 a1, .int .i64 a2, .int .i64 a3, .int .i64 a4, .int .i64 a5, .int .i64 a6, .int .i64 a7, .int .i64 a8, .int .i64 a9, .int .i64 a10, .int .i64 a11, .int .i64 a12, .int .i64 a13]) (ys := [.int .i64 b0, .int .i64 b1, .int .i64 b2, .int .i64 b3, .int .i64 b4, .int .i64 b5, .int .i64 b6, .int .i64 b7, .int .i64 b8, .int .i64 b9, .int .i64 b10, .int .i64 b11, .int .i64 b12, .int .i64 b13]) eqk73 (by decide) eqg73 rfl rfl K
@[simp] theorem ze73 : zeroT Tryz.prog 73 = some [.d (.s (.int .i64 0)), .d (.s (.int .i64 0)), .d (.s (.int .i64 0)), .d (.s (.int .i64 0)), .d (.s (.int .i64 0)), .d (.s (.int .i64 0)), .d (.s (.int .i64 0)), .d (.s (.int .i64 0)), .d (.s (.int .i64 0)), .d (.s (.int .i64 0)), .d (.s (.int .i64 0)), .d (.s (.int .i64 0)), .d (.s (.int .i64 0)), .d (.s (.int .i64 0))] := by kernel_rfl
@[simp] theorem fi73_0 : fieldT Tryz.prog 73 0 = some (0, 1, false) := by kernel_rfl
@[simp] theorem fi73_1 : fieldT Tryz.prog 73 1 = some (1, 10, true) := by kernel_rfl
@[simp] theorem fi73_2 : fieldT Tryz.prog 73 2 = some (11, 1, false) := by kernel_rfl
@[simp] theorem fi73_3 : fieldT Tryz.prog 73 3 = some (12, 1, false) := by kernel_rfl
@[simp] theorem fi73_4 : fieldT Tryz.prog 73 4 = some (13, 1, false) := by kernel_rfl
@[simp] theorem pl73 : placesT Tryz.prog 73 = some [(0, 1), (1, 10), (11, 1), (12, 1), (13, 1)] := by kernel_rfl
@[simp] theorem sz74 : szOf Tryz.prog 74 = some 14 := by kernel_rfl
@[simp] theorem ag74 : aggT Tryz.prog 74 = some true := by kernel_rfl
@[simp] theorem un74 : unitT Tryz.prog 74 = some 14 := by kernel_rfl
theorem kd74 : kindT Tryz.prog 12 74 = some [.int .i64, .int .i64, .int .i64, .int .i64, .int .i64, .int .i64, .int .i64, .int .i64, .int .i64, .int .i64, .int .i64, .int .i64, .int .i64, .int .i64] := by kernel_rfl
theorem eqk74 : eqT Tryz.prog 8 74 = some (true, [.int .i64, .int .i64, .int .i64, .int .i64, .int .i64, .int .i64, .int .i64, .int .i64, .int .i64, .int .i64, .int .i64, .int .i64, .int .i64, .int .i64]) := by kernel_rfl
theorem eqg74 : (Tryz.prog).eqGuardType (Tryz.prog).depth 74 = false := by kernel_rfl
@[simp] theorem neqA74 (a0 b0 : Int) (a1 b1 : Int) (a2 b2 : Int) (a3 b3 : Int) (a4 b4 : Int) (a5 b5 : Int) (a6 b6 : Int) (a7 b7 : Int) (a8 b8 : Int) (a9 b9 : Int) (a10 b10 : Int) (a11 b11 : Int) (a12 b12 : Int) (a13 b13 : Int) (K : Value → Prop) : aggBin Tryz.prog .neq 74 [.d (.s (.int .i64 a0)), .d (.s (.int .i64 a1)), .d (.s (.int .i64 a2)), .d (.s (.int .i64 a3)), .d (.s (.int .i64 a4)), .d (.s (.int .i64 a5)), .d (.s (.int .i64 a6)), .d (.s (.int .i64 a7)), .d (.s (.int .i64 a8)), .d (.s (.int .i64 a9)), .d (.s (.int .i64 a10)), .d (.s (.int .i64 a11)), .d (.s (.int .i64 a12)), .d (.s (.int .i64 a13))] [.d (.s (.int .i64 b0)), .d (.s (.int .i64 b1)), .d (.s (.int .i64 b2)), .d (.s (.int .i64 b3)), .d (.s (.int .i64 b4)), .d (.s (.int .i64 b5)), .d (.s (.int .i64 b6)), .d (.s (.int .i64 b7)), .d (.s (.int .i64 b8)), .d (.s (.int .i64 b9)), .d (.s (.int .i64 b10)), .d (.s (.int .i64 b11)), .d (.s (.int .i64 b12)), .d (.s (.int .i64 b13))] K = K (.bool (!(eqVs [.int .i64 a0, .int .i64 a1, .int .i64 a2, .int .i64 a3, .int .i64 a4, .int .i64 a5, .int .i64 a6, .int .i64 a7, .int .i64 a8, .int .i64 a9, .int .i64 a10, .int .i64 a11, .int .i64 a12, .int .i64 a13] [.int .i64 b0, .int .i64 b1, .int .i64 b2, .int .i64 b3, .int .i64 b4, .int .i64 b5, .int .i64 b6, .int .i64 b7, .int .i64 b8, .int .i64 b9, .int .i64 b10, .int .i64 b11, .int .i64 b12, .int .i64 b13]))) := agg_neq (xs := [.int .i64 a0, .int .i64 a1, .int .i64 a2, .int .i64 a3, .int .i64 a4, .int .i64 a5, .int .i64 a6, .int .i64 a7, .int .i64 a8, .int .i64 a9, .int .i64 a10, .int .i64 a11, .int .i64 a12, .int .i64 a13]) (ys := [.int .i64 b0, .int .i64 b1, .int .i64 b2, .int .i64 b3, .int .i64 b4, .int .i64 b5, .int .i64 b6, .int .i64 b7, .int .i64 b8, .int .i64 b9, .int .i64 b10, .int .i64 b11, .int .i64 b12, .int .i64 b13]) eqk74 (by decide) eqg74 rfl rfl K
@[simp] theorem eqlA74 (a0 b0 : Int) (a1 b1 : Int) (a2 b2 : Int) (a3 b3 : Int) (a4 b4 : Int) (a5 b5 : Int) (a6 b6 : Int) (a7 b7 : Int) (a8 b8 : Int) (a9 b9 : Int) (a10 b10 : Int) (a11 b11 : Int) (a12 b12 : Int) (a13 b13 : Int) (K : Value → Prop) : aggBin Tryz.prog .eql 74 [.d (.s (.int .i64 a0)), .d (.s (.int .i64 a1)), .d (.s (.int .i64 a2)), .d (.s (.int .i64 a3)), .d (.s (.int .i64 a4)), .d (.s (.int .i64 a5)), .d (.s (.int .i64 a6)), .d (.s (.int .i64 a7)), .d (.s (.int .i64 a8)), .d (.s (.int .i64 a9)), .d (.s (.int .i64 a10)), .d (.s (.int .i64 a11)), .d (.s (.int .i64 a12)), .d (.s (.int .i64 a13))] [.d (.s (.int .i64 b0)), .d (.s (.int .i64 b1)), .d (.s (.int .i64 b2)), .d (.s (.int .i64 b3)), .d (.s (.int .i64 b4)), .d (.s (.int .i64 b5)), .d (.s (.int .i64 b6)), .d (.s (.int .i64 b7)), .d (.s (.int .i64 b8)), .d (.s (.int .i64 b9)), .d (.s (.int .i64 b10)), .d (.s (.int .i64 b11)), .d (.s (.int .i64 b12)), .d (.s (.int .i64 b13))] K = K (.bool ((eqVs [.int .i64 a0, .int .i64 a1, .int .i64 a2, .int .i64 a3, .int .i64 a4, .int .i64 a5, .int .i64 a6, .int .i64 a7, .int .i64 a8, .int .i64 a9, .int .i64 a10, .int .i64 a11, .int .i64 a12, .int .i64 a13] [.int .i64 b0, .int .i64 b1, .int .i64 b2, .int .i64 b3, .int .i64 b4, .int .i64 b5, .int .i64 b6, .int .i64 b7, .int .i64 b8, .int .i64 b9, .int .i64 b10, .int .i64 b11, .int .i64 b12, .int .i64 b13]))) := agg_eql (xs := [.int .i64 a0, .int .i64 a1, .int .i64 a2, .int .i64 a3, .int .i64 a4, .int .i64 a5, .int .i64 a6, .int .i64 a7, .int .i64 a8, .int .i64 a9, .int .i64 a10, .int .i64 a11, .int .i64 a12, .int .i64 a13]) (ys := [.int .i64 b0, .int .i64 b1, .int .i64 b2, .int .i64 b3, .int .i64 b4, .int .i64 b5, .int .i64 b6, .int .i64 b7, .int .i64 b8, .int .i64 b9, .int .i64 b10, .int .i64 b11, .int .i64 b12, .int .i64 b13]) eqk74 (by decide) eqg74 rfl rfl K
@[simp] theorem ze74 : zeroT Tryz.prog 74 = some [.d (.s (.int .i64 0)), .d (.s (.int .i64 0)), .d (.s (.int .i64 0)), .d (.s (.int .i64 0)), .d (.s (.int .i64 0)), .d (.s (.int .i64 0)), .d (.s (.int .i64 0)), .d (.s (.int .i64 0)), .d (.s (.int .i64 0)), .d (.s (.int .i64 0)), .d (.s (.int .i64 0)), .d (.s (.int .i64 0)), .d (.s (.int .i64 0)), .d (.s (.int .i64 0))] := by kernel_rfl
@[simp] theorem fi74_0 : fieldT Tryz.prog 74 0 = some (0, 1, false) := by kernel_rfl
@[simp] theorem fi74_1 : fieldT Tryz.prog 74 1 = some (1, 10, true) := by kernel_rfl
@[simp] theorem fi74_2 : fieldT Tryz.prog 74 2 = some (11, 1, false) := by kernel_rfl
@[simp] theorem fi74_3 : fieldT Tryz.prog 74 3 = some (12, 1, false) := by kernel_rfl
@[simp] theorem fi74_4 : fieldT Tryz.prog 74 4 = some (13, 1, false) := by kernel_rfl
@[simp] theorem pl74 : placesT Tryz.prog 74 = some [(0, 1), (1, 10), (11, 1), (12, 1), (13, 1)] := by kernel_rfl
@[simp] theorem sz75 : szOf Tryz.prog 75 = some 1 := by kernel_rfl
@[simp] theorem ag75 : aggT Tryz.prog 75 = some false := by kernel_rfl
@[simp] theorem un75 : unitT Tryz.prog 75 = some 1 := by kernel_rfl
@[simp] theorem ze75 : zeroT Tryz.prog 75 = some [.d (.s .nilFunc)] := by kernel_rfl
@[simp] theorem sz76 : szOf Tryz.prog 76 = some 1 := by kernel_rfl
@[simp] theorem ag76 : aggT Tryz.prog 76 = some false := by kernel_rfl
@[simp] theorem un76 : unitT Tryz.prog 76 = some 1 := by kernel_rfl
@[simp] theorem ze76 : zeroT Tryz.prog 76 = some [.d (.s .nilFunc)] := by kernel_rfl
@[simp] theorem sz77 : szOf Tryz.prog 77 = some 1 := by kernel_rfl
@[simp] theorem ag77 : aggT Tryz.prog 77 = some false := by kernel_rfl
@[simp] theorem un77 : unitT Tryz.prog 77 = some 1 := by kernel_rfl
@[simp] theorem ze77 : zeroT Tryz.prog 77 = some [.d (.s .nilFunc)] := by kernel_rfl
@[simp] theorem sz78 : szOf Tryz.prog 78 = some 1 := by kernel_rfl
@[simp] theorem ag78 : aggT Tryz.prog 78 = some false := by kernel_rfl
@[simp] theorem un78 : unitT Tryz.prog 78 = some 1 := by kernel_rfl
@[simp] theorem ze78 : zeroT Tryz.prog 78 = some [.d (.s .nilFunc)] := by kernel_rfl
@[simp] theorem sz79 : szOf Tryz.prog 79 = some 6 := by kernel_rfl
@[simp] theorem ag79 : aggT Tryz.prog 79 = some true := by kernel_rfl
@[simp] theorem un79 : unitT Tryz.prog 79 = some 6 := by kernel_rfl
theorem kd79 : kindT Tryz.prog 12 79 = some [.int .i64, .slice [.int .i64, .int .i64, .int .i64, .int .i64, .int .i64, .int .i64, .int .i64, .int .i64, .int .i64, .int .i64], .int .i64, .slice [.int .i64, .int .i64, .int .i64, .int .i64, .int .i64, .int .i64, .int .i64], .slice [.int .i64, .bool, .int .i64, .int .i64, .int .i64, .int .i64, .int .i64, .int .i64, .int .i64], .int .i64] := by kernel_rfl
@[simp] theorem ze79 : zeroT Tryz.prog 79 = some [.d (.s (.int .i64 0)), .d .nil, .d (.s (.int .i64 0)), .d .nil, .d .nil, .d (.s (.int .i64 0))] := by kernel_rfl
@[simp] theorem fi79_0 : fieldT Tryz.prog 79 0 = some (0, 1, false) := by kernel_rfl
@[simp] theorem fi79_1 : fieldT Tryz.prog 79 1 = some (1, 1, false) := by kernel_rfl
@[simp] theorem fi79_2 : fieldT Tryz.prog 79 2 = some (2, 3, true) := by kernel_rfl
@[simp] theorem fi79_3 : fieldT Tryz.prog 79 3 = some (5, 1, false) := by kernel_rfl
@[simp] theorem pl79 : placesT Tryz.prog 79 = some [(0, 1), (1, 1), (2, 3), (5, 1)] := by kernel_rfl
@[simp] theorem sz80 : szOf Tryz.prog 80 = some 6 := by kernel_rfl
@[simp] theorem ag80 : aggT Tryz.prog 80 = some true := by kernel_rfl
@[simp] theorem un80 : unitT Tryz.prog 80 = some 6 := by kernel_rfl
theorem kd80 : kindT Tryz.prog 12 80 = some [.int .i64, .slice [.int .i64, .int .i64, .int .i64, .int .i64, .int .i64, .int .i64, .int .i64, .int .i64, .int .i64, .int .i64], .int .i64, .slice [.int .i64, .int .i64, .int .i64, .int .i64, .int .i64, .int .i64, .int .i64], .slice [.int .i64, .bool, .int .i64, .int .i64, .int .i64, .int .i64, .int .i64, .int .i64, .int .i64], .int .i64] := by kernel_rfl
@[simp] theorem ze80 : zeroT Tryz.prog 80 = some [.d (.s (.int .i64 0)), .d .nil, .d (.s (.int .i64 0)), .d .nil, .d .nil, .d (.s (.int .i64 0))] := by kernel_rfl
@[simp] theorem fi80_0 : fieldT Tryz.prog 80 0 = some (0, 1, false) := by kernel_rfl
@[simp] theorem fi80_1 : fieldT Tryz.prog 80 1 = some (1, 1, false) := by kernel_rfl
@[simp] theorem fi80_2 : fieldT Tryz.prog 80 2 = some (2, 3, true) := by kernel_rfl
@[simp] theorem fi80_3 : fieldT Tryz.prog 80 3 = some (5, 1, false) := by kernel_rfl
@[simp] theorem pl80 : placesT Tryz.prog 80 = some [(0, 1), (1, 1), (2, 3), (5, 1)] := by kernel_rfl
@[simp] theorem sz81 : szOf Tryz.prog 81 = some 1 := by kernel_rfl
@[simp] theorem ag81 : aggT Tryz.prog 81 = some false := by kernel_rfl
@[simp] theorem un81 : unitT Tryz.prog 81 = some 1 := by kernel_rfl
@[simp] theorem ze81 : zeroT Tryz.prog 81 = some [.d (.s .nilFunc)] := by kernel_rfl
@[simp] theorem sz82 : szOf Tryz.prog 82 = some 1 := by kernel_rfl
@[simp] theorem ag82 : aggT Tryz.prog 82 = some false := by kernel_rfl
@[simp] theorem un82 : unitT Tryz.prog 82 = some 1 := by kernel_rfl
@[simp] theorem ze82 : zeroT Tryz.prog 82 = some [.d (.s .nilFunc)] := by kernel_rfl
@[simp] theorem sz83 : szOf Tryz.prog 83 = some 1 := by kernel_rfl
@[simp] theorem ag83 : aggT Tryz.prog 83 = some false := by kernel_rfl
@[simp] theorem un83 : unitT Tryz.prog 83 = some 1 := by kernel_rfl
@[simp] theorem ze83 : zeroT Tryz.prog 83 = some [.d (.s .nilFunc)] := by kernel_rfl
@[simp] theorem sz84 : szOf Tryz.prog 84 = some 1 := by kernel_rfl
@[simp] theorem ag84 : aggT Tryz.prog 84 = some false := by kernel_rfl
@[simp] theorem un84 : unitT Tryz.prog 84 = some 1 := by kernel_rfl
@[simp] theorem ze84 : zeroT Tryz.prog 84 = some [.d (.s .nilFunc)] := by kernel_rfl
@[simp] theorem sz85 : szOf Tryz.prog 85 = some 1 := by kernel_rfl
@[simp] theorem ag85 : aggT Tryz.prog 85 = some false := by kernel_rfl
@[simp] theorem un85 : unitT Tryz.prog 85 = some 1 := by kernel_rfl
@[simp] theorem sz86 : szOf Tryz.prog 86 = some 1 := by kernel_rfl
@[simp] theorem ag86 : aggT Tryz.prog 86 = some false := by kernel_rfl
@[simp] theorem un86 : unitT Tryz.prog 86 = some 1 := by kernel_rfl
@[simp] theorem ze86 : zeroT Tryz.prog 86 = some [.d (.s .nilFunc)] := by kernel_rfl
@[simp] theorem sz87 : szOf Tryz.prog 87 = some 1 := by kernel_rfl
@[simp] theorem ag87 : aggT Tryz.prog 87 = some false := by kernel_rfl
@[simp] theorem un87 : unitT Tryz.prog 87 = some 1 := by kernel_rfl
@[simp] theorem ze87 : zeroT Tryz.prog 87 = some [.d (.s .nilFunc)] := by kernel_rfl
@[simp] theorem sz88 : szOf Tryz.prog 88 = some 2 := by kernel_rfl
@[simp] theorem ag88 : aggT Tryz.prog 88 = some true := by kernel_rfl
@[simp] theorem un88 : unitT Tryz.prog 88 = some 2 := by kernel_rfl
theorem kd88 : kindT Tryz.prog 12 88 = some [.int .i64, .slice [.int .u8]] := by kernel_rfl
@[simp] theorem ze88 : zeroT Tryz.prog 88 = some [.d (.s (.int .i64 0)), .d .nil] := by kernel_rfl
@[simp] theorem fi88_0 : fieldT Tryz.prog 88 0 = some (0, 1, false) := by kernel_rfl
@[simp] theorem fi88_1 : fieldT Tryz.prog 88 1 = some (1, 1, false) := by kernel_rfl
@[simp] theorem pl88 : placesT Tryz.prog 88 = some [(0, 1), (1, 1)] := by kernel_rfl
@[simp] theorem sz89 : szOf Tryz.prog 89 = some 2 := by kernel_rfl
@[simp] theorem ag89 : aggT Tryz.prog 89 = some true := by kernel_rfl
@[simp] theorem un89 : unitT Tryz.prog 89 = some 2 := by kernel_rfl
theorem kd89 : kindT Tryz.prog 12 89 = some [.int .i64, .slice [.int .u8]] := by kernel_rfl
@[simp] theorem ze89 : zeroT Tryz.prog 89 = some [.d (.s (.int .i64 0)), .d .nil] := by kernel_rfl
@[simp] theorem fi89_0 : fieldT Tryz.prog 89 0 = some (0, 1, false) := by kernel_rfl
@[simp] theorem fi89_1 : fieldT Tryz.prog 89 1 = some (1, 1, false) := by kernel_rfl
@[simp] theorem pl89 : placesT Tryz.prog 89 = some [(0, 1), (1, 1)] := by kernel_rfl
@[simp] theorem sz90 : szOf Tryz.prog 90 = some 1 := by kernel_rfl
@[simp] theorem ag90 : aggT Tryz.prog 90 = some false := by kernel_rfl
@[simp] theorem un90 : unitT Tryz.prog 90 = some 1 := by kernel_rfl
@[simp] theorem ze90 : zeroT Tryz.prog 90 = some [.d (.s .nilFunc)] := by kernel_rfl
@[simp] theorem sz91 : szOf Tryz.prog 91 = some 1 := by kernel_rfl
@[simp] theorem ag91 : aggT Tryz.prog 91 = some false := by kernel_rfl
@[simp] theorem un91 : unitT Tryz.prog 91 = some 1 := by kernel_rfl
@[simp] theorem ze91 : zeroT Tryz.prog 91 = some [.d (.s .nilFunc)] := by kernel_rfl
@[simp] theorem sz92 : szOf Tryz.prog 92 = some 1 := by kernel_rfl
@[simp] theorem ag92 : aggT Tryz.prog 92 = some false := by kernel_rfl
@[simp] theorem un92 : unitT Tryz.prog 92 = some 1 := by kernel_rfl
theorem kd92 : kindT Tryz.prog 12 92 = some [.slice [.int .i64, .int .i64, .int .i64, .int .i64, .int .i64, .int .i64, .int .i64]] := by kernel_rfl
@[simp] theorem sl92 : sliceT Tryz.prog 92 = some (96, 7, 56) := by kernel_rfl
@[simp] theorem ze92 : zeroT Tryz.prog 92 = some [.d .nil] := by kernel_rfl
@[simp] theorem sz93 : szOf Tryz.prog 93 = some 1 := by kernel_rfl
@[simp] theorem ag93 : aggT Tryz.prog 93 = some false := by kernel_rfl
@[simp] theorem un93 : unitT Tryz.prog 93 = some 1 := by kernel_rfl
theorem kd93 : kindT Tryz.prog 12 93 = some [.slice [.int .i64, .bool, .int .i64, .int .i64, .int .i64, .int .i64, .int .i64, .int .i64, .int .i64]] := by kernel_rfl
@[simp] theorem sl93 : sliceT Tryz.prog 93 = some (263, 9, 72) := by kernel_rfl
@[simp] theorem ze93 : zeroT Tryz.prog 93 = some [.d .nil] := by kernel_rfl
@[simp] theorem sz94 : szOf Tryz.prog 94 = some 3 := by kernel_rfl
@[simp] theorem ag94 : aggT Tryz.prog 94 = some true := by kernel_rfl
@[simp] theorem un94 : unitT Tryz.prog 94 = some 3 := by kernel_rfl
theorem kd94 : kindT Tryz.prog 12 94 = some [.int .i64, .slice [.int .i64, .int .i64, .int .i64, .int .i64, .int .i64, .int .i64, .int .i64], .slice [.int .i64, .bool, .int .i64, .int .i64, .int .i64, .int .i64, .int .i64, .int .i64, .int .i64]] := by kernel_rfl
@[simp] theorem ze94 : zeroT Tryz.prog 94 = some [.d (.s (.int .i64 0)), .d .nil, .d .nil] := by kernel_rfl
@[simp] theorem fi94_0 : fieldT Tryz.prog 94 0 = some (0, 1, false) := by kernel_rfl
@[simp] theorem fi94_1 : fieldT Tryz.prog 94 1 = some (1, 1, false) := by kernel_rfl
@[simp] theorem fi94_2 : fieldT Tryz.prog 94 2 = some (2, 1, false) := by kernel_rfl
@[simp] theorem pl94 : placesT Tryz.prog 94 = some [(0, 1), (1, 1), (2, 1)] := by kernel_rfl
@[simp] theorem sz95 : szOf Tryz.prog 95 = some 3 := by kernel_rfl
@[simp] theorem ag95 : aggT Tryz.prog 95 = some true := by kernel_rfl
@[simp] theorem un95 : unitT Tryz.prog 95 = some 3 := by kernel_rfl
theorem kd95 : kindT Tryz.prog 12 95 = some [.int .i64, .slice [.int .i64, .int .i64, .int .i64, .int .i64, .int .i64, .int .i64, .int .i64], .slice [.int .i64, .bool, .int .i64, .int .i64, .int .i64, .int .i64, .int .i64, .int .i64, .int .i64]] := by kernel_rfl
@[simp] theorem ze95 : zeroT Tryz.prog 95 = some [.d (.s (.int .i64 0)), .d .nil, .d .nil] := by kernel_rfl
@[simp] theorem fi95_0 : fieldT Tryz.prog 95 0 = some (0, 1, false) := by kernel_rfl
@[simp] theorem fi95_1 : fieldT Tryz.prog 95 1 = some (1, 1, false) := by kernel_rfl
@[simp] theorem fi95_2 : fieldT Tryz.prog 95 2 = some (2, 1, false) := by kernel_rfl
@[simp] theorem pl95 : placesT Tryz.prog 95 = some [(0, 1), (1, 1), (2, 1)] := by kernel_rfl
@[simp] theorem sz96 : szOf Tryz.prog 96 = some 7 := by kernel_rfl
@[simp] theorem ag96 : aggT Tryz.prog 96 = some true := by kernel_rfl
@[simp] theorem un96 : unitT Tryz.prog 96 = some 7 := by kernel_rfl
theorem kd96 : kindT Tryz.prog 12 96 = some [.int .i64, .int .i64, .int .i64, .int .i64, .int .i64, .int .i64, .int .i64] := by kernel_rfl
theorem eqk96 : eqT Tryz.prog 8 96 = some (true, [.int .i64, .int .i64, .int .i64, .int .i64, .int .i64, .int .i64, .int .i64]) := by kernel_rfl
theorem eqg96 : (Tryz.prog).eqGuardType (Tryz.prog).depth 96 = false := by kernel_rfl
@[simp] theorem neqA96 (a0 b0 : Int) (a1 b1 : Int) (a2 b2 : Int) (a3 b3 : Int) (a4 b4 : Int) (a5 b5 : Int) (a6 b6 : Int) (K : Value → Prop) : aggBin Tryz.prog .neq 96 [.d (.s (.int .i64 a0)), .d (.s (.int .i64 a1)), .d (.s (.int .i64 a2)), .d (.s (.int .i64 a3)), .d (.s (.int .i64 a4)), .d (.s (.int .i64 a5)), .d (.s (.int .i64 a6))] [.d (.s (.int .i64 b0)), .d (.s (.int .i64 b1)), .d (.s (.int .i64 b2)), .d (.s (.int .i64 b3)), .d (.s (.int .i64 b4)), .d (.s (.int .i64 b5)), .d (.s (.int .i64 b6))] K = K (.bool (!(eqVs [.int .i64 a0, .int .i64 a1, .int .i64 a2, .int .i64 a3, .int .i64 a4, .int .i64 a5, .int .i64 a6] [.int .i64 b0, .int .i64 b1, .int .i64 b2, .int .i64 b3, .int .i64 b4, .int .i64 b5, .int .i64 b6]))) := agg_neq (xs := [.int .i64 a0, .int .i64 a1, .int .i64 a2, .int .i64 a3, .int .i64 a4, .int .i64 a5, .int .i64 a6]) (ys := [.int .i64 b0, .int .i64 b1, .int .i64 b2, .int .i64 b3, .int .i64 b4, .int .i64 b5, .int .i64 b6]) eqk96 (by decide) eqg96 rfl rfl K
@[simp] theorem eqlA96 (a0 b0 : Int) (a1 b1 : Int) (a2 b2 : Int) (a3 b3 : Int) (a4 b4 : Int) (a5 b5 : Int) (a6 b6 : Int) (K : Value → Prop) : aggBin Tryz.prog .eql 96 [.d (.s (.int .i64 a0)), .d (.s (.int .i64 a1)), .d (.s (.int .i64 a2)), .d (.s (.int .i64 a3)), .d (.s (.int .i64 a4)), .d (.s (.int .i64 a5)), .d (.s (.int .i64 a6))] [.d (.s (.int .i64 b0)), .d (.s (.int .i64 b1)), .d (.s (.int .i64 b2)), .d (.s (.int .i64 b3)), .d (.s (.int .i64 b4)), .d (.s (.int .i64 b5)), .d (.s (.int .i64 b6))] K = K (.bool ((eqVs [.int .i64 a0, .int .i64 a1, .int .i64 a2, .int .i64 a3, .int .i64 a4, .int .i64 a5, .int .i64 a6] [.int .i64 b0, .int .i64 b1, .int .i64 b2, .int .i64 b3, .int .i64 b4, .int .i64 b5, .int .i64 b6]))) := agg_eql (xs := [.int .i64 a0, .int .i64 a1, .int .i64 a2, .int .i64 a3, .int .i64 a4, .int .i64 a5, .int .i64 a6]) (ys := [.int .i64 b0, .int .i64 b1, .int .i64 b2, .int .i64 b3, .int .i64 b4, .int .i64 b5, .int .i64 b6]) eqk96 (by decide) eqg96 rfl rfl K
@[simp] theorem ze96 : zeroT Tryz.prog 96 = some [.d (.s (.int .i64 0)), .d (.s (.int .i64 0)), .d (.s (.int .i64 0)), .d (.s (.int .i64 0)), .d (.s (.int .i64 0)), .d (.s (.int .i64 0)), .d (.s (.int .i64 0))] := by kernel_rfl
@[simp] theorem fi96_0 : fieldT Tryz.prog 96 0 = some (0, 1, false) := by kernel_rfl
@[simp] theorem fi96_1 : fieldT Tryz.prog 96 1 = some (1, 1, false) := by kernel_rfl
@[simp] theorem fi96_2 : fieldT Tryz.prog 96 2 = some (2, 1, false) := by kernel_rfl
@[simp] theorem fi96_3 : fieldT Tryz.prog 96 3 = some (3, 1, false) := by kernel_rfl
@[simp] theorem fi96_4 : fieldT Tryz.prog 96 4 = some (4, 1, false) := by kernel_rfl
@[simp] theorem fi96_5 : fieldT Tryz.prog 96 5 = some (5, 1, false) := by kernel_rfl
@[simp] theorem fi96_6 : fieldT Tryz.prog 96 6 = some (6, 1, false) := by kernel_rfl
@[simp] theorem pl96 : placesT Tryz.prog 96 = some [(0, 1), (1, 1), (2, 1), (3, 1), (4, 1), (5, 1), (6, 1)] := by kernel_rfl
@[simp] theorem sz97 : szOf Tryz.prog 97 = some 10 := by kernel_rfl
@[simp] theorem ag97 : aggT Tryz.prog 97 = some true := by kernel_rfl
@[simp] theorem un97 : unitT Tryz.prog 97 = some 10 := by kernel_rfl
theorem kd97 : kindT Tryz.prog 12 97 = some [.int .i64, .int .i64, .int .i64, .int .i64, .int .i64, .int .i64, .int .i64, .int .i64, .int .i64, .int .i64] := by kernel_rfl
theorem eqk97 : eqT Tryz.prog 8 97 = some (true, [.int .i64, .int .i64, .int .i64, .int .i64, .int .i64, .int .i64, .int .i64, .int .i64, .int .i64, .int .i64]) := by kernel_rfl
theorem eqg97 : (Tryz.prog).eqGuardType (Tryz.prog).depth 97 = false := by kernel_rfl
@[simp] theorem neqA97 (a0 b0 : Int) (a1 b1 : Int) (a2 b2 : Int) (a3 b3 : Int) (a4 b4 : Int) (a5 b5 : Int) (a6 b6 : Int) (a7 b7 : Int) (a8 b8 : Int) (a9 b9 : Int) (K : Value → Prop) : aggBin Tryz.prog .neq 97 [.d (.s (.int .i64 a0)), .d (.s (.int .i64 a1)), .d (.s (.int .i64 a2)), .d (.s (.int .i64 a3)), .d (.s (.int .i64 a4)), .d (.s (.int .i64 a5)), .d (.s (.int .i64 a6)), .d (.s (.int .i64 a7)), .d (.s (.int .i64 a8)), .d (.s (.int .i64 a9))] [.d (.s (.int .i64 b0)), .d (.s (.int .i64 b1)), .d (.s (.int .i64 b2)), .d (.s (.int .i64 b3)), .d (.s (.int .i64 b4)), .d (.s (.int .i64 b5)), .d (.s (.int .i64 b6)), .d (.s (.int .i64 b7)), .d (.s (.int .i64 b8)), .d (.s (.int .i64 b9))] K = K (.bool (!(eqVs [.int .i64 a0, .int .i64 a1, .int .i64 a2, .int .i64 a3, .int .i64 a4, .int .i64 a5, .int .i64 a6, .int .i64 a7, .int .i64 a8, .int .i64 a9] [.int .i64 b0, .int .i64 b1, .int .i64 b2, .int .i64 b3, .int .i64 b4, .int .i64 b5, .int .i64 b6, .int .i64 b7, .int .i64 b8, .int .i64 b9]))) := agg_neq (xs := [.int .i64 a0, .int .i64 a1, .int .i64 a2, .int .i64 a3, .int .i64 a4, .int .i64 a5, .int .i64 a6, .int .i64 a7, .int .i64 a8, .int .i64 a9]) (ys := [.int .i64 b0, .int .i64 b1, .int .i64 b2, .int .i64 b3, .int .i64 b4, .int .i64 b5, .int .i64 b6, .int .i64 b7, .int .i64 b8, .int .i64 b9]) eqk97 (by decide) eqg97 rfl rfl K
@[simp] theorem eqlA97 (a0 b0 : Int) (a1 b1 : Int) (a2 b2 : Int) (a3 b3 : Int) (a4 b4 : Int) (a5 b5 : Int) (a6 b6 : Int) (a7 b7 : Int) (a8 b8 : Int) (a9 b9 : Int) (K : Value → Prop) : aggBin Tryz.prog .eql 97 [.d (.s (.int .i64 a0)), .d (.s (.int .i64 a1)), .d (.s (.int .i64 a2)), .d (.s (.int .i64 a3)), .d (.s (.int .i64 a4)), .d (.s (.int .i64 a5)), .d (.s (.int .i64 a6)), .d (.s (.int .i64 a7)), .d (.s (.int .i64 a8)), .d (.s (.int .i64 a9))] [.d (.s (.int .i64 b0)), .d (.s (.int .i64 b1)), .d (.s (.int .i64 b2)), .d (.s (.int .i64 b3)), .d (.s (.int .i64 b4)), .d (.s (.int .i64 b5)), .d (.s (.int .i64 b6)), .d (.s (.int .i64 b7)), .d (.s (.int .i64 b8)), .d (.s (.int .i64 b9))] K = K (.bool ((eqVs [.int .i64 a0, .int .i64 a1, .int .i64 a2, .int .i64 a3, .int .i64 a4, .int .i64 a5, .int .i64 a6, .int .i64 a7, .int .i64 a8, .int .i64 a9] [.int .i64 b0, .int .i64 b1, .int .i64 b2, .int .i64 b3, .int .i64 b4, .int .i64 b5, .int .i64 b6, .int .i64 b7, .int .i64 b8, .int .i64 b9]))) := agg_eql (xs := [.int .i64 a0, .int .i64 a1, .int .i64 a2, .int .i64 a3, .int .i64 a4, .int .i64 a5, .int .i64 a6, .int .i64 a7, .int .i64 a8, .int .i64 a9]) (ys := [.int .i64 b0, .int .i64 b1, .int .i64 b2, .int .i64 b3, .int .i64 b4, .int .i64 b5, .int .i64 b6, .int .i64 b7, .int .i64 b8, .int .i64 b9]) eqk97 (by decide) eqg97 rfl rfl K
@[simp] theorem ze97 : zeroT Tryz.prog 97 = some [.d (.s (.int .i64 0)), .d (.s (.int .i64 0)), .d (.s (.int .i64 0)), .d (.s (.int .i64 0)), .d (.s (.int .i64 0)), .d (.s (.int .i64 0)), .d (.s (.int .i64 0)), .d (.s (.int .i64 0)), .d (.s (.int .i64 0)), .d (.s (.int .i64 0))] := by kernel_rfl
@[simp] theorem fi97_0 : fieldT Tryz.prog 97 0 = some (0, 1, false) := by kernel_rfl
@[simp] theorem fi97_1 : fieldT Tryz.prog 97 1 = some (1, 7, true) := by kernel_rfl
@[simp] theorem fi97_2 : fieldT Tryz.prog 97 2 = some (8, 1, false) := by kernel_rfl
@[simp] theorem fi97_3 : fieldT Tryz.prog 97 3 = some (9, 1, false) := by kernel_rfl
@[simp] theorem pl97 : placesT Tryz.prog 97 = some [(0, 1), (1, 7), (8, 1), (9, 1)] := by kernel_rfl
@[simp] theorem sz98 : szOf Tryz.prog 98 = some 10 := by kernel_rfl
@[simp] theorem ag98 : aggT Tryz.prog 98 = some true := by kernel_rfl
@[simp] theorem un98 : unitT Tryz.prog 98 = some 10 := by kernel_rfl
theorem kd98 : kindT Tryz.prog 12 98 = some [.int .i64, .int .i64, .int .i64, .int .i64, .int .i64, .int .i64, .int .i64, .int .i64, .int .i64, .int .i64] := by kernel_rfl
theorem eqk98 : eqT Tryz.prog 8 98 = some (true, [.int .i64, .int .i64, .int .i64, .int .i64, .int .i64, .int .i64, .int .i64, .int .i64, .int .i64, .int .i64]) := by kernel_rfl
theorem eqg98 : (Tryz.prog).eqGuardType (Tryz.prog).depth 98 = false := by kernel_rfl
@[simp] theorem neqA98 (a0 b0 : Int) (a1 b1 : Int) (a2 b2 : Int) (a3 b3 : Int) (a4 b4 : Int) (a5 b5 : Int) (a6 b6 : Int) (a7 b7 : Int) (a8 b8 : Int) (a9 b9 : Int) (K : Value → Prop) : aggBin Tryz.prog .neq 98 [.d (.s (.int .i64 a0)), .d (.s (.int .i64 a1)), .d (.s (.int .i64 a2)), .d (.s (.int .i64 a3)), .d (.s (.int .i64 a4)), .d (.s (.int .i64 a5)), .d (.s (.int .i64 a6)), .d (.s (.int .i64 a7)), .d (.s (.int .i64 a8)), .d (.s (.int .i64 a9))] [.d (.s (.int .i64 b0)), .d (.s (.int .i64 b1)), .d (.s (.int .i64 b2)), .d (.s (.int .i64 b3)), .d (.s (.int .i64 b4)), .d (.s (.int .i64 b5)), .d (.s (.int .i64 b6)), .d (.s (.int .i64 b7)), .d (.s (.int .i64 b8)), .d (.s (.int .i64 b9))] K = K (.bool (!(eqVs [.int .i64 a0, .int .i64 a1, .int .i64 a2, .int .i64 a3, .int .i64 a4, .int .i64 a5, .int .i64 a6, .int .i64 a7, .int .i64 a8, .int .i64 a9] [.int .i64 b0, .int .i64 b1, .int .i64 b2, .int .i64 b3, .int .i64 b4, .int .i64 b5, .int .i64 b6, .int .i64 b7, .int .i64 b8, .int .i64 b9]))) := agg_neq (xs := [.int .i64 a0, .int .i64 a1, .int .i64 a2, .int .i64 a3, .int .i64 a4, .int .i64 a5, .int .i64 a6, .int .i64 a7, .int .i64 a8, .int .i64 a9]) (ys := [.int .i64 b0, .int .i64 b1, .int .i64 b2, .int .i64 b3, .int .i64 b4, .int .i64 b5, .int .i64 b6, .int .i64 b7, .int .i64 b8, .int .i64 b9]) eqk98 (by decide) eqg98 rfl rfl K
@[simp] theorem eqlA98 (a0 b0 : Int) (a1 b1 : Int) (a2 b2 : Int) (a3 b3 : Int) (a4 b4 : Int) (a5 b5 : Int) (a6 b6 : Int) (a7 b7 : Int) (a8 b8 : Int) (a9 b9 : Int) (K : Value → Prop) : aggBin Tryz.prog .eql 98 [.d (.s (.int .i64 a0)), .d (.s (.int .i64 a1)), .d (.s (.int .i64 a2)), .d (.s (.int .i64 a3)), .d (.s (.int .i64 a4)), .d (.s (.int .i64 a5)), .d (.s (.int .i64 a6)), .d (.s (.int .i64 a7)), .d (.s (.int .i64 a8)), .d (.s (.int .i64 a9))] [.d (.s (.int .i64 b0)), .d (.s (.int .i64 b1)), .d (.s (.int .i64 b2)), .d (.s (.int .i64 b3)), .d (.s (.int .i64 b4)), .d (.s (.int .i64 b5)), .d (.s (.int .i64 b6)), .d (.s (.int .i64 b7)), .d (.s (.int .i64 b8)), .d (.s (.int .i64 b9))] K = K (.bool ((eqVs [.int .i64 a0, .int .i64 a1, .int .i64 a2, .int .i64 a3, .int .i64 a4, .int .i64 a5, .int .i64 a6, .int .i64 a7, .int .i64 a8, .int .i64 a9] [.int .i64 b0, .int .i64 b1, .int .i64 b2, .int .i64 b3, .int .i64 b4, .int .i64 b5, .int .i64 b6, .int .i64 b7, .int .i64 b8, .int .i64 b9]))) := agg_eql (xs := [.int .i64 a0, .int .i64 a1, .int .i64 a2, .int .i64 a3, .int .i64 a4, .int .i64 a5, .int .i64 a6, .int .i64 a7, .int .i64 a8, .int .i64 a9]) (ys := [.int .i64 b0, .int .i64 b1, .int .i64 b2, .int .i64 b3, .int .i64 b4, .int .i64 b5, .int .i64 b6, .int .i64 b7, .int .i64 b8, .int .i64 b9]) eqk98 (by decide) eqg98 rfl rfl K
@[simp] theorem ze98 : zeroT Tryz.prog 98 = some [.d (.s (.int .i64 0)), .d (.s (.int .i64 0)), .d (.s (.int .i64 0)), .d (.s (.int .i64 0)), .d (.s (.int .i64 0)), .d (.s (.int .i64 0)), .d (.s (.int .i64 0)), .d (.s (.int .i64 0)), .d (.s (.int .i64 0)), .d (.s (.int .i64 0))] := by kernel_rfl
@[simp] theorem fi98_0 : fieldT Tryz.prog 98 0 = some (0, 1, false) := by kernel_rfl
@[simp] theorem fi98_1 : fieldT Tryz.prog 98 1 = some (1, 7, true) := by kernel_rfl
@[simp] theorem fi98_2 : fieldT Tryz.prog 98 2 = some (8, 1, false) := by kernel_rfl
@[simp] theorem fi98_3 : fieldT Tryz.prog 98 3 = some (9, 1, false) := by kernel_rfl
@[simp] theorem pl98 : placesT Tryz.prog 98 = some [(0, 1), (1, 7), (8, 1), (9, 1)] := by kernel_rfl
@[simp] theorem sz99 : szOf Tryz.prog 99 = some 1 := by kernel_rfl
@[simp] theorem ag99 : aggT Tryz.prog 99 = some false := by kernel_rfl
@[simp] theorem un99 : unitT Tryz.prog 99 = some 1 := by kernel_rfl
@[simp] theorem ze99 : zeroT Tryz.prog 99 = some [.d (.s .nilFunc)] := by kernel_rfl
@[simp] theorem sz100 : szOf Tryz.prog 100 = some 1 := by kernel_rfl
@[simp] theorem ag100 : aggT Tryz.prog 100 = some false := by kernel_rfl
@[simp] theorem un100 : unitT Tryz.prog 100 = some 1 := by kernel_rfl
@[simp] theorem ze100 : zeroT Tryz.prog 100 = some [.d (.s .nilFunc)] := by kernel_rfl
@[simp] theorem sz101 : szOf Tryz.prog 101 = some 1 := by kernel_rfl
@[simp] theorem ag101 : aggT Tryz.prog 101 = some false := by kernel_rfl
@[simp] theorem un101 : unitT Tryz.prog 101 = some 1 := by kernel_rfl
@[simp] theorem ze101 : zeroT Tryz.prog 101 = some [.d (.s .nilFunc)] := by kernel_rfl
@[simp] theorem sz102 : szOf Tryz.prog 102 = some 1 := by kernel_rfl
@[simp] theorem ag102 : aggT Tryz.prog 102 = some false := by kernel_rfl
@[simp] theorem un102 : unitT Tryz.prog 102 = some 1 := by kernel_rfl
@[simp] theorem ze102 : zeroT Tryz.prog 102 = some [.d (.s .nilFunc)] := by kernel_rfl
@[simp] theorem sz103 : szOf Tryz.prog 103 = some 1 := by kernel_rfl
@[simp] theorem ag103 : aggT Tryz.prog 103 = some false := by kernel_rfl
@[simp] theorem un103 : unitT Tryz.prog 103 = some 1 := by kernel_rfl
@[simp] theorem ze103 : zeroT Tryz.prog 103 = some [.d (.s .nilFunc)] := by kernel_rfl
@[simp] theorem sz104 : szOf Tryz.prog 104 = some 1 := by kernel_rfl
@[simp] theorem ag104 : aggT Tryz.prog 104 = some false := by kernel_rfl
@[simp] theorem un104 : unitT Tryz.prog 104 = some 1 := by kernel_rfl
@[simp] theorem ze104 : zeroT Tryz.prog 104 = some [.d (.s .nilFunc)] := by kernel_rfl
@[simp] theorem sz105 : szOf Tryz.prog 105 = some 1 := by kernel_rfl
@[simp] theorem ag105 : aggT Tryz.prog 105 = some false := by kernel_rfl
@[simp] theorem un105 : unitT Tryz.prog 105 = some 1 := by kernel_rfl
@[simp] theorem ze105 : zeroT Tryz.prog 105 = some [.d (.s .nilFunc)] := by kernel_rfl
@[simp] theorem sz106 : szOf Tryz.prog 106 = some 1 := by kernel_rfl
@[simp] theorem ag106 : aggT Tryz.prog 106 = some false := by kernel_rfl
@[simp] theorem un106 : unitT Tryz.prog 106 = some 1 := by kernel_rfl
theorem kd106 : kindT Tryz.prog 12 106 = some [.slice [.int .i64, .int .i64, .int .i64, .int .i64, .int .i64, .int .i64, .int .i64, .int .i64, .int .i64, .int .i64]] := by kernel_rfl
@[simp] theorem sl106 : sliceT Tryz.prog 106 = some (98, 10, 80) := by kernel_rfl
@[simp] theorem ze106 : zeroT Tryz.prog 106 = some [.d .nil] := by kernel_rfl
@[simp] theorem sz107 : szOf Tryz.prog 107 = some 1 := by kernel_rfl
@[simp] theorem ag107 : aggT Tryz.prog 107 = some false := by kernel_rfl
@[simp] theorem un107 : unitT Tryz.prog 107 = some 1 := by kernel_rfl
@[simp] theorem ze107 : zeroT Tryz.prog 107 = some [.d (.s .nilFunc)] := by kernel_rfl
@[simp] theorem sz108 : szOf Tryz.prog 108 = some 1 := by kernel_rfl
@[simp] theorem ag108 : aggT Tryz.prog 108 = some false := by kernel_rfl
@[simp] theorem un108 : unitT Tryz.prog 108 = some 1 := by kernel_rfl
@[simp] theorem ze108 : zeroT Tryz.prog 108 = some [.d (.s .nilFunc)] := by kernel_rfl
@[simp] theorem sz109 : szOf Tryz.prog 109 = some 1 := by kernel_rfl
@[simp] theorem ag109 : aggT Tryz.prog 109 = some false := by kernel_rfl
@[simp] theorem un109 : unitT Tryz.prog 109 = some 1 := by kernel_rfl
@[simp] theorem ze109 : zeroT Tryz.prog 109 = some [.d (.s .nilFunc)] := by kernel_rfl
@[simp] theorem sz110 : szOf Tryz.prog 110 = some 1 := by kernel_rfl
@[simp] theorem ag110 : aggT Tryz.prog 110 = some false := by kernel_rfl
@[simp] theorem un110 : unitT Tryz.prog 110 = some 1 := by kernel_rfl
@[simp] theorem ze110 : zeroT Tryz.prog 110 = some [.d (.s .nilFunc)] := by kernel_rfl
@[simp] theorem sz111 : szOf Tryz.prog 111 = some 1 := by kernel_rfl
@[simp] theorem ag111 : aggT Tryz.prog 111 = some false := by kernel_rfl
@[simp] theorem un111 : unitT Tryz.prog 111 = some 1 := by kernel_rfl
@[simp] theorem ze111 : zeroT Tryz.prog 111 = some [.d (.s .nilFunc)] := by kernel_rfl
@[simp] theorem sz112 : szOf Tryz.prog 112 = some 1 := by kernel_rfl
@[simp] theorem ag112 : aggT Tryz.prog 112 = some false := by kernel_rfl
@[simp] theorem un112 : unitT Tryz.prog 112 = some 1 := by kernel_rfl
@[simp] theorem ze112 : zeroT Tryz.prog 112 = some [.d (.s .nilFunc)] := by kernel_rfl
@[simp] theorem sz113 : szOf Tryz.prog 113 = some 1 := by kernel_rfl
@[simp] theorem ag113 : aggT Tryz.prog 113 = some false := by kernel_rfl
@[simp] theorem un113 : unitT Tryz.prog 113 = some 1 := by kernel_rfl
@[simp] theorem ze113 : zeroT Tryz.prog 113 = some [.d (.s .nilFunc)] := by kernel_rfl
@[simp] theorem sz114 : szOf Tryz.prog 114 = some 1 := by kernel_rfl
@[simp] theorem ag114 : aggT Tryz.prog 114 = some false := by kernel_rfl
@[simp] theorem un114 : unitT Tryz.prog 114 = some 1 := by kernel_rfl
@[simp] theorem ze114 : zeroT Tryz.prog 114 = some [.d (.s .nilFunc)] := by kernel_rfl
@[simp] theorem sz115 : szOf Tryz.prog 115 = some 1 := by kernel_rfl
@[simp] theorem ag115 : aggT Tryz.prog 115 = some false := by kernel_rfl
@[simp] theorem un115 : unitT Tryz.prog 115 = some 1 := by kernel_rfl
@[simp] theorem ze115 : zeroT Tryz.prog 115 = some [.d (.s .nilFunc)] := by kernel_rfl
@[simp] theorem sz116 : szOf Tryz.prog 116 = some 1 := by kernel_rfl
@[simp] theorem ag116 : aggT Tryz.prog 116 = some false := by kernel_rfl
@[simp] theorem un116 : unitT Tryz.prog 116 = some 1 := by kernel_rfl
@[simp] theorem ze116 : zeroT Tryz.prog 116 = some [.d (.s .nilFunc)] := by kernel_rfl
@[simp] theorem sz117 : szOf Tryz.prog 117 = some 9 := by kernel_rfl
@[simp] theorem ag117 : aggT Tryz.prog 117 = some true := by kernel_rfl
@[simp] theorem un117 : unitT Tryz.prog 117 = some 9 := by kernel_rfl
theorem kd117 : kindT Tryz.prog 12 117 = some [.int .i64, .bool, .int .i64, .int .i64, .int .i64, .int .i64, .int .i64, .int .i64, .int .i64] := by kernel_rfl
theorem eqk117 : eqT Tryz.prog 8 117 = some (true, [.int .i64, .bool, .int .i64, .int .i64, .int .i64, .int .i64, .int .i64, .int .i64, .int .i64]) := by kernel_rfl
theorem eqg117 : (Tryz.prog).eqGuardType (Tryz.prog).depth 117 = false := by kernel_rfl
@[simp] theorem neqA117 (a0 b0 : Int) (a1 b1 : Bool) (a2 b2 : Int) (a3 b3 : Int) (a4 b4 : Int) (a5 b5 : Int) (a6 b6 : Int) (a7 b7 : Int) (a8 b8 : Int) (K : Value → Prop) : aggBin Tryz.prog .neq 117 [.d (.s (.int .i64 a0)), .d (.s (.bool a1)), .d (.s (.int .i64 a2)), .d (.s (.int .i64 a3)), .d (.s (.int .i64 a4)), .d (.s (.int .i64 a5)), .d (.s (.int .i64 a6)), .d (.s (.int .i64 a7)), .d (.s (.int .i64 a8))] [.d (.s (.int .i64 b0)), .d (.s (.bool b1)), .d (.s (.int .i64 b2)), .d (.s (.int .i64 b3)), .d (.s (.int .i64 b4)), .d (.s (.int .i64 b5)), .d (.s (.int .i64 b6)), .d (.s (.int .i64 b7)), .d (.s (.int .i64 b8))] K = K (.bool (!(eqVs [.int .i64 a0, .bool a1, .int .i64 a2, .int .i64 a3, .int .i64 a4, .int .i64 a5, .int .i64 a6, .int .i64 a7, .int .i64 a8] [.int .i64 b0, .bool b1, .int .i64 b2, .int .i64 b3, .int .i64 b4, .int .i64 b5, .int .i64 b6, .int .i64 b7, .int .i64 b8]))) := agg_neq (xs := [.int .i64 a0, .bool a1, .int .i64 a2, .int .i64 a3, .int .i64 a4, .int .i64 a5, .int .i64 a6, .int .i64 a7, .int .i64 a8]) (ys := [.int .i64 b0, .bool b1, .int .i64 b2, .int .i64 b3, .int .i64 b4, .int .i64 b5, .int .i64 b6, .int .i64 b7, .int .i64 b8]) eqk117 (by decide) eqg117 rfl rfl K
@[simp] theorem eqlA117 (a0 b0 : Int) (a1 b1 : Bool) (a2 b2 : Int) (a3 b3 : Int) (a4 b4 : Int) (a5 b5 : Int) (a6 b6 : Int) (a7 b7 : Int) (a8 b8 : Int) (K : Value → Prop) : aggBin Tryz.prog .eql 117 [.d (.s (.int .i64 a0)), .d (.s (.bool a1)), .d (.s (.int .i64 a2)), .d (.s (.int .i64 a3)), .d (.s (.int .i64 a4)), .d (.s (.int .i64 a5)), .d (.s (.int .i64 a6)), .d (.s (.int .i64 a7)), .d (.s (.int .i64 a8))] [.d (.s (.int .i64 b0)), .d (.s (.bool b1)), .d (.s (.int .i64 b2)), .d (.s (.int .i64 b3)), .d (.s (.int .i64 b4)), .d (.s (.int .i64 b5)), .d (.s (.int .i64 b6)), .d (.s (.int .i64 b7)), .d (.s (.int .i64 b8))] K = K (.bool ((eqVs [.int .i64 a0, .bool a1, .int .i64 a2, .int .i64 a3, .int .i64 a4, .int .i64 a5, .int .i64 a6, .int .i64 a7, .int .i64 a8] [.int .i64 b0, .bool b1, .int .i64 b2, .int .i64 b3, .int .i64 b4, .int .i64 b5, .int .i64 b6, .int .i64 b7, .int .i64 b8]))) := agg_eql (xs := [.int .i64 a0, .bool a1, .int .i64 a2, .int .i64 a3, .int .i64 a4, .int .i64 a5, .int .i64 a6, .int .i64 a7, .int .i64 a8]) (ys := [.int .i64 b0, .bool b1, .int .i64 b2, .int .i64 b3, .int .i64 b4, .int .i64 b5, .int .i64 b6, .int .i64 b7, .int .i64 b8]) eqk117 (by decide) eqg117 rfl rfl K
@[simp] theorem ze117 : zeroT Tryz.prog 117 = some [.d (.s (.int .i64 0)), .d (.s (.bool false)), .d (.s (.int .i64 0)), .d (.s (.int .i64 0)), .d (.s (.int .i64 0)), .d (.s (.int .i64 0)), .d (.s (.int .i64 0)), .d (.s (.int .i64 0)), .d (.s (.int .i64 0))] := by kernel_rfl
@[simp] theorem fi117_0 : fieldT Tryz.prog 117 0 = some (0, 1, false) := by kernel_rfl
@[simp] theorem fi117_1 : fieldT Tryz.prog 117 1 = some (1, 1, false) := by kernel_rfl
@[simp] theorem fi117_2 : fieldT Tryz.prog 117 2 = some (2, 7, true) := by kernel_rfl
@[simp] theorem pl117 : placesT Tryz.prog 117 = some [(0, 1), (1, 1), (2, 7)] := by kernel_rfl
@[simp] theorem sz118 : szOf Tryz.prog 118 = some 9 := by kernel_rfl
@[simp] theorem ag118 : aggT Tryz.prog 118 = some true := by kernel_rfl
@[simp] theorem un118 : unitT Tryz.prog 118 = some 9 := by kernel_rfl
theorem kd118 : kindT Tryz.prog 12 118 = some [.int .i64, .bool, .int .i64, .int .i64, .int .i64, .int .i64, .int .i64, .int .i64, .int .i64] := by kernel_rfl
theorem eqk118 : eqT Tryz.prog 8 118 = some (true, [.int .i64, .bool, .int .i64, .int .i64, .int .i64, .int .i64, .int .i64, .int .i64, .int .i64]) := by kernel_rfl
theorem eqg118 : (Tryz.prog).eqGuardType (Tryz.prog).depth 118 = false := by kernel_rfl
@[simp] theorem neqA118 (a0 b0 : Int) (a1 b1 : Bool) (a2 b2 : Int) (a3 b3 : Int) (a4 b4 : Int) (a5 b5 : Int) (a6 b6 : Int) (a7 b7 : Int) (a8 b8 : Int) (K : Value → Prop) : aggBin Tryz.prog .neq 118 [.d (.s (.int .i64 a0)), .d (.s (.bool a1)), .d (.s (.int .i64 a2)), .d (.s (.int .i64 a3)), .d (.s (.int .i64 a4)), .d (.s (.int .i64 a5)), .d (.s (.int .i64 a6)), .d (.s (.int .i64 a7)), .d (.s (.int .i64 a8))] [.d (.s (.int .i64 b0)), .d (.s (.bool b1)), .d (.s (.int .i64 b2)), .d (.s (.int .i64 b3)), .d (.s (.int .i64 b4)), .d (.s (.int .i64 b5)), .d (.s (.int .i64 b6)), .d (.s (.int .i64 b7)), .d (.s (.int .i64 b8))] K = K (.bool (!(eqVs [.int .i64 a0, .bool a1, .int .i64 a2, .int .i64 a3, .int .i64 a4, .int .i64 a5, .int .i64 a6, .int .i64 a7, .int .i64 a8] [.int .i64 b0, .bool b1, .int .i64 b2, .int .i64 b3, .int .i64 b4, .int .i64 b5, .int .i64 b6, .int .i64 b7, .int .i64 b8]))) := agg_neq (xs := [.int .i64 a0, .bool a1, .int .i64 a2, .int .i64 a3, .int .i64 a4, .int .i64 a5, .int .i64 a6, .int .i64 a7, .int .i64 a8]) (ys := [.int .i64 b0, .bool b1, .int .i64 b2, .int .i64 b3, .int .i64 b4, .int .i64 b5, .int .i64 b6, .int .i64 b7, .int .i64 b8]) eqk118 (by decide) eqg118 rfl rfl K
@[simp] theorem eqlA118 (a0 b0 : Int) (a1 b1 : Bool) (a2 b2 : Int) (a3 b3 : Int) (a4 b4 : Int) (a5 b5 : Int) (a6 b6 : Int) (a7 b7 : Int) (a8 b8 : Int) (K : Value → Prop) : aggBin Tryz.prog .eql 118 [.d (.s (.int .i64 a0)), .d (.s (.bool a1)), .d (.s (.int .i64 a2)), .d (.s (.int .i64 a3)), .d (.s (.int .i64 a4)), .d (.s (.int .i64 a5)), .d (.s (.int .i64 a6)), .d (.s (.int .i64 a7)), .d (.s (.int .i64 a8))] [.d (.s (.int .i64 b0)), .d (.s (.bool b1)), .d (.s (.int .i64 b2)), .d (.s (.int .i64 b3)), .d (.s (.int .i64 b4)), .d (.s (.int .i64 b5)), .d (.s (.int .i64 b6)), .d (.s (.int .i64 b7)), .d (.s (.int .i64 b8))] K = K (.bool ((eqVs [.int .i64 a0, .bool a1, .int .i64 a2, .int .i64 a3, .int .i64 a4, .int .i64 a5, .int .i64 a6, .int .i64 a7, .int .i64 a8] [.int .i64 b0, .bool b1, .int .i64 b2, .int .i64 b3, .int .i64 b4, .int .i64 b5, .int .i64 b6, .int .i64 b7, .int .i64 b8]))) := agg_eql (xs := [.int .i64 a0, .bool a1, .int .i64 a2, .int .i64 a3, .int .i64 a4, .int .i64 a5, .int .i64 a6, .int .i64 a7, .int .i64 a8]) (ys := [.int .i64 b0, .bool b1, .int .i64 b2, .int .i64 b3, .int .i64 b4, .int .i64 b5, .int .i64 b6, .int .i64 b7, .int .i64 b8]) eqk118 (by decide) eqg118 rfl rfl K
@[simp] theorem ze118 : zeroT Tryz.prog 118 = some [.d (.s (.int .i64 0)), .d (.s (.bool false)), .d (.s (.int .i64 0)), .d (.s (.int .i64 0)), .d (.s (.int .i64 0)), .d (.s (.int .i64 0)), .d (.s (.int .i64 0)), .d (.s (.int .i64 0)), .d (.s (.int .i64 0))] := by kernel_rfl
@[simp] theorem fi118_0 : fieldT Tryz.prog 118 0 = some (0, 1, false) := by kernel_rfl
@[simp] theorem fi118_1 : fieldT Tryz.prog 118 1 = some (1, 1, false) := by kernel_rfl
@[simp] theorem fi118_2 : fieldT Tryz.prog 118 2 = some (2, 7, true) := by kernel_rfl
@[simp] theorem pl118 : placesT Tryz.prog 118 = some [(0, 1), (1, 1), (2, 7)] := by kernel_rfl
@[simp] theorem sz119 : szOf Tryz.prog 119 = some 1 := by kernel_rfl
@[simp] theorem ag119 : aggT Tryz.prog 119 = some false := by kernel_rfl
@[simp] theorem un119 : unitT Tryz.prog 119 = some 1 := by kernel_rfl
@[simp] theorem mpT119 : mapT Tryz.prog 119 = some (39, 29) := by kernel_rfl
@[simp] theorem ze119 : zeroT Tryz.prog 119 = some [.d (.s (.map none))] := by kernel_rfl
@[simp] theorem sz120 : szOf Tryz.prog 120 = some 1 := by kernel_rfl
@[simp] theorem ag120 : aggT Tryz.prog 120 = some false := by kernel_rfl
@[simp] theorem un120 : unitT Tryz.prog 120 = some 1 := by kernel_rfl
@[simp] theorem ze120 : zeroT Tryz.prog 120 = some [.d (.s .nilFunc)] := by kernel_rfl
@[simp] theorem sz121 : szOf Tryz.prog 121 = some 1 := by kernel_rfl
@[simp] theorem ag121 : aggT Tryz.prog 121 = some false := by kernel_rfl
@[simp] theorem un121 : unitT Tryz.prog 121 = some 1 := by kernel_rfl
@[simp] theorem ze121 : zeroT Tryz.prog 121 = some [.d (.s .nilFunc)] := by kernel_rfl
@[simp] theorem sz122 : szOf Tryz.prog 122 = some 1 := by kernel_rfl
@[simp] theorem ag122 : aggT Tryz.prog 122 = some false := by kernel_rfl
@[simp] theorem un122 : unitT Tryz.prog 122 = some 1 := by kernel_rfl
@[simp] theorem ze122 : zeroT Tryz.prog 122 = some [.d (.s .nilFunc)] := by kernel_rfl
@[simp] theorem sz123 : szOf Tryz.prog 123 = some 1 := by kernel_rfl
@[simp] theorem ag123 : aggT Tryz.prog 123 = some false := by kernel_rfl
@[simp] theorem un123 : unitT Tryz.prog 123 = some 1 := by kernel_rfl
@[simp] theorem ze123 : zeroT Tryz.prog 123 = some [.d (.s .nilFunc)] := by kernel_rfl
@[simp] theorem sz124 : szOf Tryz.prog 124 = some 1 := by kernel_rfl
@[simp] theorem ag124 : aggT Tryz.prog 124 = some false := by kernel_rfl
@[simp] theorem un124 : unitT Tryz.prog 124 = some 1 := by kernel_rfl
@[simp] theorem ze124 : zeroT Tryz.prog 124 = some [.d (.s .nilFunc)] := by kernel_rfl
@[simp] theorem sz125 : szOf Tryz.prog 125 = some 1 := by kernel_rfl
@[simp] theorem ag125 : aggT Tryz.prog 125 = some false := by kernel_rfl
@[simp] theorem un125 : unitT Tryz.prog 125 = some 1 := by kernel_rfl
@[simp] theorem ze125 : zeroT Tryz.prog 125 = some [.d (.s .nilFunc)] := by kernel_rfl
@[simp] theorem sz126 : szOf Tryz.prog 126 = some 1 := by kernel_rfl
@[simp] theorem ag126 : aggT Tryz.prog 126 = some false := by kernel_rfl
@[simp] theorem un126 : unitT Tryz.prog 126 = some 1 := by kernel_rfl
@[simp] theorem ze126 : zeroT Tryz.prog 126 = some [.d (.s .nilIface)] := by kernel_rfl
@[simp] theorem sz127 : szOf Tryz.prog 127 = some 1 := by kernel_rfl
@[simp] theorem ag127 : aggT Tryz.prog 127 = some false := by kernel_rfl
@[simp] theorem un127 : unitT Tryz.prog 127 = some 1 := by kernel_rfl
@[simp] theorem ze127 : zeroT Tryz.prog 127 = some [.d (.s .nilIface)] := by kernel_rfl
@[simp] theorem sz128 : szOf Tryz.prog 128 = some 1 := by kernel_rfl
@[simp] theorem ag128 : aggT Tryz.prog 128 = some false := by kernel_rfl
@[simp] theorem un128 : unitT Tryz.prog 128 = some 1 := by kernel_rfl
@[simp] theorem ze128 : zeroT Tryz.prog 128 = some [.d (.s .nilFunc)] := by kernel_rfl
@[simp] theorem sz129 : szOf Tryz.prog 129 = some 1 := by kernel_rfl
@[simp] theorem ag129 : aggT Tryz.prog 129 = some false := by kernel_rfl
@[simp] theorem un129 : unitT Tryz.prog 129 = some 1 := by kernel_rfl
@[simp] theorem ze129 : zeroT Tryz.prog 129 = some [.d (.s (.pointer none))] := by kernel_rfl
@[simp] theorem sz130 : szOf Tryz.prog 130 = some 1 := by kernel_rfl
@[simp] theorem ag130 : aggT Tryz.prog 130 = some false := by kernel_rfl
@[simp] theorem un130 : unitT Tryz.prog 130 = some 1 := by kernel_rfl
@[simp] theorem ze130 : zeroT Tryz.prog 130 = some [.d (.s .nilFunc)] := by kernel_rfl
@[simp] theorem sz131 : szOf Tryz.prog 131 = some 1 := by kernel_rfl
@[simp] theorem ag131 : aggT Tryz.prog 131 = some false := by kernel_rfl
@[simp] theorem un131 : unitT Tryz.prog 131 = some 1 := by kernel_rfl
@[simp] theorem ze131 : zeroT Tryz.prog 131 = some [.d (.s .nilFunc)] := by kernel_rfl
@[simp] theorem sz132 : szOf Tryz.prog 132 = some 1 := by kernel_rfl
@[simp] theorem ag132 : aggT Tryz.prog 132 = some false := by kernel_rfl
@[simp] theorem un132 : unitT Tryz.prog 132 = some 1 := by kernel_rfl
@[simp] theorem ze132 : zeroT Tryz.prog 132 = some [.d (.s .nilFunc)] := by kernel_rfl
@[simp] theorem sz133 : szOf Tryz.prog 133 = some 1 := by kernel_rfl
@[simp] theorem ag133 : aggT Tryz.prog 133 = some false := by kernel_rfl
@[simp] theorem un133 : unitT Tryz.prog 133 = some 1 := by kernel_rfl
@[simp] theorem ze133 : zeroT Tryz.prog 133 = some [.d (.s (.pointer none))] := by kernel_rfl
@[simp] theorem sz134 : szOf Tryz.prog 134 = some 1 := by kernel_rfl
@[simp] theorem ag134 : aggT Tryz.prog 134 = some false := by kernel_rfl
@[simp] theorem un134 : unitT Tryz.prog 134 = some 1 := by kernel_rfl
@[simp] theorem ze134 : zeroT Tryz.prog 134 = some [.d (.s .nilFunc)] := by kernel_rfl
@[simp] theorem sz135 : szOf Tryz.prog 135 = some 1 := by kernel_rfl
@[simp] theorem ag135 : aggT Tryz.prog 135 = some false := by kernel_rfl
@[simp] theorem un135 : unitT Tryz.prog 135 = some 1 := by kernel_rfl
@[simp] theorem ze135 : zeroT Tryz.prog 135 = some [.d (.s .nilFunc)] := by kernel_rfl
@[simp] theorem sz136 : szOf Tryz.prog 136 = some 1 := by kernel_rfl
@[simp] theorem ag136 : aggT Tryz.prog 136 = some false := by kernel_rfl
@[simp] theorem un136 : unitT Tryz.prog 136 = some 1 := by kernel_rfl
@[simp] theorem ze136 : zeroT Tryz.prog 136 = some [.d (.s .nilFunc)] := by kernel_rfl
@[simp] theorem sz137 : szOf Tryz.prog 137 = some 1 := by kernel_rfl
@[simp] theorem ag137 : aggT Tryz.prog 137 = some false := by kernel_rfl
@[simp] theorem un137 : unitT Tryz.prog 137 = some 1 := by kernel_rfl
@[simp] theorem ze137 : zeroT Tryz.prog 137 = some [.d (.s (.pointer none))] := by kernel_rfl
@[simp] theorem sz138 : szOf Tryz.prog 138 = some 1 := by kernel_rfl
@[simp] theorem ag138 : aggT Tryz.prog 138 = some false := by kernel_rfl
@[simp] theorem un138 : unitT Tryz.prog 138 = some 1 := by kernel_rfl
@[simp] theorem ze138 : zeroT Tryz.prog 138 = some [.d (.s .nilFunc)] := by kernel_rfl
@[simp] theorem sz139 : szOf Tryz.prog 139 = some 1 := by kernel_rfl
@[simp] theorem ag139 : aggT Tryz.prog 139 = some false := by kernel_rfl
@[simp] theorem un139 : unitT Tryz.prog 139 = some 1 := by kernel_rfl
@[simp] theorem ze139 : zeroT Tryz.prog 139 = some [.d (.s .nilFunc)] := by kernel_rfl
@[simp] theorem sz140 : szOf Tryz.prog 140 = some 1 := by kernel_rfl
@[simp] theorem ag140 : aggT Tryz.prog 140 = some false := by kernel_rfl
@[simp] theorem un140 : unitT Tryz.prog 140 = some 1 := by kernel_rfl
@[simp] theorem ze140 : zeroT Tryz.prog 140 = some [.d (.s .nilFunc)] := by kernel_rfl
@[simp] theorem sz141 : szOf Tryz.prog 141 = some 1 := by kernel_rfl
@[simp] theorem ag141 : aggT Tryz.prog 141 = some false := by kernel_rfl
@[simp] theorem un141 : unitT Tryz.prog 141 = some 1 := by kernel_rfl
@[simp] theorem ze141 : zeroT Tryz.prog 141 = some [.d (.s .nilFunc)] := by kernel_rfl
@[simp] theorem sz142 : szOf Tryz.prog 142 = some 1 := by kernel_rfl
@[simp] theorem ag142 : aggT Tryz.prog 142 = some false := by kernel_rfl
@[simp] theorem un142 : unitT Tryz.prog 142 = some 1 := by kernel_rfl
@[simp] theorem ze142 : zeroT Tryz.prog 142 = some [.d (.s .nilFunc)] := by kernel_rfl
@[simp] theorem sz143 : szOf Tryz.prog 143 = some 1 := by kernel_rfl
@[simp] theorem ag143 : aggT Tryz.prog 143 = some false := by kernel_rfl
@[simp] theorem un143 : unitT Tryz.prog 143 = some 1 := by kernel_rfl
@[simp] theorem ze143 : zeroT Tryz.prog 143 = some [.d (.s .nilFunc)] := by kernel_rfl
@[simp] theorem sz144 : szOf Tryz.prog 144 = some 3 := by kernel_rfl
@[simp] theorem ag144 : aggT Tryz.prog 144 = some true := by kernel_rfl
@[simp] theorem un144 : unitT Tryz.prog 144 = some 3 := by kernel_rfl
theorem kd144 : kindT Tryz.prog 12 144 = some [.int .i64, .int .i64, .int .i64] := by kernel_rfl
theorem eqk144 : eqT Tryz.prog 8 144 = some (true, [.int .i64, .int .i64, .int .i64]) := by kernel_rfl
theorem eqg144 : (Tryz.prog).eqGuardType (Tryz.prog).depth 144 = false := by kernel_rfl
@[simp] theorem neqA144 (a0 b0 : Int) (a1 b1 : Int) (a2 b2 : Int) (K : Value → Prop) : aggBin Tryz.prog .neq 144 [.d (.s (.int .i64 a0)), .d (.s (.int .i64 a1)), .d (.s (.int .i64 a2))] [.d (.s (.int .i64 b0)), .d (.s (.int .i64 b1)), .d (.s (.int .i64 b2))] K = K (.bool (!(eqVs [.int .i64 a0, .int .i64 a1, .int .i64 a2] [.int .i64 b0, .int .i64 b1, .int .i64 b2]))) := agg_neq (xs := [.int .i64 a0, .int .i64 a1, .int .i64 a2]) (ys := [.int .i64 b0, .int .i64 b1, .int .i64 b2]) eqk144 (by decide) eqg144 rfl rfl K
@[simp] theorem eqlA144 (a0 b0 : Int) (a1 b1 : Int) (a2 b2 : Int) (K : Value → Prop) : aggBin Tryz.prog .eql 144 [.d (.s (.int .i64 a0)), .d (.s (.int .i64 a1)), .d (.s (.int .i64 a2))] [.d (.s (.int .i64 b0)), .d (.s (.int .i64 b1)), .d (.s (.int .i64 b2))] K = K (.bool ((eqVs [.int .i64 a0, .int .i64 a1, .int .i64 a2] [.int .i64 b0, .int .i64 b1, .int .i64 b2]))) := agg_eql (xs := [.int .i64 a0, .int .i64 a1, .int .i64 a2]) (ys := [.int .i64 b0, .int .i64 b1, .int .i64 b2]) eqk144 (by decide) eqg144 rfl rfl K
@[simp] theorem ze144 : zeroT Tryz.prog 144 = some [.d (.s (.int .i64 0)), .d (.s (.int .i64 0)), .d (.s (.int .i64 0))] := by kernel_rfl
@[simp] theorem fi144_0 : fieldT Tryz.prog 144 0 = some (0, 1, false) := by kernel_rfl
@[simp] theorem fi144_1 : fieldT Tryz.prog 144 1 = some (1, 1, false) := by kernel_rfl
@[simp] theorem fi144_2 : fieldT Tryz.prog 144 2 = some (2, 1, false) := by kernel_rfl
@[simp] theorem pl144 : placesT Tryz.prog 144 = some [(0, 1), (1, 1), (2, 1)] := by kernel_rfl
@[simp] theorem sz145 : szOf Tryz.prog 145 = some 3 := by kernel_rfl
@[simp] theorem ag145 : aggT Tryz.prog 145 = some true := by kernel_rfl
@[simp] theorem un145 : unitT Tryz.prog 145 = some 3 := by kernel_rfl
theorem kd145 : kindT Tryz.prog 12 145 = some [.int .i64, .int .i64, .int .i64] := by kernel_rfl
theorem eqk145 : eqT Tryz.prog 8 145 = some (true, [.int .i64, .int .i64, .int .i64]) := by kernel_rfl
theorem eqg145 : (Tryz.prog).eqGuardType (Tryz.prog).depth 145 = false := by kernel_rfl
@[simp] theorem neqA145 (a0 b0 : Int) (a1 b1 : Int) (a2 b2 : Int) (K : Value → Prop) : aggBin Tryz.prog .neq 145 [.d (.s (.int .i64 a0)), .d (.s (.int .i64 a1)), .d (.s (.int .i64 a2))] [.d (.s (.int .i64 b0)), .d (.s (.int .i64 b1)), .d (.s (.int .i64 b2))] K = K (.bool (!(eqVs [.int .i64 a0, .int .i64 a1, .int .i64 a2] [.int .i64 b0, .int .i64 b1, .int .i64 b2]))) := agg_neq (xs := [.int .i64 a0, .int .i64 a1, .int .i64 a2]) (ys := [.int .i64 b0, .int .i64 b1, .int .i64 b2]) eqk145 (by decide) eqg145 rfl rfl K
@[simp] theorem eqlA145 (a0 b0 : Int) (a1 b1 : Int) (a2 b2 : Int) (K : Value → Prop) : aggBin Tryz.prog .eql 145 [.d (.s (.int .i64 a0)), .d (.s (.int .i64 a1)), .d (.s (.int .i64 a2))] [.d (.s (.int .i64 b0)), .d (.s (.int .i64 b1)), .d (.s (.int .i64 b2))] K = K (.bool ((eqVs [.int .i64 a0, .int .i64 a1, .int .i64 a2] [.int .i64 b0, .int .i64 b1, .int .i64 b2]))) := agg_eql (xs := [.int .i64 a0, .int .i64 a1, .int .i64 a2]) (ys := [.int .i64 b0, .int .i64 b1, .int .i64 b2]) eqk145 (by decide) eqg145 rfl rfl K
@[simp] theorem ze145 : zeroT Tryz.prog 145 = some [.d (.s (.int .i64 0)), .d (.s (.int .i64 0)), .d (.s (.int .i64 0))] := by kernel_rfl
@[simp] theorem fi145_0 : fieldT Tryz.prog 145 0 = some (0, 1, false) := by kernel_rfl
@[simp] theorem fi145_1 : fieldT Tryz.prog 145 1 = some (1, 1, false) := by kernel_rfl
@[simp] theorem fi145_2 : fieldT Tryz.prog 145 2 = some (2, 1, false) := by kernel_rfl
@[simp] theorem pl145 : placesT Tryz.prog 145 = some [(0, 1), (1, 1), (2, 1)] := by kernel_rfl
@[simp] theorem sz146 : szOf Tryz.prog 146 = some 1 := by kernel_rfl
@[simp] theorem ag146 : aggT Tryz.prog 146 = some false := by kernel_rfl
@[simp] theorem un146 : unitT Tryz.prog 146 = some 1 := by kernel_rfl
@[simp] theorem ze146 : zeroT Tryz.prog 146 = some [.d (.s .nilFunc)] := by kernel_rfl
@[simp] theorem sz147 : szOf Tryz.prog 147 = some 1 := by kernel_rfl
@[simp] theorem ag147 : aggT Tryz.prog 147 = some false := by kernel_rfl
@[simp] theorem un147 : unitT Tryz.prog 147 = some 1 := by kernel_rfl
@[simp] theorem ze147 : zeroT Tryz.prog 147 = some [.d (.s .nilFunc)] := by kernel_rfl
@[simp] theorem sz148 : szOf Tryz.prog 148 = some 1 := by kernel_rfl
@[simp] theorem ag148 : aggT Tryz.prog 148 = some false := by kernel_rfl
@[simp] theorem un148 : unitT Tryz.prog 148 = some 1 := by kernel_rfl
@[simp] theorem ze148 : zeroT Tryz.prog 148 = some [.d (.s .nilFunc)] := by kernel_rfl
@[simp] theorem sz149 : szOf Tryz.prog 149 = some 1 := by kernel_rfl
@[simp] theorem ag149 : aggT Tryz.prog 149 = some false := by kernel_rfl
@[simp] theorem un149 : unitT Tryz.prog 149 = some 1 := by kernel_rfl
@[simp] theorem ze149 : zeroT Tryz.prog 149 = some [.d (.s .nilFunc)] := by kernel_rfl
@[simp] theorem sz150 : szOf Tryz.prog 150 = some 1 := by kernel_rfl
@[simp] theorem ag150 : aggT Tryz.prog 150 = some false := by kernel_rfl
@[simp] theorem un150 : unitT Tryz.prog 150 = some 1 := by kernel_rfl
@[simp] theorem ze150 : zeroT Tryz.prog 150 = some [.d (.s .nilFunc)] := by kernel_rfl
@[simp] theorem sz151 : szOf Tryz.prog 151 = some 1 := by kernel_rfl
@[simp] theorem ag151 : aggT Tryz.prog 151 = some false := by kernel_rfl
@[simp] theorem un151 : unitT Tryz.prog 151 = some 1 := by kernel_rfl
@[simp] theorem ze151 : zeroT Tryz.prog 151 = some [.d (.s (.pointer none))] := by kernel_rfl
@[simp] theorem sz152 : szOf Tryz.prog 152 = some 1 := by kernel_rfl
@[simp] theorem ag152 : aggT Tryz.prog 152 = some false := by kernel_rfl
@[simp] theorem un152 : unitT Tryz.prog 152 = some 1 := by kernel_rfl
@[simp] theorem ze152 : zeroT Tryz.prog 152 = some [.d (.s .nilFunc)] := by kernel_rfl
@[simp] theorem sz153 : szOf Tryz.prog 153 = some 1 := by kernel_rfl
@[simp] theorem ag153 : aggT Tryz.prog 153 = some false := by kernel_rfl
@[simp] theorem un153 : unitT Tryz.prog 153 = some 1 := by kernel_rfl
@[simp] theorem ze153 : zeroT Tryz.prog 153 = some [.d (.s .nilFunc)] := by kernel_rfl
@[simp] theorem sz154 : szOf Tryz.prog 154 = some 1 := by kernel_rfl
@[simp] theorem ag154 : aggT Tryz.prog 154 = some false := by kernel_rfl
@[simp] theorem un154 : unitT Tryz.prog 154 = some 1 := by kernel_rfl
@[simp] theorem ze154 : zeroT Tryz.prog 154 = some [.d (.s .nilFunc)] := by kernel_rfl
@[simp] theorem sz155 : szOf Tryz.prog 155 = some 1 := by kernel_rfl
@[simp] theorem ag155 : aggT Tryz.prog 155 = some false := by kernel_rfl
@[simp] theorem un155 : unitT Tryz.prog 155 = some 1 := by kernel_rfl
@[simp] theorem ze155 : zeroT Tryz.prog 155 = some [.d (.s .nilFunc)] := by kernel_rfl
@[simp] theorem sz156 : szOf Tryz.prog 156 = some 1 := by kernel_rfl
@[simp] theorem ag156 : aggT Tryz.prog 156 = some false := by kernel_rfl
@[simp] theorem un156 : unitT Tryz.prog 156 = some 1 := by kernel_rfl
@[simp] theorem ze156 : zeroT Tryz.prog 156 = some [.d (.s .nilFunc)] := by kernel_rfl
@[simp] theorem sz157 : szOf Tryz.prog 157 = some 1 := by kernel_rfl
@[simp] theorem ag157 : aggT Tryz.prog 157 = some false := by kernel_rfl
@[simp] theorem un157 : unitT Tryz.prog 157 = some 1 := by kernel_rfl
@[simp] theorem ze157 : zeroT Tryz.prog 157 = some [.d (.s .nilFunc)] := by kernel_rfl
@[simp] theorem sz158 : szOf Tryz.prog 158 = some 1 := by kernel_rfl
@[simp] theorem ag158 : aggT Tryz.prog 158 = some false := by kernel_rfl
@[simp] theorem un158 : unitT Tryz.prog 158 = some 1 := by kernel_rfl
@[simp] theorem ze158 : zeroT Tryz.prog 158 = some [.d (.s .nilFunc)] := by kernel_rfl
@[simp] theorem sz159 : szOf Tryz.prog 159 = some 1 := by kernel_rfl
@[simp] theorem ag159 : aggT Tryz.prog 159 = some false := by kernel_rfl
@[simp] theorem un159 : unitT Tryz.prog 159 = some 1 := by kernel_rfl
@[simp] theorem ze159 : zeroT Tryz.prog 159 = some [.d (.s .nilFunc)] := by kernel_rfl
@[simp] theorem sz160 : szOf Tryz.prog 160 = some 1 := by kernel_rfl
@[simp] theorem ag160 : aggT Tryz.prog 160 = some false := by kernel_rfl
@[simp] theorem un160 : unitT Tryz.prog 160 = some 1 := by kernel_rfl
@[simp] theorem ze160 : zeroT Tryz.prog 160 = some [.d (.s .nilFunc)] := by kernel_rfl
@[simp] theorem sz161 : szOf Tryz.prog 161 = some 1 := by kernel_rfl
@[simp] theorem ag161 : aggT Tryz.prog 161 = some false := by kernel_rfl
@[simp] theorem un161 : unitT Tryz.prog 161 = some 1 := by kernel_rfl
@[simp] theorem ze161 : zeroT Tryz.prog 161 = some [.d (.s .nilFunc)] := by kernel_rfl
@[simp] theorem sz162 : szOf Tryz.prog 162 = some 1 := by kernel_rfl
@[simp] theorem ag162 : aggT Tryz.prog 162 = some false := by kernel_rfl
@[simp] theorem un162 : unitT Tryz.prog 162 = some 1 := by kernel_rfl
@[simp] theorem ze162 : zeroT Tryz.prog 162 = some [.d (.s .nilFunc)] := by kernel_rfl
@[simp] theorem sz163 : szOf Tryz.prog 163 = some 1 := by kernel_rfl
@[simp] theorem ag163 : aggT Tryz.prog 163 = some false := by kernel_rfl
@[simp] theorem un163 : unitT Tryz.prog 163 = some 1 := by kernel_rfl
@[simp] theorem ze163 : zeroT Tryz.prog 163 = some [.d (.s .nilFunc)] := by kernel_rfl
@[simp] theorem sz164 : szOf Tryz.prog 164 = some 1 := by kernel_rfl
@[simp] theorem ag164 : aggT Tryz.prog 164 = some false := by kernel_rfl
@[simp] theorem un164 : unitT Tryz.prog 164 = some 1 := by kernel_rfl
@[simp] theorem ze164 : zeroT Tryz.prog 164 = some [.d (.s .nilFunc)] := by kernel_rfl
@[simp] theorem sz165 : szOf Tryz.prog 165 = some 1 := by kernel_rfl
@[simp] theorem ag165 : aggT Tryz.prog 165 = some false := by kernel_rfl
@[simp] theorem un165 : unitT Tryz.prog 165 = some 1 := by kernel_rfl
@[simp] theorem ze165 : zeroT Tryz.prog 165 = some [.d (.s .nilFunc)] := by kernel_rfl
@[simp] theorem sz166 : szOf Tryz.prog 166 = some 1 := by kernel_rfl
@[simp] theorem ag166 : aggT Tryz.prog 166 = some false := by kernel_rfl
@[simp] theorem un166 : unitT Tryz.prog 166 = some 1 := by kernel_rfl
@[simp] theorem ze166 : zeroT Tryz.prog 166 = some [.d (.s .nilFunc)] := by kernel_rfl
@[simp] theorem sz167 : szOf Tryz.prog 167 = some 1 := by kernel_rfl
@[simp] theorem ag167 : aggT Tryz.prog 167 = some false := by kernel_rfl
@[simp] theorem un167 : unitT Tryz.prog 167 = some 1 := by kernel_rfl
@[simp] theorem ze167 : zeroT Tryz.prog 167 = some [.d (.s .nilFunc)] := by kernel_rfl
@[simp] theorem sz168 : szOf Tryz.prog 168 = some 1 := by kernel_rfl
@[simp] theorem ag168 : aggT Tryz.prog 168 = some false := by kernel_rfl
@[simp] theorem un168 : unitT Tryz.prog 168 = some 1 := by kernel_rfl
@[simp] theorem ze168 : zeroT Tryz.prog 168 = some [.d (.s .nilFunc)] := by kernel_rfl
@[simp] theorem sz169 : szOf Tryz.prog 169 = some 1 := by kernel_rfl
@[simp] theorem ag169 : aggT Tryz.prog 169 = some false := by kernel_rfl
@[simp] theorem un169 : unitT Tryz.prog 169 = some 1 := by kernel_rfl
@[simp] theorem ze169 : zeroT Tryz.prog 169 = some [.d (.s .nilFunc)] := by kernel_rfl
@[simp] theorem sz170 : szOf Tryz.prog 170 = some 1 := by kernel_rfl
@[simp] theorem ag170 : aggT Tryz.prog 170 = some false := by kernel_rfl
@[simp] theorem un170 : unitT Tryz.prog 170 = some 1 := by kernel_rfl
@[simp] theorem ze170 : zeroT Tryz.prog 170 = some [.d (.s .nilFunc)] := by kernel_rfl
@[simp] theorem sz171 : szOf Tryz.prog 171 = some 4 := by kernel_rfl
@[simp] theorem ag171 : aggT Tryz.prog 171 = some true := by kernel_rfl
@[simp] theorem un171 : unitT Tryz.prog 171 = some 4 := by kernel_rfl
theorem kd171 : kindT Tryz.prog 12 171 = some [.slice [.int .u8], .int .i64, .slice [.int .i64, .int .i64, .int .i64, .int .i64, .int .i64, .int .i64, .int .i64], .slice [.int .i64, .bool, .int .i64, .int .i64, .int .i64, .int .i64, .int .i64, .int .i64, .int .i64]] := by kernel_rfl
@[simp] theorem ze171 : zeroT Tryz.prog 171 = some [.d .nil, .d (.s (.int .i64 0)), .d .nil, .d .nil] := by kernel_rfl
@[simp] theorem fi171_0 : fieldT Tryz.prog 171 0 = some (0, 1, false) := by kernel_rfl
@[simp] theorem fi171_1 : fieldT Tryz.prog 171 1 = some (1, 3, true) := by kernel_rfl
@[simp] theorem pl171 : placesT Tryz.prog 171 = some [(0, 1), (1, 3)] := by kernel_rfl
@[simp] theorem sz172 : szOf Tryz.prog 172 = some 4 := by kernel_rfl
@[simp] theorem ag172 : aggT Tryz.prog 172 = some true := by kernel_rfl
@[simp] theorem un172 : unitT Tryz.prog 172 = some 4 := by kernel_rfl
theorem kd172 : kindT Tryz.prog 12 172 = some [.slice [.int .u8], .int .i64, .slice [.int .i64, .int .i64, .int .i64, .int .i64, .int .i64, .int .i64, .int .i64], .slice [.int .i64, .bool, .int .i64, .int .i64, .int .i64, .int .i64, .int .i64, .int .i64, .int .i64]] := by kernel_rfl
@[simp] theorem ze172 : zeroT Tryz.prog 172 = some [.d .nil, .d (.s (.int .i64 0)), .d .nil, .d .nil] := by kernel_rfl
@[simp] theorem fi172_0 : fieldT Tryz.prog 172 0 = some (0, 1, false) := by kernel_rfl
@[simp] theorem fi172_1 : fieldT Tryz.prog 172 1 = some (1, 3, true) := by kernel_rfl
@[simp] theorem pl172 : placesT Tryz.prog 172 = some [(0, 1), (1, 3)] := by kernel_rfl
@[simp] theorem sz173 : szOf Tryz.prog 173 = some 1 := by kernel_rfl
@[simp] theorem ag173 : aggT Tryz.prog 173 = some false := by kernel_rfl
@[simp] theorem un173 : unitT Tryz.prog 173 = some 1 := by kernel_rfl
@[simp] theorem ze173 : zeroT Tryz.prog 173 = some [.d (.s .nilFunc)] := by kernel_rfl
@[simp] theorem sz174 : szOf Tryz.prog 174 = some 1 := by kernel_rfl
@[simp] theorem ag174 : aggT Tryz.prog 174 = some false := by kernel_rfl
@[simp] theorem un174 : unitT Tryz.prog 174 = some 1 := by kernel_rfl
@[simp] theorem ze174 : zeroT Tryz.prog 174 = some [.d (.s .nilFunc)] := by kernel_rfl
@[simp] theorem sz175 : szOf Tryz.prog 175 = some 4 := by kernel_rfl
@[simp] theorem ag175 : aggT Tryz.prog 175 = some true := by kernel_rfl
@[simp] theorem un175 : unitT Tryz.prog 175 = some 4 := by kernel_rfl
theorem kd175 : kindT Tryz.prog 12 175 = some [.slice [.int .u8], .int .i64, .slice [.int .i64, .int .i64, .int .i64, .int .i64, .int .i64, .int .i64, .int .i64], .slice [.int .i64, .bool, .int .i64, .int .i64, .int .i64, .int .i64, .int .i64, .int .i64, .int .i64]] := by kernel_rfl
@[simp] theorem ze175 : zeroT Tryz.prog 175 = some [.d .nil, .d (.s (.int .i64 0)), .d .nil, .d .nil] := by kernel_rfl
@[simp] theorem fi175_0 : fieldT Tryz.prog 175 0 = some (0, 1, false) := by kernel_rfl
@[simp] theorem fi175_1 : fieldT Tryz.prog 175 1 = some (1, 3, true) := by kernel_rfl
@[simp] theorem pl175 : placesT Tryz.prog 175 = some [(0, 1), (1, 3)] := by kernel_rfl
@[simp] theorem sz176 : szOf Tryz.prog 176 = some 4 := by kernel_rfl
@[simp] theorem ag176 : aggT Tryz.prog 176 = some true := by kernel_rfl
@[simp] theorem un176 : unitT Tryz.prog 176 = some 4 := by kernel_rfl
theorem kd176 : kindT Tryz.prog 12 176 = some [.slice [.int .u8], .int .i64, .slice [.int .i64, .int .i64, .int .i64, .int .i64, .int .i64, .int .i64, .int .i64], .slice [.int .i64, .bool, .int .i64, .int .i64, .int .i64, .int .i64, .int .i64, .int .i64, .int .i64]] := by kernel_rfl
@[simp] theorem ze176 : zeroT Tryz.prog 176 = some [.d .nil, .d (.s (.int .i64 0)), .d .nil, .d .nil] := by kernel_rfl
@[simp] theorem fi176_0 : fieldT Tryz.prog 176 0 = some (0, 1, false) := by kernel_rfl
@[simp] theorem fi176_1 : fieldT Tryz.prog 176 1 = some (1, 3, true) := by kernel_rfl
@[simp] theorem pl176 : placesT Tryz.prog 176 = some [(0, 1), (1, 3)] := by kernel_rfl
@[simp] theorem sz177 : szOf Tryz.prog 177 = some 1 := by kernel_rfl
@[simp] theorem ag177 : aggT Tryz.prog 177 = some false := by kernel_rfl
@[simp] theorem un177 : unitT Tryz.prog 177 = some 1 := by kernel_rfl
@[simp] theorem sz178 : szOf Tryz.prog 178 = some 1 := by kernel_rfl
@[simp] theorem ag178 : aggT Tryz.prog 178 = some false := by kernel_rfl
@[simp] theorem un178 : unitT Tryz.prog 178 = some 1 := by kernel_rfl
@[simp] theorem ze178 : zeroT Tryz.prog 178 = some [.d (.s .nilFunc)] := by kernel_rfl
@[simp] theorem sz179 : szOf Tryz.prog 179 = some 1 := by kernel_rfl
@[simp] theorem ag179 : aggT Tryz.prog 179 = some false := by kernel_rfl
@[simp] theorem un179 : unitT Tryz.prog 179 = some 1 := by kernel_rfl
@[simp] theorem ze179 : zeroT Tryz.prog 179 = some [.d (.s .nilFunc)] := by kernel_rfl
@[simp] theorem sz180 : szOf Tryz.prog 180 = some 1 := by kernel_rfl
@[simp] theorem ag180 : aggT Tryz.prog 180 = some false := by kernel_rfl
@[simp] theorem un180 : unitT Tryz.prog 180 = some 1 := by kernel_rfl
@[simp] theorem ze180 : zeroT Tryz.prog 180 = some [.d (.s .nilFunc)] := by kernel_rfl
@[simp] theorem sz181 : szOf Tryz.prog 181 = some 1 := by kernel_rfl
@[simp] theorem ag181 : aggT Tryz.prog 181 = some false := by kernel_rfl
@[simp] theorem un181 : unitT Tryz.prog 181 = some 1 := by kernel_rfl
@[simp] theorem ze181 : zeroT Tryz.prog 181 = some [.d (.s .nilIface)] := by kernel_rfl
@[simp] theorem sz182 : szOf Tryz.prog 182 = some 1 := by kernel_rfl
@[simp] theorem ag182 : aggT Tryz.prog 182 = some false := by kernel_rfl
@[simp] theorem un182 : unitT Tryz.prog 182 = some 1 := by kernel_rfl
@[simp] theorem ze182 : zeroT Tryz.prog 182 = some [.d (.s .nilIface)] := by kernel_rfl
@[simp] theorem sz183 : szOf Tryz.prog 183 = some 1 := by kernel_rfl
@[simp] theorem ag183 : aggT Tryz.prog 183 = some false := by kernel_rfl
@[simp] theorem un183 : unitT Tryz.prog 183 = some 1 := by kernel_rfl
@[simp] theorem ze183 : zeroT Tryz.prog 183 = some [.d (.s .nilFunc)] := by kernel_rfl
@[simp] theorem sz184 : szOf Tryz.prog 184 = some 1 := by kernel_rfl
@[simp] theorem ag184 : aggT Tryz.prog 184 = some false := by kernel_rfl
@[simp] theorem un184 : unitT Tryz.prog 184 = some 1 := by kernel_rfl
@[simp] theorem ze184 : zeroT Tryz.prog 184 = some [.d (.s .nilFunc)] := by kernel_rfl
@[simp] theorem sz185 : szOf Tryz.prog 185 = some 1 := by kernel_rfl
@[simp] theorem ag185 : aggT Tryz.prog 185 = some false := by kernel_rfl
@[simp] theorem un185 : unitT Tryz.prog 185 = some 1 := by kernel_rfl
@[simp] theorem ze185 : zeroT Tryz.prog 185 = some [.d (.s .nilFunc)] := by kernel_rfl
@[simp] theorem sz186 : szOf Tryz.prog 186 = some 1 := by kernel_rfl
@[simp] theorem ag186 : aggT Tryz.prog 186 = some false := by kernel_rfl
@[simp] theorem un186 : unitT Tryz.prog 186 = some 1 := by kernel_rfl
@[simp] theorem sz187 : szOf Tryz.prog 187 = some 1 := by kernel_rfl
@[simp] theorem ag187 : aggT Tryz.prog 187 = some false := by kernel_rfl
@[simp] theorem un187 : unitT Tryz.prog 187 = some 1 := by kernel_rfl
@[simp] theorem ze187 : zeroT Tryz.prog 187 = some [.d (.s .nilFunc)] := by kernel_rfl
@[simp] theorem sz188 : szOf Tryz.prog 188 = some 1 := by kernel_rfl
@[simp] theorem ag188 : aggT Tryz.prog 188 = some true := by kernel_rfl
@[simp] theorem un188 : unitT Tryz.prog 188 = some 1 := by kernel_rfl
theorem kd188 : kindT Tryz.prog 12 188 = some [.int .i64] := by kernel_rfl
theorem eqk188 : eqT Tryz.prog 8 188 = some (true, [.int .i64]) := by kernel_rfl
theorem eqg188 : (Tryz.prog).eqGuardType (Tryz.prog).depth 188 = false := by kernel_rfl
@[simp] theorem neqA188 (a0 b0 : Int) (K : Value → Prop) : aggBin Tryz.prog .neq 188 [.d (.s (.int .i64 a0))] [.d (.s (.int .i64 b0))] K = K (.bool (!(eqVs [.int .i64 a0] [.int .i64 b0]))) := agg_neq (xs := [.int .i64 a0]) (ys := [.int .i64 b0]) eqk188 (by decide) eqg188 rfl rfl K
@[simp] theorem eqlA188 (a0 b0 : Int) (K : Value → Prop) : aggBin Tryz.prog .eql 188 [.d (.s (.int .i64 a0))] [.d (.s (.int .i64 b0))] K = K (.bool ((eqVs [.int .i64 a0] [.int .i64 b0]))) := agg_eql (xs := [.int .i64 a0]) (ys := [.int .i64 b0]) eqk188 (by decide) eqg188 rfl rfl K
@[simp] theorem ze188 : zeroT Tryz.prog 188 = some [.d (.s (.int .i64 0))] := by kernel_rfl
@[simp] theorem fi188_0 : fieldT Tryz.prog 188 0 = some (0, 1, false) := by kernel_rfl
@[simp] theorem pl188 : placesT Tryz.prog 188 = some [(0, 1)] := by kernel_rfl
@[simp] theorem sz189 : szOf Tryz.prog 189 = some 1 := by kernel_rfl
@[simp] theorem ag189 : aggT Tryz.prog 189 = some true := by kernel_rfl
@[simp] theorem un189 : unitT Tryz.prog 189 = some 1 := by kernel_rfl
theorem kd189 : kindT Tryz.prog 12 189 = some [.int .i64] := by kernel_rfl
theorem eqk189 : eqT Tryz.prog 8 189 = some (true, [.int .i64]) := by kernel_rfl
theorem eqg189 : (Tryz.prog).eqGuardType (Tryz.prog).depth 189 = false := by kernel_rfl
@[simp] theorem neqA189 (a0 b0 : Int) (K : Value → Prop) : aggBin Tryz.prog .neq 189 [.d (.s (.int .i64 a0))] [.d (.s (.int .i64 b0))] K = K (.bool (!(eqVs [.int .i64 a0] [.int .i64 b0]))) := agg_neq (xs := [.int .i64 a0]) (ys := [.int .i64 b0]) eqk189 (by decide) eqg189 rfl rfl K
@[simp] theorem eqlA189 (a0 b0 : Int) (K : Value → Prop) : aggBin Tryz.prog .eql 189 [.d (.s (.int .i64 a0))] [.d (.s (.int .i64 b0))] K = K (.bool ((eqVs [.int .i64 a0] [.int .i64 b0]))) := agg_eql (xs := [.int .i64 a0]) (ys := [.int .i64 b0]) eqk189 (by decide) eqg189 rfl rfl K
@[simp] theorem ze189 : zeroT Tryz.prog 189 = some [.d (.s (.int .i64 0))] := by kernel_rfl
@[simp] theorem fi189_0 : fieldT Tryz.prog 189 0 = some (0, 1, false) := by kernel_rfl
@[simp] theorem pl189 : placesT Tryz.prog 189 = some [(0, 1)] := by kernel_rfl
@[simp] theorem sz190 : szOf Tryz.prog 190 = some 6 := by kernel_rfl
@[simp] theorem ag190 : aggT Tryz.prog 190 = some true := by kernel_rfl
@[simp] theorem un190 : unitT Tryz.prog 190 = some 6 := by kernel_rfl
theorem kd190 : kindT Tryz.prog 12 190 = some [.int .i64, .slice [.int .i64, .int .i64, .int .i64, .int .i64, .int .i64, .int .i64, .int .i64, .int .i64, .int .i64, .int .i64], .int .i64, .slice [.int .i64, .int .i64, .int .i64, .int .i64, .int .i64, .int .i64, .int .i64], .slice [.int .i64, .bool, .int .i64, .int .i64, .int .i64, .int .i64, .int .i64, .int .i64, .int .i64], .int .i64] := by kernel_rfl
@[simp] theorem ze190 : zeroT Tryz.prog 190 = some [.d (.s (.int .i64 0)), .d .nil, .d (.s (.int .i64 0)), .d .nil, .d .nil, .d (.s (.int .i64 0))] := by kernel_rfl
@[simp] theorem fi190_0 : fieldT Tryz.prog 190 0 = some (0, 6, true) := by kernel_rfl
@[simp] theorem pl190 : placesT Tryz.prog 190 = some [(0, 6)] := by kernel_rfl
@[simp] theorem sz191 : szOf Tryz.prog 191 = some 6 := by kernel_rfl
@[simp] theorem ag191 : aggT Tryz.prog 191 = some true := by kernel_rfl
@[simp] theorem un191 : unitT Tryz.prog 191 = some 6 := by kernel_rfl
theorem kd191 : kindT Tryz.prog 12 191 = some [.int .i64, .slice [.int .i64, .int .i64, .int .i64, .int .i64, .int .i64, .int .i64, .int .i64, .int .i64, .int .i64, .int .i64], .int .i64, .slice [.int .i64, .int .i64, .int .i64, .int .i64, .int .i64, .int .i64, .int .i64], .slice [.int .i64, .bool, .int .i64, .int .i64, .int .i64, .int .i64, .int .i64, .int .i64, .int .i64], .int .i64] := by kernel_rfl
@[simp] theorem ze191 : zeroT Tryz.prog 191 = some [.d (.s (.int .i64 0)), .d .nil, .d (.s (.int .i64 0)), .d .nil, .d .nil, .d (.s (.int .i64 0))] := by kernel_rfl
@[simp] theorem fi191_0 : fieldT Tryz.prog 191 0 = some (0, 6, true) := by kernel_rfl
@[simp] theorem pl191 : placesT Tryz.prog 191 = some [(0, 6)] := by kernel_rfl
@[simp] theorem sz192 : szOf Tryz.prog 192 = some 6 := by kernel_rfl
@[simp] theorem ag192 : aggT Tryz.prog 192 = some true := by kernel_rfl
@[simp] theorem un192 : unitT Tryz.prog 192 = some 6 := by kernel_rfl
theorem kd192 : kindT Tryz.prog 12 192 = some [.int .i64, .slice [.int .i64, .int .i64, .int .i64, .int .i64, .int .i64, .int .i64, .int .i64, .int .i64, .int .i64, .int .i64], .int .i64, .slice [.int .i64, .int .i64, .int .i64, .int .i64, .int .i64, .int .i64, .int .i64], .slice [.int .i64, .bool, .int .i64, .int .i64, .int .i64, .int .i64, .int .i64, .int .i64, .int .i64], .int .i64] := by kernel_rfl
@[simp] theorem ze192 : zeroT Tryz.prog 192 = some [.d (.s (.int .i64 0)), .d .nil, .d (.s (.int .i64 0)), .d .nil, .d .nil, .d (.s (.int .i64 0))] := by kernel_rfl
@[simp] theorem fi192_0 : fieldT Tryz.prog 192 0 = some (0, 6, true) := by kernel_rfl
@[simp] theorem pl192 : placesT Tryz.prog 192 = some [(0, 6)] := by kernel_rfl
@[simp] theorem sz193 : szOf Tryz.prog 193 = some 1 := by kernel_rfl
@[simp] theorem ag193 : aggT Tryz.prog 193 = some false := by kernel_rfl
@[simp] theorem un193 : unitT Tryz.prog 193 = some 1 := by kernel_rfl
@[simp] theorem ze193 : zeroT Tryz.prog 193 = some [.d (.s .nilFunc)] := by kernel_rfl
@[simp] theorem sz194 : szOf Tryz.prog 194 = some 1 := by kernel_rfl
@[simp] theorem ag194 : aggT Tryz.prog 194 = some false := by kernel_rfl
@[simp] theorem un194 : unitT Tryz.prog 194 = some 1 := by kernel_rfl
@[simp] theorem ze194 : zeroT Tryz.prog 194 = some [.d (.s .nilFunc)] := by kernel_rfl
@[simp] theorem sz195 : szOf Tryz.prog 195 = some 1 := by kernel_rfl
@[simp] theorem ag195 : aggT Tryz.prog 195 = some false := by kernel_rfl
@[simp] theorem un195 : unitT Tryz.prog 195 = some 1 := by kernel_rfl
@[simp] theorem ze195 : zeroT Tryz.prog 195 = some [.d (.s .nilFunc)] := by kernel_rfl
@[simp] theorem sz196 : szOf Tryz.prog 196 = some 1 := by kernel_rfl
@[simp] theorem ag196 : aggT Tryz.prog 196 = some false := by kernel_rfl
@[simp] theorem un196 : unitT Tryz.prog 196 = some 1 := by kernel_rfl
@[simp] theorem ze196 : zeroT Tryz.prog 196 = some [.d (.s .nilFunc)] := by kernel_rfl
@[simp] theorem sz197 : szOf Tryz.prog 197 = some 1 := by kernel_rfl
@[simp] theorem ag197 : aggT Tryz.prog 197 = some false := by kernel_rfl
@[simp] theorem un197 : unitT Tryz.prog 197 = some 1 := by kernel_rfl
@[simp] theorem ze197 : zeroT Tryz.prog 197 = some [.d (.s .nilFunc)] := by kernel_rfl
@[simp] theorem sz198 : szOf Tryz.prog 198 = some 9 := by kernel_rfl
@[simp] theorem ag198 : aggT Tryz.prog 198 = some true := by kernel_rfl
@[simp] theorem un198 : unitT Tryz.prog 198 = some 1 := by kernel_rfl
@[simp] theorem pl198 : placesT Tryz.prog 198 = some [(0, 1), (1, 1), (2, 1), (3, 1), (4, 1), (5, 1), (6, 1), (7, 1), (8, 1)] := by kernel_rfl
@[simp] theorem ar198 : arrT Tryz.prog 198 = some (9, 2, 1) := by kernel_rfl
@[simp] theorem sl198 : sliceT Tryz.prog 198 = none := by kernel_rfl
theorem kd198 : kindT Tryz.prog 12 198 = some [.int .i64, .int .i64, .int .i64, .int .i64, .int .i64, .int .i64, .int .i64, .int .i64, .int .i64] := by kernel_rfl
@[simp] theorem ze198 : zeroT Tryz.prog 198 = some [.d (.s (.int .i64 0)), .d (.s (.int .i64 0)), .d (.s (.int .i64 0)), .d (.s (.int .i64 0)), .d (.s (.int .i64 0)), .d (.s (.int .i64 0)), .d (.s (.int .i64 0)), .d (.s (.int .i64 0)), .d (.s (.int .i64 0))] := by kernel_rfl
@[simp] theorem sz199 : szOf Tryz.prog 199 = some 1 := by kernel_rfl
@[simp] theorem ag199 : aggT Tryz.prog 199 = some false := by kernel_rfl
@[simp] theorem un199 : unitT Tryz.prog 199 = some 1 := by kernel_rfl
@[simp] theorem ze199 : zeroT Tryz.prog 199 = some [.d (.s .nilFunc)] := by kernel_rfl
@[simp] theorem sz200 : szOf Tryz.prog 200 = some 17 := by kernel_rfl
@[simp] theorem ag200 : aggT Tryz.prog 200 = some true := by kernel_rfl
@[simp] theorem un200 : unitT Tryz.prog 200 = some 1 := by kernel_rfl
@[simp] theorem pl200 : placesT Tryz.prog 200 = some [(0, 1), (1, 1), (2, 1), (3, 1), (4, 1), (5, 1), (6, 1), (7, 1), (8, 1), (9, 1), (10, 1), (11, 1), (12, 1), (13, 1), (14, 1), (15, 1), (16, 1)] := by kernel_rfl
@[simp] theorem ar200 : arrT Tryz.prog 200 = some (17, 5, 1) := by kernel_rfl
@[simp] theorem sl200 : sliceT Tryz.prog 200 = none := by kernel_rfl
theorem kd200 : kindT Tryz.prog 12 200 = some [.int .u8, .int .u8, .int .u8, .int .u8, .int .u8, .int .u8, .int .u8, .int .u8, .int .u8, .int .u8, .int .u8, .int .u8, .int .u8, .int .u8, .int .u8, .int .u8, .int .u8] := by kernel_rfl
@[simp] theorem ze200 : zeroT Tryz.prog 200 = some [.d (.s (.int .u8 0)), .d (.s (.int .u8 0)), .d (.s (.int .u8 0)), .d (.s (.int .u8 0)), .d (.s (.int .u8 0)), .d (.s (.int .u8 0)), .d (.s (.int .u8 0)), .d (.s (.int .u8 0)), .d (.s (.int .u8 0)), .d (.s (.int .u8 0)), .d (.s (.int .u8 0)), .d (.s (.int .u8 0)), .d (.s (.int .u8 0)), .d (.s (.int .u8 0)), .d (.s (.int .u8 0)), .d (.s (.int .u8 0)), .d (.s (.int .u8 0))] := by kernel_rfl
@[simp] theorem sz201 : szOf Tryz.prog 201 = some 1 := by kernel_rfl
@[simp] theorem ag201 : aggT Tryz.prog 201 = some false := by kernel_rfl
@[simp] theorem un201 : unitT Tryz.prog 201 = some 1 := by kernel_rfl
@[simp] theorem ze201 : zeroT Tryz.prog 201 = some [.d (.s .nilFunc)] := by kernel_rfl
@[simp] theorem sz202 : szOf Tryz.prog 202 = some 1 := by kernel_rfl
@[simp] theorem ag202 : aggT Tryz.prog 202 = some false := by kernel_rfl
@[simp] theorem un202 : unitT Tryz.prog 202 = some 1 := by kernel_rfl
@[simp] theorem ze202 : zeroT Tryz.prog 202 = some [.d (.s .nilFunc)] := by kernel_rfl
@[simp] theorem sz203 : szOf Tryz.prog 203 = some 1 := by kernel_rfl
@[simp] theorem ag203 : aggT Tryz.prog 203 = some false := by kernel_rfl
@[simp] theorem un203 : unitT Tryz.prog 203 = some 1 := by kernel_rfl
@[simp] theorem ze203 : zeroT Tryz.prog 203 = some [.d (.s .nilFunc)] := by kernel_rfl
@[simp] theorem sz204 : szOf Tryz.prog 204 = some 1 := by kernel_rfl
@[simp] theorem ag204 : aggT Tryz.prog 204 = some false := by kernel_rfl
@[simp] theorem un204 : unitT Tryz.prog 204 = some 1 := by kernel_rfl
@[simp] theorem ze204 : zeroT Tryz.prog 204 = some [.d (.s .nilFunc)] := by kernel_rfl
@[simp] theorem sz205 : szOf Tryz.prog 205 = some 1 := by kernel_rfl
@[simp] theorem ag205 : aggT Tryz.prog 205 = some false := by kernel_rfl
@[simp] theorem un205 : unitT Tryz.prog 205 = some 1 := by kernel_rfl
@[simp] theorem ze205 : zeroT Tryz.prog 205 = some [.d (.s .nilFunc)] := by kernel_rfl
@[simp] theorem sz206 : szOf Tryz.prog 206 = some 1 := by kernel_rfl
@[simp] theorem ag206 : aggT Tryz.prog 206 = some false := by kernel_rfl
@[simp] theorem un206 : unitT Tryz.prog 206 = some 1 := by kernel_rfl
@[simp] theorem ze206 : zeroT Tryz.prog 206 = some [.d (.s .nilFunc)] := by kernel_rfl
@[simp] theorem sz207 : szOf Tryz.prog 207 = some 1 := by kernel_rfl
@[simp] theorem ag207 : aggT Tryz.prog 207 = some false := by kernel_rfl
@[simp] theorem un207 : unitT Tryz.prog 207 = some 1 := by kernel_rfl
@[simp] theorem ze207 : zeroT Tryz.prog 207 = some [.d (.s .nilFunc)] := by kernel_rfl
@[simp] theorem sz208 : szOf Tryz.prog 208 = some 1 := by kernel_rfl
@[simp] theorem ag208 : aggT Tryz.prog 208 = some false := by kernel_rfl
@[simp] theorem un208 : unitT Tryz.prog 208 = some 1 := by kernel_rfl
@[simp] theorem ze208 : zeroT Tryz.prog 208 = some [.d (.s .nilFunc)] := by kernel_rfl
@[simp] theorem sz209 : szOf Tryz.prog 209 = some 1 := by kernel_rfl
@[simp] theorem ag209 : aggT Tryz.prog 209 = some false := by kernel_rfl
@[simp] theorem un209 : unitT Tryz.prog 209 = some 1 := by kernel_rfl
@[simp] theorem ze209 : zeroT Tryz.prog 209 = some [.d (.s .nilFunc)] := by kernel_rfl
@[simp] theorem sz210 : szOf Tryz.prog 210 = some 1 := by kernel_rfl
@[simp] theorem ag210 : aggT Tryz.prog 210 = some false := by kernel_rfl
@[simp] theorem un210 : unitT Tryz.prog 210 = some 1 := by kernel_rfl
@[simp] theorem ze210 : zeroT Tryz.prog 210 = some [.d (.s .nilFunc)] := by kernel_rfl
@[simp] theorem sz211 : szOf Tryz.prog 211 = some 1 := by kernel_rfl
@[simp] theorem ag211 : aggT Tryz.prog 211 = some false := by kernel_rfl
@[simp] theorem un211 : unitT Tryz.prog 211 = some 1 := by kernel_rfl
@[simp] theorem ze211 : zeroT Tryz.prog 211 = some [.d (.s .nilFunc)] := by kernel_rfl
@[simp] theorem sz212 : szOf Tryz.prog 212 = some 1 := by kernel_rfl
@[simp] theorem ag212 : aggT Tryz.prog 212 = some false := by kernel_rfl
@[simp] theorem un212 : unitT Tryz.prog 212 = some 1 := by kernel_rfl
@[simp] theorem ze212 : zeroT Tryz.prog 212 = some [.d (.s .nilFunc)] := by kernel_rfl
@[simp] theorem sz213 : szOf Tryz.prog 213 = some 1 := by kernel_rfl
@[simp] theorem ag213 : aggT Tryz.prog 213 = some false := by kernel_rfl
@[simp] theorem un213 : unitT Tryz.prog 213 = some 1 := by kernel_rfl
@[simp] theorem ze213 : zeroT Tryz.prog 213 = some [.d (.s .nilFunc)] := by kernel_rfl
@[simp] theorem sz214 : szOf Tryz.prog 214 = some 1 := by kernel_rfl
@[simp] theorem ag214 : aggT Tryz.prog 214 = some false := by kernel_rfl
@[simp] theorem un214 : unitT Tryz.prog 214 = some 1 := by kernel_rfl
@[simp] theorem ze214 : zeroT Tryz.prog 214 = some [.d (.s .nilFunc)] := by kernel_rfl
@[simp] theorem sz215 : szOf Tryz.prog 215 = some 1 := by kernel_rfl
@[simp] theorem ag215 : aggT Tryz.prog 215 = some false := by kernel_rfl
@[simp] theorem un215 : unitT Tryz.prog 215 = some 1 := by kernel_rfl
@[simp] theorem ze215 : zeroT Tryz.prog 215 = some [.d (.s .nilFunc)] := by kernel_rfl
@[simp] theorem sz216 : szOf Tryz.prog 216 = some 1 := by kernel_rfl
@[simp] theorem ag216 : aggT Tryz.prog 216 = some false := by kernel_rfl
@[simp] theorem un216 : unitT Tryz.prog 216 = some 1 := by kernel_rfl
@[simp] theorem ze216 : zeroT Tryz.prog 216 = some [.d (.s .nilFunc)] := by kernel_rfl
@[simp] theorem sz217 : szOf Tryz.prog 217 = some 1 := by kernel_rfl
@[simp] theorem ag217 : aggT Tryz.prog 217 = some false := by kernel_rfl
@[simp] theorem un217 : unitT Tryz.prog 217 = some 1 := by kernel_rfl
@[simp] theorem ze217 : zeroT Tryz.prog 217 = some [.d (.s .nilFunc)] := by kernel_rfl
@[simp] theorem sz218 : szOf Tryz.prog 218 = some 1 := by kernel_rfl
@[simp] theorem ag218 : aggT Tryz.prog 218 = some false := by kernel_rfl
@[simp] theorem un218 : unitT Tryz.prog 218 = some 1 := by kernel_rfl
@[simp] theorem sz219 : szOf Tryz.prog 219 = some 1 := by kernel_rfl
@[simp] theorem ag219 : aggT Tryz.prog 219 = some false := by kernel_rfl
@[simp] theorem un219 : unitT Tryz.prog 219 = some 1 := by kernel_rfl
@[simp] theorem ze219 : zeroT Tryz.prog 219 = some [.d (.s .nilFunc)] := by kernel_rfl
@[simp] theorem sz220 : szOf Tryz.prog 220 = some 19 := by kernel_rfl
@[simp] theorem ag220 : aggT Tryz.prog 220 = some true := by kernel_rfl
@[simp] theorem un220 : unitT Tryz.prog 220 = some 19 := by kernel_rfl
theorem kd220 : kindT Tryz.prog 12 220 = some [.int .i64, .int .i64, .int .i64, .int .i64, .int .i64, .int .i64, .int .i64, .int .i64, .int .i64, .int .i64, .int .i64, .int .i64, .int .i64, .int .i64, .int .i64, .int .i64, .int .i64, .bool, .int .i64] := by kernel_rfl
theorem eqk220 : eqT Tryz.prog 8 220 = some (true, [.int .i64, .int .i64, .int .i64, .int .i64, .int .i64, .int .i64, .int .i64, .int .i64, .int .i64, .int .i64, .int .i64, .int .i64, .int .i64, .int .i64, .int .i64, .int .i64, .int .i64, .bool, .int .i64]) := by kernel_rfl
theorem eqg220 : (Tryz.prog).eqGuardType (Tryz.prog).depth 220 = false := by kernel_rfl
@[simp] theorem neqA220 (a0 b0 : Int) (a1 b1 : Int) (a2 b2 : Int) (a3 b3 : Int) (a4 b4 : Int) (a5 b5 : Int) (a6 b6 : Int) (a7 b7 : Int) (a8 b8 : Int) (a9 b9 : Int) (a10 b10 : Int) (a11 b11 : Int) (a12 b12 : Int) (a13 b13 : Int) (a14 b14 : Int) (a15 b15 : Int) (a16 b16 : Int) (a17 b17 : Bool) (a18 b18 : Int) (K : Value → Prop) : aggBin Tryz.prog .neq 220 [.d (.s (.int .i64 a0)), .d (.s (.int .i64 a1)), .d (.s (.int .i64 a2)), .d (.s (.int .i64 a3)), .d (.s (.int .i64 a4)), .d (.s (.int .i64 a5)), .d (.s (.int .i64 a6)), .d (.s (.int .i64 a7)), .d (.s (.int .i64 a8)), .d (.s (.int .i64 a9)), .d (.s (.int .i64 a10)), .d (.s (.int .i64 a11)), .d (.s (.int .i64 a12)), .d (.s (.int .i64 a13)), .d (.s (.int .i64 a14)), .d (.s (.int .i64 a15)), .d (.s (.int .i64 a16)), .d (.s (.bool a17)), .d (.s (.int .i64 a18))] [.d (.s (.int .i64 b0)), .d (.s (.int .i64 b1)), .d (.s (.int .i64 b2)), .d (.s (.int .i64 b3)), .d (.s (.int .i64 b4)), .d (.s (.int .i64 b5)), .d (.s (.int .i64 b6)), .d (.s (.int .i64 b7)), .d (.s (.int .i64 b8)), .d (.s (.int .i64 b9)), .d (.s (.int .i64 b10)), .d (.s (.int .i64 b11)), .d (.s (.int .i64 b12)), .d (.s (.int .i64 b13)), .d (.s (.int .i64 b14)), .d (.s (.int .i64 b15)), .d (.s (.int .i64 b16)), .d (.s (.bool b17)), .d (.s (.int .i64 b18))] K = K (.bool (!(eqVs [.int .i64 a0, .int .i64 a1, .int .i64 a2, .int .i64 a3, .int .i64 a4, .int .i64 a5, .int .i64 a6, .int .i64 a7, .int .i64 a8, .int .i64 a9, .int .i64 a10, .int .i64 a11, .int .i64 a12, .int .i64 a13, .int .i64 a14, .int .i64 a15, .int .i64 a16, .bool a17, .int .i64 a18] [.int .i64 b0, .int .i64 b1, .int .i64 b2, .int .i64 b3, .int .i64 b4, .int .i64 b5, .int .i64 b6, .int .i64 b7, .int .i64 b8, .int .i64 b9, .int .i64 b10, .int .i64 b11, .int .i64 b12, .int .i64 b13, .int .i64 b14, .int .i64 b15, .int .i64 b16, .bool b17, .int .i64 b18]))) := agg_neq (xs := [.int .i64 a0, .int .i64 a1, .int .i64 a2, .int .i64 a3, .int .i64 a4, .int .i64 a5, .int .i64 a6, .int .i64 a7, .int .i64 a8, .int .i64 a9, .int .i64 a10, .int .i64 a11, .int .i64 a12, .int .i64 a13, .int .i64 a14, .int .i64 a15, .int .i64 a16, .bool a17, .int .i64 a18]) (ys := [.int .i64 b0, .int .i64 b1, .int .i64 b2, .int .i64 b3, .int .i64 b4, .int .i64 b5, .int .i64 b6, .int .i64 b7, .int .i64 b8, .int .i64 b9, .int .i64 b10, .int .i64 b11, .int .i64 b12, .int .i64 b13, .int .i64 b14, .int .i64 b15, .int .i64 b16, .bool b17, .int .i64 b18]) eqk220 (by decide) eqg220 rfl rfl K
@[simp] theorem eqlA220 (a0 b0 : Int) (a1 b1 : Int) (a2 b2 : Int) (a3 b3 : Int) (a4 b4 : Int) (a5 b5 : Int) (a6 b6 : Int) (a7 b7 : Int) (a8 b8 : Int) (a9 b9 : Int) (a10 b10 : Int) (a11 b11 : Int) (a12 b12 : Int) (a13 b13 : Int) (a14 b14 : Int) (a15 b15 : Int) (a16 b16 : Int) (a17 b17 : Bool) (a18 b18 : Int) (K : Value → Prop) : aggBin Tryz.prog .eql 220 [.d (.s (.int .i64 a0)), .d (.s (.int .i64 a1)), .d (.s (.int .i64 a2)), .d (.s (.int .i64 a3)), .d (.s (.int .i64 a4)), .d (.s (.int .i64 a5)), .d (.s (.int .i64 a6)), .d (.s (.int .i64 a7)), .d (.s (.int .i64 a8)), .d (.s (.int .i64 a9)), .d (.s (.int .i64 a10)), .d (.s (.int .i64 a11)), .d (.s (.int .i64 a12)), .d (.s (.int .i64 a13)), .d (.s (.int .i64 a14)), .d (.s (.int .i64 a15)), .d (.s (.int .i64 a16)), .d (.s (.bool a17)), .d (.s (.int .i64 a18))] [.d (.s (.int .i64 b0)), .d (.s (.int .i64 b1)), .d (.s (.int .i64 b2)), .d (.s (.int .i64 b3)), .d (.s (.int .i64 b4)), .d (.s (.int .i64 b5)), .d (.s (.int .i64 b6)), .d (.s (.int .i64 b7)), .d (.s (.int .i64 b8)), .d (.s (.int .i64 b9)), .d (.s (.int .i64 b10)), .d (.s (.int .i64 b11)), .d (.s (.int .i64 b12)), .d (.s (.int .i64 b13)), .d (.s (.int .i64 b14)), .d (.s (.int .i64 b15)), .d (.s (.int .i64 b16)), .d (.s (.bool b17)), .d (.s (.int .i64 b18))] K = K (.bool ((eqVs [.int .i64 a0, .int .i64 a1, .int .i64 a2, .int .i64 a3, .int .i64 a4, .int .i64 a5, .int .i64 a6, .int .i64 a7, .int .i64 a8, .int .i64 a9, .int .i64 a10, .int .i64 a11, .int .i64 a12, .int .i64 a13, .int .i64 a14, .int .i64 a15, .int .i64 a16, .bool a17, .int .i64 a18] [.int .i64 b0, .int .i64 b1, .int .i64 b2, .int .i64 b3, .int .i64 b4, .int .i64 b5, .int .i64 b6, .int .i64 b7, .int .i64 b8, .int .i64 b9, .int .i64 b10, .int .i64 b11, .int .i64 b12, .int .i64 b13, .int .i64 b14, .int .i64 b15, .int .i64 b16, .bool b17, .int .i64 b18]))) := agg_eql (xs := [.int .i64 a0, .int .i64 a1, .int .i64 a2, .int .i64 a3, .int .i64 a4, .int .i64 a5, .int .i64 a6, .int .i64 a7, .int .i64 a8, .int .i64 a9, .int .i64 a10, .int .i64 a11, .int .i64 a12, .int .i64 a13, .int .i64 a14, .int .i64 a15, .int .i64 a16, .bool a17, .int .i64 a18]) (ys := [.int .i64 b0, .int .i64 b1, .int .i64 b2, .int .i64 b3, .int .i64 b4, .int .i64 b5, .int .i64 b6, .int .i64 b7, .int .i64 b8, .int .i64 b9, .int .i64 b10, .int .i64 b11, .int .i64 b12, .int .i64 b13, .int .i64 b14, .int .i64 b15, .int .i64 b16, .bool b17, .int .i64 b18]) eqk220 (by decide) eqg220 rfl rfl K
@[simp] theorem ze220 : zeroT Tryz.prog 220 = some [.d (.s (.int .i64 0)), .d (.s (.int .i64 0)), .d (.s (.int .i64 0)), .d (.s (.int .i64 0)), .d (.s (.int .i64 0)), .d (.s (.int .i64 0)), .d (.s (.int .i64 0)), .d (.s (.int .i64 0)), .d (.s (.int .i64 0)), .d (.s (.int .i64 0)), .d (.s (.int .i64 0)), .d (.s (.int .i64 0)), .d (.s (.int .i64 0)), .d (.s (.int .i64 0)), .d (.s (.int .i64 0)), .d (.s (.int .i64 0)), .d (.s (.int .i64 0)), .d (.s (.bool false)), .d (.s (.int .i64 0))] := by kernel_rfl
@[simp] theorem fi220_0 : fieldT Tryz.prog 220 0 = some (0, 10, true) := by kernel_rfl
@[simp] theorem fi220_1 : fieldT Tryz.prog 220 1 = some (10, 7, true) := by kernel_rfl
@[simp] theorem fi220_2 : fieldT Tryz.prog 220 2 = some (17, 1, false) := by kernel_rfl
@[simp] theorem fi220_3 : fieldT Tryz.prog 220 3 = some (18, 1, false) := by kernel_rfl
@[simp] theorem pl220 : placesT Tryz.prog 220 = some [(0, 10), (10, 7), (17, 1), (18, 1)] := by kernel_rfl
@[simp] theorem sz221 : szOf Tryz.prog 221 = some 19 := by kernel_rfl
@[simp] theorem ag221 : aggT Tryz.prog 221 = some true := by kernel_rfl
@[simp] theorem un221 : unitT Tryz.prog 221 = some 19 := by kernel_rfl
theorem kd221 : kindT Tryz.prog 12 221 = some [.int .i64, .int .i64, .int .i64, .int .i64, .int .i64, .int .i64, .int .i64, .int .i64, .int .i64, .int .i64, .int .i64, .int .i64, .int .i64, .int .i64, .int .i64, .int .i64, .int .i64, .bool, .int .i64] := by kernel_rfl
theorem eqk221 : eqT Tryz.prog 8 221 = some (true, [.int .i64, .int .i64, .int .i64, .int .i64, .int .i64, .int .i64, .int .i64, .int .i64, .int .i64, .int .i64, .int .i64, .int .i64, .int .i64, .int .i64, .int .i64, .int .i64, .int .i64, .bool, .int .i64]) := by kernel_rfl
theorem eqg221 : (Tryz.prog).eqGuardType (Tryz.prog).depth 221 = false := by kernel_rfl
@[simp] theorem neqA221 (a0 b0 : Int) (a1 b1 : Int) (a2 b2 : Int) (a3 b3 : Int) (a4 b4 : Int) (a5 b5 : Int) (a6 b6 : Int) (a7 b7 : Int) (a8 b8 : Int) (a9 b9 : Int) (a10 b10 : Int) (a11 b11 : Int) (a12 b12 : Int) (a13 b13 : Int) (a14 b14 : Int) (a15 b15 : Int) (a16 b16 : Int) (a17 b17 : Bool) (a18 b18 : Int) (K : Value → Prop) : aggBin Tryz.prog .neq 221 [.d (.s (.int .i64 a0)), .d (.s (.int .i64 a1)), .d (.s (.int .i64 a2)), .d (.s (.int .i64 a3)), .d (.s (.int .i64 a4)), .d (.s (.int .i64 a5)), .d (.s (.int .i64 a6)), .d (.s (.int .i64 a7)), .d (.s (.int .i64 a8)), .d (.s (.int .i64 a9)), .d (.s (.int .i64 a10)), .d (.s (.int .i64 a11)), .d (.s (.int .i64 a12)), .d (.s (.int .i64 a13)), .d (.s (.int .i64 a14)), .d (.s (.int .i64 a15)), .d (.s (.int .i64 a16)), .d (.s (.bool a17)), .d (.s (.int .i64 a18))] [.d (.s (.int .i64 b0)), .d (.s (.int .i64 b1)), .d (.s (.int .i64 b2)), .d (.s (.int .i64 b3)), .d (.s (.int .i64 b4)), .d (.s (.int .i64 b5)), .d (.s (.int .i64 b6)), .d (.s (.int .i64 b7)), .d (.s (.int .i64 b8)), .d (.s (.int .i64 b9)), .d (.s (.int .i64 b10)), .d (.s (.int .i64 b11)), .d (.s (.int .i64 b12)), .d (.s (.int .i64 b13)), .d (.s (.int .i64 b14)), .d (.s (.int .i64 b15)), .d (.s (.int .i64 b16)), .d (.s (.bool b17)), .d (.s (.int .i64 b18))] K = K (.bool (!(eqVs [.int .i64 a0, .int .i64 a1, .int .i64 a2, .int .i64 a3, .int .i64 a4, .int .i64 a5, .int .i64 a6, .int .i64 a7, .int .i64 a8, .int .i64 a9, .int .i64 a10, .int .i64 a11, .int .i64 a12, .int .i64 a13, .int .i64 a14, .int .i64 a15, .int .i64 a16, .bool a17, .int .i64 a18] [.int .i64 b0, .int .i64 b1, .int .i64 b2, .int .i64 b3, .int .i64 b4, .int .i64 b5, .int .i64 b6, .int .i64 b7, .int .i64 b8, .int .i64 b9, .int .i64 b10, .int .i64 b11, .int .i64 b12, .int .i64 b13, .int .i64 b14, .int .i64 b15, .int .i64 b16, .bool b17, .int .i64 b18]))) := agg_neq (xs := [.int .i64 a0, .int .i64 a1, .int .i64 a2, .int .i64 a3, .int .i64 a4, .int .i64 a5, .int .i64 a6, .int .i64 a7, .int .i64 a8, .int .i64 a9, .int .i64 a10, .int .i64 a11, .int .i64 a12, .int .i64 a13, .int .i64 a14, .int .i64 a15, .int .i64 a16, .bool a17, .int .i64 a18]) (ys := [.int .i64 b0, .int .i64 b1, .int .i64 b2, .int .i64 b3, .int .i64 b4, .int .i64 b5, .int .i64 b6, .int .i64 b7, .int .i64 b8, .int .i64 b9, .int .i64 b10, .int .i64 b11, .int .i64 b12, .int .i64 b13, .int .i64 b14, .int .i64 b15, .int .i64 b16, .bool b17, .int .i64 b18]) eqk221 (by decide) eqg221 rfl rfl K
@[simp] theorem eqlA221 (a0 b0 : Int) (a1 b1 : Int) (a2 b2 : Int) (a3 b3 : Int) (a4 b4 : Int) (a5 b5 : Int) (a6 b6 : Int) (a7 b7 : Int) (a8 b8 : Int) (a9 b9 : Int) (a10 b10 : Int) (a11 b11 : Int) (a12 b12 : Int) (a13 b13 : Int) (a14 b14 : Int) (a15 b15 : Int) (a16 b16 : Int) (a17 b17 : Bool) (a18 b18 : Int) (K : Value → Prop) : aggBin Tryz.prog .eql 221 [.d (.s (.int .i64 a0)), .d (.s (.int .i64 a1)), .d (.s (.int .i64 a2)), .d (.s (.int .i64 a3)), .d (.s (.int .i64 a4)), .d (.s (.int .i64 a5)), .d (.s (.int .i64 a6)), .d (.s (.int .i64 a7)), .d (.s (.int .i64 a8)), .d (.s (.int .i64 a9)), .d (.s (.int .i64 a10)), .d (.s (.int .i64 a11)), .d (.s (.int .i64 a12)), .d (.s (.int .i64 a13)), .d (.s (.int .i64 a14)), .d (.s (.int .i64 a15)), .d (.s (.int .i64 a16)), .d (.s (.bool a17)), .d (.s (.int .i64 a18))] [.d (.s (.int .i64 b0)), .d (.s (.int .i64 b1)), .d (.s (.int .i64 b2)), .d (.s (.int .i64 b3)), .d (.s (.int .i64 b4)), .d (.s (.int .i64 b5)), .d (.s (.int .i64 b6)), .d (.s (.int .i64 b7)), .d (.s (.int .i64 b8)), .d (.s (.int .i64 b9)), .d (.s (.int .i64 b10)), .d (.s (.int .i64 b11)), .d (.s (.int .i64 b12)), .d (.s (.int .i64 b13)), .d (.s (.int .i64 b14)), .d (.s (.int .i64 b15)), .d (.s (.int .i64 b16)), .d (.s (.bool b17)), .d (.s (.int .i64 b18))] K = K (.bool ((eqVs [.int .i64 a0, .int .i64 a1, .int .i64 a2, .int .i64 a3, .int .i64 a4, .int .i64 a5, .int .i64 a6, .int .i64 a7, .int .i64 a8, .int .i64 a9, .int .i64 a10, .int .i64 a11, .int .i64 a12, .int .i64 a13, .int .i64 a14, .int .i64 a15, .int .i64 a16, .bool a17, .int .i64 a18] [.int .i64 b0, .int .i64 b1, .int .i64 b2, .int .i64 b3, .int .i64 b4, .int .i64 b5, .int .i64 b6, .int .i64 b7, .int .i64 b8, .int .i64 b9, .int .i64 b10, .int .i64 b11, .int .i64 b12, .int .i64 b13, .int .i64 b14, .int .i64 b15, .int .i64 b16, .bool b17, .int .i64 b18]))) := agg_eql (xs := [.int .i64 a0, .int .i64 a1, .int .i64 a2, .int .i64 a3, .int .i64 a4, .int .i64 a5, .int .i64 a6, .int .i64 a7, .int .i64 a8, .int .i64 a9, .int .i64 a10, .int .i64 a11, .int .i64 a12, .int .i64 a13, .int .i64 a14, .int .i64 a15, .int .i64 a16, .bool a17, .int .i64 a18]) (ys := [.int .i64 b0, .int .i64 b1, .int .i64 b2, .int .i64 b3, .int .i64 b4, .int .i64 b5, .int .i64 b6, .int .i64 b7, .int .i64 b8, .int .i64 b9, .int .i64 b10, .int .i64 b11, .int .i64 b12, .int .i64 b13, .int .i64 b14, .int .i64 b15, .int .i64 b16, .bool b17, .int .i64 b18]) eqk221 (by decide) eqg221 rfl rfl K
@[simp] theorem ze221 : zeroT Tryz.prog 221 = some [.d (.s (.int .i64 0)), .d (.s (.int .i64 0)), .d (.s (.int .i64 0)), .d (.s (.int .i64 0)), .d (.s (.int .i64 0)), .d (.s (.int .i64 0)), .d (.s (.int .i64 0)), .d (.s (.int .i64 0)), .d (.s (.int .i64 0)), .d (.s (.int .i64 0)), .d (.s (.int .i64 0)), .d (.s (.int .i64 0)), .d (.s (.int .i64 0)), .d (.s (.int .i64 0)), .d (.s (.int .i64 0)), .d (.s (.int .i64 0)), .d (.s (.int .i64 0)), .d (.s (.bool false)), .d (.s (.int .i64 0))] := by kernel_rfl
@[simp] theorem fi221_0 : fieldT Tryz.prog 221 0 = some (0, 10, true) := by kernel_rfl
@[simp] theorem fi221_1 : fieldT Tryz.prog 221 1 = some (10, 7, true) := by kernel_rfl
@[simp] theorem fi221_2 : fieldT Tryz.prog 221 2 = some (17, 1, false) := by kernel_rfl
@[simp] theorem fi221_3 : fieldT Tryz.prog 221 3 = some (18, 1, false) := by kernel_rfl
@[simp] theorem pl221 : placesT Tryz.prog 221 = some [(0, 10), (10, 7), (17, 1), (18, 1)] := by kernel_rfl
@[simp] theorem sz222 : szOf Tryz.prog 222 = some 2 := by kernel_rfl
@[simp] theorem ag222 : aggT Tryz.prog 222 = some true := by kernel_rfl
@[simp] theorem un222 : unitT Tryz.prog 222 = some 2 := by kernel_rfl
theorem kd222 : kindT Tryz.prog 12 222 = some [.slice [.int .u8], .int .i64] := by kernel_rfl
@[simp] theorem ze222 : zeroT Tryz.prog 222 = some [.d .nil, .d (.s (.int .i64 0))] := by kernel_rfl
@[simp] theorem fi222_0 : fieldT Tryz.prog 222 0 = some (0, 1, false) := by kernel_rfl
@[simp] theorem fi222_1 : fieldT Tryz.prog 222 1 = some (1, 1, false) := by kernel_rfl
@[simp] theorem pl222 : placesT Tryz.prog 222 = some [(0, 1), (1, 1)] := by kernel_rfl
@[simp] theorem sz223 : szOf Tryz.prog 223 = some 2 := by kernel_rfl
@[simp] theorem ag223 : aggT Tryz.prog 223 = some true := by kernel_rfl
@[simp] theorem un223 : unitT Tryz.prog 223 = some 2 := by kernel_rfl
theorem kd223 : kindT Tryz.prog 12 223 = some [.slice [.int .u8], .int .i64] := by kernel_rfl
@[simp] theorem ze223 : zeroT Tryz.prog 223 = some [.d .nil, .d (.s (.int .i64 0))] := by kernel_rfl
@[simp] theorem fi223_0 : fieldT Tryz.prog 223 0 = some (0, 1, false) := by kernel_rfl
@[simp] theorem fi223_1 : fieldT Tryz.prog 223 1 = some (1, 1, false) := by kernel_rfl
@[simp] theorem pl223 : placesT Tryz.prog 223 = some [(0, 1), (1, 1)] := by kernel_rfl
@[simp] theorem sz224 : szOf Tryz.prog 224 = some 1 := by kernel_rfl
@[simp] theorem ag224 : aggT Tryz.prog 224 = some false := by kernel_rfl
@[simp] theorem un224 : unitT Tryz.prog 224 = some 1 := by kernel_rfl
@[simp] theorem ze224 : zeroT Tryz.prog 224 = some [.d (.s .nilFunc)] := by kernel_rfl
@[simp] theorem sz225 : szOf Tryz.prog 225 = some 1 := by kernel_rfl
@[simp] theorem ag225 : aggT Tryz.prog 225 = some false := by kernel_rfl
@[simp] theorem un225 : unitT Tryz.prog 225 = some 1 := by kernel_rfl
@[simp] theorem ze225 : zeroT Tryz.prog 225 = some [.d (.s .nilFunc)] := by kernel_rfl
@[simp] theorem sz226 : szOf Tryz.prog 226 = some 1 := by kernel_rfl
@[simp] theorem ag226 : aggT Tryz.prog 226 = some false := by kernel_rfl
@[simp] theorem un226 : unitT Tryz.prog 226 = some 1 := by kernel_rfl
@[simp] theorem ze226 : zeroT Tryz.prog 226 = some [.d (.s (.pointer none))] := by kernel_rfl
@[simp] theorem sz227 : szOf Tryz.prog 227 = some 1 := by kernel_rfl
@[simp] theorem ag227 : aggT Tryz.prog 227 = some false := by kernel_rfl
@[simp] theorem un227 : unitT Tryz.prog 227 = some 1 := by kernel_rfl
theorem kd227 : kindT Tryz.prog 12 227 = some [.slice [.int .i64, .int .i64, .int .i64]] := by kernel_rfl
@[simp] theorem sl227 : sliceT Tryz.prog 227 = some (145, 3, 24) := by kernel_rfl
@[simp] theorem ze227 : zeroT Tryz.prog 227 = some [.d .nil] := by kernel_rfl
@[simp] theorem sz228 : szOf Tryz.prog 228 = some 1 := by kernel_rfl
@[simp] theorem ag228 : aggT Tryz.prog 228 = some false := by kernel_rfl
@[simp] theorem un228 : unitT Tryz.prog 228 = some 1 := by kernel_rfl
@[simp] theorem ze228 : zeroT Tryz.prog 228 = some [.d (.s .nilFunc)] := by kernel_rfl
@[simp] theorem sz229 : szOf Tryz.prog 229 = some 1 := by kernel_rfl
@[simp] theorem ag229 : aggT Tryz.prog 229 = some false := by kernel_rfl
@[simp] theorem un229 : unitT Tryz.prog 229 = some 1 := by kernel_rfl
@[simp] theorem ze229 : zeroT Tryz.prog 229 = some [.d (.s .nilFunc)] := by kernel_rfl
@[simp] theorem sz230 : szOf Tryz.prog 230 = some 1 := by kernel_rfl
@[simp] theorem ag230 : aggT Tryz.prog 230 = some false := by kernel_rfl
@[simp] theorem un230 : unitT Tryz.prog 230 = some 1 := by kernel_rfl
@[simp] theorem ze230 : zeroT Tryz.prog 230 = some [.d (.s .nilFunc)] := by kernel_rfl
@[simp] theorem sz231 : szOf Tryz.prog 231 = some 1 := by kernel_rfl
@[simp] theorem ag231 : aggT Tryz.prog 231 = some false := by kernel_rfl
@[simp] theorem un231 : unitT Tryz.prog 231 = some 1 := by kernel_rfl
@[simp] theorem ze231 : zeroT Tryz.prog 231 = some [.d (.s .nilFunc)] := by kernel_rfl
@[simp] theorem sz232 : szOf Tryz.prog 232 = some 1 := by kernel_rfl
@[simp] theorem ag232 : aggT Tryz.prog 232 = some false := by kernel_rfl
@[simp] theorem un232 : unitT Tryz.prog 232 = some 1 := by kernel_rfl
@[simp] theorem ze232 : zeroT Tryz.prog 232 = some [.d (.s .nilFunc)] := by kernel_rfl
@[simp] theorem sz233 : szOf Tryz.prog 233 = some 8 := by kernel_rfl
@[simp] theorem ag233 : aggT Tryz.prog 233 = some true := by kernel_rfl
@[simp] theorem un233 : unitT Tryz.prog 233 = some 8 := by kernel_rfl
theorem kd233 : kindT Tryz.prog 12 233 = some [.bool, .int .i64, .int .i64, .int .i64, .int .i64, .int .i64, .int .i64, .int .i64] := by kernel_rfl
theorem eqk233 : eqT Tryz.prog 8 233 = some (true, [.bool, .int .i64, .int .i64, .int .i64, .int .i64, .int .i64, .int .i64, .int .i64]) := by kernel_rfl
theorem eqg233 : (Tryz.prog).eqGuardType (Tryz.prog).depth 233 = false := by kernel_rfl
@[simp] theorem neqA233 (a0 b0 : Bool) (a1 b1 : Int) (a2 b2 : Int) (a3 b3 : Int) (a4 b4 : Int) (a5 b5 : Int) (a6 b6 : Int) (a7 b7 : Int) (K : Value → Prop) : aggBin Tryz.prog .neq 233 [.d (.s (.bool a0)), .d (.s (.int .i64 a1)), .d (.s (.int .i64 a2)), .d (.s (.int .i64 a3)), .d (.s (.int .i64 a4)), .d (.s (.int .i64 a5)), .d (.s (.int .i64 a6)), .d (.s (.int .i64 a7))] [.d (.s (.bool b0)), .d (.s (.int .i64 b1)), .d (.s (.int .i64 b2)), .d (.s (.int .i64 b3)), .d (.s (.int .i64 b4)), .d (.s (.int .i64 b5)), .d (.s (.int .i64 b6)), .d (.s (.int .i64 b7))] K = K (.bool (!(eqVs [.bool a0, .int .i64 a1, .int .i64 a2, .int .i64 a3, .int .i64 a4, .int .i64 a5, .int .i64 a6, .int .i64 a7] [.bool b0, .int .i64 b1, .int .i64 b2, .int .i64 b3, .int .i64 b4, .int .i64 b5, .int .i64 b6, .int .i64 b7]))) := agg_neq (xs := [.bool a0, .int .i64 a1, .int .i64 a2, .int .i64 a3, .int .i64 a4, .int .i64 a5, .int .i64 a6, .int .i64 a7]) (ys := [.bool b0, .int .i64 b1, .int .i64 b2, .int .i64 b3, .int .i64 b4, .int .i64 b5, .int .i64 b6, .int .i64 b7]) eqk233 (by decide) eqg233 rfl rfl K
@[simp] theorem eqlA233 (a0 b0 : Bool) (a1 b1 : Int) (a2 b2 : Int) (a3 b3 : Int) (a4 b4 : Int) (a5 b5 : Int) (a6 b6 : Int) (a7 b7 : Int) (K : Value → Prop) : aggBin Tryz.prog .eql 233 [.d (.s (.bool a0)), .d (.s (.int .i64 a1)), .d (.s (.int .i64 a2)), .d (.s (.int .i64 a3)), .d (.s (.int .i64 a4)), .d (.s (.int .i64 a5)), .d (.s (.int .i64 a6)), .d (.s (.int .i64 a7))] [.d (.s (.bool b0)), .d (.s (.int .i64 b1)), .d (.s (.int .i64 b2)), .d (.s (.int .i64 b3)), .d (.s (.int .i64 b4)), .d (.s (.int .i64 b5)), .d (.s (.int .i64 b6)), .d (.s (.int .i64 b7))] K = K (.bool ((eqVs [.bool a0, .int .i64 a1, .int .i64 a2, .int .i64 a3, .int .i64 a4, .int .i64 a5, .int .i64 a6, .int .i64 a7] [.bool b0, .int .i64 b1, .int .i64 b2, .int .i64 b3, .int .i64 b4, .int .i64 b5, .int .i64 b6, .int .i64 b7]))) := agg_eql (xs := [.bool a0, .int .i64 a1, .int .i64 a2, .int .i64 a3, .int .i64 a4, .int .i64 a5, .int .i64 a6, .int .i64 a7]) (ys := [.bool b0, .int .i64 b1, .int .i64 b2, .int .i64 b3, .int .i64 b4, .int .i64 b5, .int .i64 b6, .int .i64 b7]) eqk233 (by decide) eqg233 rfl rfl K
@[simp] theorem ze233 : zeroT Tryz.prog 233 = some [.d (.s (.bool false)), .d (.s (.int .i64 0)), .d (.s (.int .i64 0)), .d (.s (.int .i64 0)), .d (.s (.int .i64 0)), .d (.s (.int .i64 0)), .d (.s (.int .i64 0)), .d (.s (.int .i64 0))] := by kernel_rfl
@[simp] theorem fi233_0 : fieldT Tryz.prog 233 0 = some (0, 1, false) := by kernel_rfl
@[simp] theorem fi233_1 : fieldT Tryz.prog 233 1 = some (1, 7, true) := by kernel_rfl
@[simp] theorem pl233 : placesT Tryz.prog 233 = some [(0, 1), (1, 7)] := by kernel_rfl
@[simp] theorem sz234 : szOf Tryz.prog 234 = some 8 := by kernel_rfl
@[simp] theorem ag234 : aggT Tryz.prog 234 = some true := by kernel_rfl
@[simp] theorem un234 : unitT Tryz.prog 234 = some 8 := by kernel_rfl
theorem kd234 : kindT Tryz.prog 12 234 = some [.bool, .int .i64, .int .i64, .int .i64, .int .i64, .int .i64, .int .i64, .int .i64] := by kernel_rfl
theorem eqk234 : eqT Tryz.prog 8 234 = some (true, [.bool, .int .i64, .int .i64, .int .i64, .int .i64, .int .i64, .int .i64, .int .i64]) := by kernel_rfl
theorem eqg234 : (Tryz.prog).eqGuardType (Tryz.prog).depth 234 = false := by kernel_rfl
@[simp] theorem neqA234 (a0 b0 : Bool) (a1 b1 : Int) (a2 b2 : Int) (a3 b3 : Int) (a4 b4 : Int) (a5 b5 : Int) (a6 b6 : Int) (a7 b7 : Int) (K : Value → Prop) : aggBin Tryz.prog .neq 234 [.d (.s (.bool a0)), .d (.s (.int .i64 a1)), .d (.s (.int .i64 a2)), .d (.s (.int .i64 a3)), .d (.s (.int .i64 a4)), .d (.s (.int .i64 a5)), .d (.s (.int .i64 a6)), .d (.s (.int .i64 a7))] [.d (.s (.bool b0)), .d (.s (.int .i64 b1)), .d (.s (.int .i64 b2)), .d (.s (.int .i64 b3)), .d (.s (.int .i64 b4)), .d (.s (.int .i64 b5)), .d (.s (.int .i64 b6)), .d (.s (.int .i64 b7))] K = K (.bool (!(eqVs [.bool a0, .int .i64 a1, .int .i64 a2, .int .i64 a3, .int .i64 a4, .int .i64 a5, .int .i64 a6, .int .i64 a7] [.bool b0, .int .i64 b1, .int .i64 b2, .int .i64 b3, .int .i64 b4, .int .i64 b5, .int .i64 b6, .int .i64 b7]))) := agg_neq (xs := [.bool a0, .int .i64 a1, .int .i64 a2, .int .i64 a3, .int .i64 a4, .int .i64 a5, .int .i64 a6, .int .i64 a7]) (ys := [.bool b0, .int .i64 b1, .int .i64 b2, .int .i64 b3, .int .i64 b4, .int .i64 b5, .int .i64 b6, .int .i64 b7]) eqk234 (by decide) eqg234 rfl rfl K
@[simp] theorem eqlA234 (a0 b0 : Bool) (a1 b1 : Int) (a2 b2 : Int) (a3 b3 : Int) (a4 b4 : Int) (a5 b5 : Int) (a6 b6 : Int) (a7 b7 : Int) (K : Value → Prop) : aggBin Tryz.prog .eql 234 [.d (.s (.bool a0)), .d (.s (.int .i64 a1)), .d (.s (.int .i64 a2)), .d (.s (.int .i64 a3)), .d (.s (.int .i64 a4)), .d (.s (.int .i64 a5)), .d (.s (.int .i64 a6)), .d (.s (.int .i64 a7))] [.d (.s (.bool b0)), .d (.s (.int .i64 b1)), .d (.s (.int .i64 b2)), .d (.s (.int .i64 b3)), .d (.s (.int .i64 b4)), .d (.s (.int .i64 b5)), .d (.s (.int .i64 b6)), .d (.s (.int .i64 b7))] K = K (.bool ((eqVs [.bool a0, .int .i64 a1, .int .i64 a2, .int .i64 a3, .int .i64 a4, .int .i64 a5, .int .i64 a6, .int .i64 a7] [.bool b0, .int .i64 b1, .int .i64 b2, .int .i64 b3, .int .i64 b4, .int .i64 b5, .int .i64 b6, .int .i64 b7]))) := agg_eql (xs := [.bool a0, .int .i64 a1, .int .i64 a2, .int .i64 a3, .int .i64 a4, .int .i64 a5, .int .i64 a6, .int .i64 a7]) (ys := [.bool b0, .int .i64 b1, .int .i64 b2, .int .i64 b3, .int .i64 b4, .int .i64 b5, .int .i64 b6, .int .i64 b7]) eqk234 (by decide) eqg234 rfl rfl K
@[simp] theorem ze234 : zeroT Tryz.prog 234 = some [.d (.s (.bool false)), .d (.s (.int .i64 0)), .d (.s (.int .i64 0)), .d (.s (.int .i64 0)), .d (.s (.int .i64 0)), .d (.s (.int .i64 0)), .d (.s (.int .i64 0)), .d (.s (.int .i64 0))] := by kernel_rfl
@[simp] theorem fi234_0 : fieldT Tryz.prog 234 0 = some (0, 1, false) := by kernel_rfl
@[simp] theorem fi234_1 : fieldT Tryz.prog 234 1 = some (1, 7, true) := by kernel_rfl
@[simp] theorem pl234 : placesT Tryz.prog 234 = some [(0, 1), (1, 7)] := by kernel_rfl
@[simp] theorem sz235 : szOf Tryz.prog 235 = some 1 := by kernel_rfl
@[simp] theorem ag235 : aggT Tryz.prog 235 = some false := by kernel_rfl
@[simp] theorem un235 : unitT Tryz.prog 235 = some 1 := by kernel_rfl
@[simp] theorem ze235 : zeroT Tryz.prog 235 = some [.d (.s .nilFunc)] := by kernel_rfl
@[simp] theorem sz236 : szOf Tryz.prog 236 = some 1 := by kernel_rfl
@[simp] theorem ag236 : aggT Tryz.prog 236 = some false := by kernel_rfl
@[simp] theorem un236 : unitT Tryz.prog 236 = some 1 := by kernel_rfl
@[simp] theorem ze236 : zeroT Tryz.prog 236 = some [.d (.s (.pointer none))] := by kernel_rfl
@[simp] theorem sz237 : szOf Tryz.prog 237 = some 1 := by kernel_rfl
@[simp] theorem ag237 : aggT Tryz.prog 237 = some false := by kernel_rfl
@[simp] theorem un237 : unitT Tryz.prog 237 = some 1 := by kernel_rfl
@[simp] theorem ze237 : zeroT Tryz.prog 237 = some [.d (.s .nilFunc)] := by kernel_rfl
@[simp] theorem sz238 : szOf Tryz.prog 238 = some 1 := by kernel_rfl
@[simp] theorem ag238 : aggT Tryz.prog 238 = some false := by kernel_rfl
@[simp] theorem un238 : unitT Tryz.prog 238 = some 1 := by kernel_rfl
@[simp] theorem ze238 : zeroT Tryz.prog 238 = some [.d (.s .nilFunc)] := by kernel_rfl
@[simp] theorem sz239 : szOf Tryz.prog 239 = some 1 := by kernel_rfl
@[simp] theorem ag239 : aggT Tryz.prog 239 = some false := by kernel_rfl
@[simp] theorem un239 : unitT Tryz.prog 239 = some 1 := by kernel_rfl
@[simp] theorem ze239 : zeroT Tryz.prog 239 = some [.d (.s .nilFunc)] := by kernel_rfl
@[simp] theorem sz240 : szOf Tryz.prog 240 = some 1 := by kernel_rfl
@[simp] theorem ag240 : aggT Tryz.prog 240 = some false := by kernel_rfl
@[simp] theorem un240 : unitT Tryz.prog 240 = some 1 := by kernel_rfl
@[simp] theorem ze240 : zeroT Tryz.prog 240 = some [.d (.s .nilFunc)] := by kernel_rfl
@[simp] theorem sz241 : szOf Tryz.prog 241 = some 1 := by kernel_rfl
@[simp] theorem ag241 : aggT Tryz.prog 241 = some false := by kernel_rfl
@[simp] theorem un241 : unitT Tryz.prog 241 = some 1 := by kernel_rfl
@[simp] theorem ze241 : zeroT Tryz.prog 241 = some [.d (.s .nilFunc)] := by kernel_rfl
@[simp] theorem sz242 : szOf Tryz.prog 242 = some 1 := by kernel_rfl
@[simp] theorem ag242 : aggT Tryz.prog 242 = some false := by kernel_rfl
@[simp] theorem un242 : unitT Tryz.prog 242 = some 1 := by kernel_rfl
@[simp] theorem ze242 : zeroT Tryz.prog 242 = some [.d (.s .nilFunc)] := by kernel_rfl
@[simp] theorem sz243 : szOf Tryz.prog 243 = some 1 := by kernel_rfl
@[simp] theorem ag243 : aggT Tryz.prog 243 = some false := by kernel_rfl
@[simp] theorem un243 : unitT Tryz.prog 243 = some 1 := by kernel_rfl
@[simp] theorem ze243 : zeroT Tryz.prog 243 = some [.d (.s .nilFunc)] := by kernel_rfl
@[simp] theorem sz244 : szOf Tryz.prog 244 = some 1 := by kernel_rfl
@[simp] theorem ag244 : aggT Tryz.prog 244 = some false := by kernel_rfl
@[simp] theorem un244 : unitT Tryz.prog 244 = some 1 := by kernel_rfl
@[simp] theorem ze244 : zeroT Tryz.prog 244 = some [.d (.s (.pointer none))] := by kernel_rfl
@[simp] theorem sz245 : szOf Tryz.prog 245 = some 1 := by kernel_rfl
@[simp] theorem ag245 : aggT Tryz.prog 245 = some false := by kernel_rfl
@[simp] theorem un245 : unitT Tryz.prog 245 = some 1 := by kernel_rfl
theorem kd245 : kindT Tryz.prog 12 245 = some [.slice [.slice [.int .u8]]] := by kernel_rfl
@[simp] theorem sl245 : sliceT Tryz.prog 245 = some (22, 1, 24) := by kernel_rfl
@[simp] theorem ze245 : zeroT Tryz.prog 245 = some [.d .nil] := by kernel_rfl
@[simp] theorem sz246 : szOf Tryz.prog 246 = some 3 := by kernel_rfl
@[simp] theorem ag246 : aggT Tryz.prog 246 = some true := by kernel_rfl
@[simp] theorem un246 : unitT Tryz.prog 246 = some 3 := by kernel_rfl
theorem kd246 : kindT Tryz.prog 12 246 = some [.int .i64, .slice [.slice [.int .u8]], .int .i64] := by kernel_rfl
@[simp] theorem ze246 : zeroT Tryz.prog 246 = some [.d (.s (.int .i64 0)), .d .nil, .d (.s (.int .i64 0))] := by kernel_rfl
@[simp] theorem fi246_0 : fieldT Tryz.prog 246 0 = some (0, 1, false) := by kernel_rfl
@[simp] theorem fi246_1 : fieldT Tryz.prog 246 1 = some (1, 1, false) := by kernel_rfl
@[simp] theorem fi246_2 : fieldT Tryz.prog 246 2 = some (2, 1, false) := by kernel_rfl
@[simp] theorem pl246 : placesT Tryz.prog 246 = some [(0, 1), (1, 1), (2, 1)] := by kernel_rfl
@[simp] theorem sz247 : szOf Tryz.prog 247 = some 3 := by kernel_rfl
@[simp] theorem ag247 : aggT Tryz.prog 247 = some true := by kernel_rfl
@[simp] theorem un247 : unitT Tryz.prog 247 = some 3 := by kernel_rfl
theorem kd247 : kindT Tryz.prog 12 247 = some [.int .i64, .slice [.slice [.int .u8]], .int .i64] := by kernel_rfl
@[simp] theorem ze247 : zeroT Tryz.prog 247 = some [.d (.s (.int .i64 0)), .d .nil, .d (.s (.int .i64 0))] := by kernel_rfl
@[simp] theorem fi247_0 : fieldT Tryz.prog 247 0 = some (0, 1, false) := by kernel_rfl
@[simp] theorem fi247_1 : fieldT Tryz.prog 247 1 = some (1, 1, false) := by kernel_rfl
@[simp] theorem fi247_2 : fieldT Tryz.prog 247 2 = some (2, 1, false) := by kernel_rfl
@[simp] theorem pl247 : placesT Tryz.prog 247 = some [(0, 1), (1, 1), (2, 1)] := by kernel_rfl
@[simp] theorem sz248 : szOf Tryz.prog 248 = some 1 := by kernel_rfl
@[simp] theorem ag248 : aggT Tryz.prog 248 = some false := by kernel_rfl
@[simp] theorem un248 : unitT Tryz.prog 248 = some 1 := by kernel_rfl
@[simp] theorem ze248 : zeroT Tryz.prog 248 = some [.d (.s .nilFunc)] := by kernel_rfl
@[simp] theorem sz249 : szOf Tryz.prog 249 = some 1 := by kernel_rfl
@[simp] theorem ag249 : aggT Tryz.prog 249 = some false := by kernel_rfl
@[simp] theorem un249 : unitT Tryz.prog 249 = some 1 := by kernel_rfl
@[simp] theorem ze249 : zeroT Tryz.prog 249 = some [.d (.s .nilFunc)] := by kernel_rfl
@[simp] theorem sz250 : szOf Tryz.prog 250 = some 1 := by kernel_rfl
@[simp] theorem ag250 : aggT Tryz.prog 250 = some false := by kernel_rfl
@[simp] theorem un250 : unitT Tryz.prog 250 = some 1 := by kernel_rfl
@[simp] theorem ze250 : zeroT Tryz.prog 250 = some [.d (.s .nilFunc)] := by kernel_rfl
@[simp] theorem sz251 : szOf Tryz.prog 251 = some 1 := by kernel_rfl
@[simp] theorem ag251 : aggT Tryz.prog 251 = some false := by kernel_rfl
@[simp] theorem un251 : unitT Tryz.prog 251 = some 1 := by kernel_rfl
@[simp] theorem sz252 : szOf Tryz.prog 252 = some 1 := by kernel_rfl
@[simp] theorem ag252 : aggT Tryz.prog 252 = some false := by kernel_rfl
@[simp] theorem un252 : unitT Tryz.prog 252 = some 1 := by kernel_rfl
@[simp] theorem ze252 : zeroT Tryz.prog 252 = some [.d (.s .nilFunc)] := by kernel_rfl
@[simp] theorem sz253 : szOf Tryz.prog 253 = some 1 := by kernel_rfl
@[simp] theorem ag253 : aggT Tryz.prog 253 = some false := by kernel_rfl
@[simp] theorem un253 : unitT Tryz.prog 253 = some 1 := by kernel_rfl
@[simp] theorem sz254 : szOf Tryz.prog 254 = some 1 := by kernel_rfl
@[simp] theorem ag254 : aggT Tryz.prog 254 = some false := by kernel_rfl
@[simp] theorem un254 : unitT Tryz.prog 254 = some 1 := by kernel_rfl
@[simp] theorem ze254 : zeroT Tryz.prog 254 = some [.d (.s .nilFunc)] := by kernel_rfl
@[simp] theorem sz255 : szOf Tryz.prog 255 = some 1 := by kernel_rfl
@[simp] theorem ag255 : aggT Tryz.prog 255 = some false := by kernel_rfl
@[simp] theorem un255 : unitT Tryz.prog 255 = some 1 := by kernel_rfl
@[simp] theorem ze255 : zeroT Tryz.prog 255 = some [.d (.s .nilFunc)] := by kernel_rfl
@[simp] theorem sz256 : szOf Tryz.prog 256 = some 1 := by kernel_rfl
@[simp] theorem ag256 : aggT Tryz.prog 256 = some false := by kernel_rfl
@[simp] theorem un256 : unitT Tryz.prog 256 = some 1 := by kernel_rfl
@[simp] theorem ze256 : zeroT Tryz.prog 256 = some [.d (.s .nilFunc)] := by kernel_rfl
@[simp] theorem sz257 : szOf Tryz.prog 257 = some 1 := by kernel_rfl
@[simp] theorem ag257 : aggT Tryz.prog 257 = some false := by kernel_rfl
@[simp] theorem un257 : unitT Tryz.prog 257 = some 1 := by kernel_rfl
@[simp] theorem ze257 : zeroT Tryz.prog 257 = some [.d (.s .nilFunc)] := by kernel_rfl
@[simp] theorem sz258 : szOf Tryz.prog 258 = some 1 := by kernel_rfl
@[simp] theorem ag258 : aggT Tryz.prog 258 = some false := by kernel_rfl
@[simp] theorem un258 : unitT Tryz.prog 258 = some 1 := by kernel_rfl
@[simp] theorem ze258 : zeroT Tryz.prog 258 = some [.d (.s .nilFunc)] := by kernel_rfl
@[simp] theorem sz259 : szOf Tryz.prog 259 = some 1 := by kernel_rfl
@[simp] theorem ag259 : aggT Tryz.prog 259 = some false := by kernel_rfl
@[simp] theorem un259 : unitT Tryz.prog 259 = some 1 := by kernel_rfl
theorem kd259 : kindT Tryz.prog 12 259 = some [.int .u64] := by kernel_rfl
@[simp] theorem ze259 : zeroT Tryz.prog 259 = some [.d (.s (.int .u64 0))] := by kernel_rfl
@[simp] theorem sz260 : szOf Tryz.prog 260 = some 1 := by kernel_rfl
@[simp] theorem ag260 : aggT Tryz.prog 260 = some false := by kernel_rfl
@[simp] theorem un260 : unitT Tryz.prog 260 = some 1 := by kernel_rfl
@[simp] theorem ze260 : zeroT Tryz.prog 260 = some [.d (.s .nilFunc)] := by kernel_rfl
@[simp] theorem sz261 : szOf Tryz.prog 261 = some 1 := by kernel_rfl
@[simp] theorem ag261 : aggT Tryz.prog 261 = some false := by kernel_rfl
@[simp] theorem un261 : unitT Tryz.prog 261 = some 1 := by kernel_rfl
@[simp] theorem ze261 : zeroT Tryz.prog 261 = some [.d (.s .nilFunc)] := by kernel_rfl
@[simp] theorem sz262 : szOf Tryz.prog 262 = some 9 := by kernel_rfl
@[simp] theorem ag262 : aggT Tryz.prog 262 = some true := by kernel_rfl
@[simp] theorem un262 : unitT Tryz.prog 262 = some 9 := by kernel_rfl
theorem kd262 : kindT Tryz.prog 12 262 = some [.int .i64, .bool, .int .i64, .int .i64, .int .i64, .int .i64, .int .i64, .int .i64, .int .i64] := by kernel_rfl
theorem eqk262 : eqT Tryz.prog 8 262 = some (true, [.int .i64, .bool, .int .i64, .int .i64, .int .i64, .int .i64, .int .i64, .int .i64, .int .i64]) := by kernel_rfl
theorem eqg262 : (Tryz.prog).eqGuardType (Tryz.prog).depth 262 = false := by kernel_rfl
@[simp] theorem neqA262 (a0 b0 : Int) (a1 b1 : Bool) (a2 b2 : Int) (a3 b3 : Int) (a4 b4 : Int) (a5 b5 : Int) (a6 b6 : Int) (a7 b7 : Int) (a8 b8 : Int) (K : Value → Prop) : aggBin Tryz.prog .neq 262 [.d (.s (.int .i64 a0)), .d (.s (.bool a1)), .d (.s (.int .i64 a2)), .d (.s (.int .i64 a3)), .d (.s (.int .i64 a4)), .d (.s (.int .i64 a5)), .d (.s (.int .i64 a6)), .d (.s (.int .i64 a7)), .d (.s (.int .i64 a8))] [.d (.s (.int .i64 b0)), .d (.s (.bool b1)), .d (.s (.int .i64 b2)), .d (.s (.int .i64 b3)), .d (.s (.int .i64 b4)), .d (.s (.int .i64 b5)), .d (.s (.int .i64 b6)), .d (.s (.int .i64 b7)), .d (.s (.int .i64 b8))] K = K (.bool (!(eqVs [.int .i64 a0, .bool a1, .int .i64 a2, .int .i64 a3, .int .i64 a4, .int .i64 a5, .int .i64 a6, .int .i64 a7, .int .i64 a8] [.int .i64 b0, .bool b1, .int .i64 b2, .int .i64 b3, .int .i64 b4, .int .i64 b5, .int .i64 b6, .int .i64 b7, .int .i64 b8]))) := agg_neq (xs := [.int .i64 a0, .bool a1, .int .i64 a2, .int .i64 a3, .int .i64 a4, .int .i64 a5, .int .i64 a6, .int .i64 a7, .int .i64 a8]) (ys := [.int .i64 b0, .bool b1, .int .i64 b2, .int .i64 b3, .int .i64 b4, .int .i64 b5, .int .i64 b6, .int .i64 b7, .int .i64 b8]) eqk262 (by decide) eqg262 rfl rfl K
@[simp] theorem eqlA262 (a0 b0 : Int) (a1 b1 : Bool) (a2 b2 : Int) (a3 b3 : Int) (a4 b4 : Int) (a5 b5 : Int) (a6 b6 : Int) (a7 b7 : Int) (a8 b8 : Int) (K : Value → Prop) : aggBin Tryz.prog .eql 262 [.d (.s (.int .i64 a0)), .d (.s (.bool a1)), .d (.s (.int .i64 a2)), .d (.s (.int .i64 a3)), .d (.s (.int .i64 a4)), .d (.s (.int .i64 a5)), .d (.s (.int .i64 a6)), .d (.s (.int .i64 a7)), .d (.s (.int .i64 a8))] [.d (.s (.int .i64 b0)), .d (.s (.bool b1)), .d (.s (.int .i64 b2)), .d (.s (.int .i64 b3)), .d (.s (.int .i64 b4)), .d (.s (.int .i64 b5)), .d (.s (.int .i64 b6)), .d (.s (.int .i64 b7)), .d (.s (.int .i64 b8))] K = K (.bool ((eqVs [.int .i64 a0, .bool a1, .int .i64 a2, .int .i64 a3, .int .i64 a4, .int .i64 a5, .int .i64 a6, .int .i64 a7, .int .i64 a8] [.int .i64 b0, .bool b1, .int .i64 b2, .int .i64 b3, .int .i64 b4, .int .i64 b5, .int .i64 b6, .int .i64 b7, .int .i64 b8]))) := agg_eql (xs := [.int .i64 a0, .bool a1, .int .i64 a2, .int .i64 a3, .int .i64 a4, .int .i64 a5, .int .i64 a6, .int .i64 a7, .int .i64 a8]) (ys := [.int .i64 b0, .bool b1, .int .i64 b2, .int .i64 b3, .int .i64 b4, .int .i64 b5, .int .i64 b6, .int .i64 b7, .int .i64 b8]) eqk262 (by decide) eqg262 rfl rfl K
@[simp] theorem ze262 : zeroT Tryz.prog 262 = some [.d (.s (.int .i64 0)), .d (.s (.bool false)), .d (.s (.int .i64 0)), .d (.s (.int .i64 0)), .d (.s (.int .i64 0)), .d (.s (.int .i64 0)), .d (.s (.int .i64 0)), .d (.s (.int .i64 0)), .d (.s (.int .i64 0))] := by kernel_rfl
@[simp] theorem fi262_0 : fieldT Tryz.prog 262 0 = some (0, 1, false) := by kernel_rfl
@[simp] theorem fi262_1 : fieldT Tryz.prog 262 1 = some (1, 1, false) := by kernel_rfl
@[simp] theorem fi262_2 : fieldT Tryz.prog 262 2 = some (2, 7, true) := by kernel_rfl
@[simp] theorem pl262 : placesT Tryz.prog 262 = some [(0, 1), (1, 1), (2, 7)] := by kernel_rfl
@[simp] theorem sz263 : szOf Tryz.prog 263 = some 9 := by kernel_rfl
@[simp] theorem ag263 : aggT Tryz.prog 263 = some true := by kernel_rfl
@[simp] theorem un263 : unitT Tryz.prog 263 = some 9 := by kernel_rfl
theorem kd263 : kindT Tryz.prog 12 263 = some [.int .i64, .bool, .int .i64, .int .i64, .int .i64, .int .i64, .int .i64, .int .i64, .int .i64] := by kernel_rfl
theorem eqk263 : eqT Tryz.prog 8 263 = some (true, [.int .i64, .bool, .int .i64, .int .i64, .int .i64, .int .i64, .int .i64, .int .i64, .int .i64]) := by kernel_rfl
theorem eqg263 : (Tryz.prog).eqGuardType (Tryz.prog).depth 263 = false := by kernel_rfl
@[simp] theorem neqA263 (a0 b0 : Int) (a1 b1 : Bool) (a2 b2 : Int) (a3 b3 : Int) (a4 b4 : Int) (a5 b5 : Int) (a6 b6 : Int) (a7 b7 : Int) (a8 b8 : Int) (K : Value → Prop) : aggBin Tryz.prog .neq 263 [.d (.s (.int .i64 a0)), .d (.s (.bool a1)), .d (.s (.int .i64 a2)), .d (.s (.int .i64 a3)), .d (.s (.int .i64 a4)), .d (.s (.int .i64 a5)), .d (.s (.int .i64 a6)), .d (.s (.int .i64 a7)), .d (.s (.int .i64 a8))] [.d (.s (.int .i64 b0)), .d (.s (.bool b1)), .d (.s (.int .i64 b2)), .d (.s (.int .i64 b3)), .d (.s (.int .i64 b4)), .d (.s (.int .i64 b5)), .d (.s (.int .i64 b6)), .d (.s (.int .i64 b7)), .d (.s (.int .i64 b8))] K = K (.bool (!(eqVs [.int .i64 a0, .bool a1, .int .i64 a2, .int .i64 a3, .int .i64 a4, .int .i64 a5, .int .i64 a6, .int .i64 a7, .int .i64 a8] [.int .i64 b0, .bool b1, .int .i64 b2, .int .i64 b3, .int .i64 b4, .int .i64 b5, .int .i64 b6, .int .i64 b7, .int .i64 b8]))) := agg_neq (xs := [.int .i64 a0, .bool a1, .int .i64 a2, .int .i64 a3, .int .i64 a4, .int .i64 a5, .int .i64 a6, .int .i64 a7, .int .i64 a8]) (ys := [.int .i64 b0, .bool b1, .int .i64 b2, .int .i64 b3, .int .i64 b4, .int .i64 b5, .int .i64 b6, .int .i64 b7, .int .i64 b8]) eqk263 (by decide) eqg263 rfl rfl K
@[simp] theorem eqlA263 (a0 b0 : Int) (a1 b1 : Bool) (a2 b2 : Int) (a3 b3 : Int) (a4 b4 : Int) (a5 b5 : Int) (a6 b6 : Int) (a7 b7 : Int) (a8 b8 : Int) (K : Value → Prop) : aggBin Tryz.prog .eql 263 [.d (.s (.int .i64 a0)), .d (.s (.bool a1)), .d (.s (.int .i64 a2)), .d (.s (.int .i64 a3)), .d (.s (.int .i64 a4)), .d (.s (.int .i64 a5)), .d (.s (.int .i64 a6)), .d (.s (.int .i64 a7)), .d (.s (.int .i64 a8))] [.d (.s (.int .i64 b0)), .d (.s (.bool b1)), .d (.s (.int .i64 b2)), .d (.s (.int .i64 b3)), .d (.s (.int .i64 b4)), .d (.s (.int .i64 b5)), .d (.s (.int .i64 b6)), .d (.s (.int .i64 b7)), .d (.s (.int .i64 b8))] K = K (.bool ((eqVs [.int .i64 a0, .bool a1, .int .i64 a2, .int .i64 a3, .int .i64 a4, .int .i64 a5, .int .i64 a6, .int .i64 a7, .int .i64 a8] [.int .i64 b0, .bool b1, .int .i64 b2, .int .i64 b3, .int .i64 b4, .int .i64 b5, .int .i64 b6, .int .i64 b7, .int .i64 b8]))) := agg_eql (xs := [.int .i64 a0, .bool a1, .int .i64 a2, .int .i64 a3, .int .i64 a4, .int .i64 a5, .int .i64 a6, .int .i64 a7, .int .i64 a8]) (ys := [.int .i64 b0, .bool b1, .int .i64 b2, .int .i64 b3, .int .i64 b4, .int .i64 b5, .int .i64 b6, .int .i64 b7, .int .i64 b8]) eqk263 (by decide) eqg263 rfl rfl K
@[simp] theorem ze263 : zeroT Tryz.prog 263 = some [.d (.s (.int .i64 0)), .d (.s (.bool false)), .d (.s (.int .i64 0)), .d (.s (.int .i64 0)), .d (.s (.int .i64 0)), .d (.s (.int .i64 0)), .d (.s (.int .i64 0)), .d (.s (.int .i64 0)), .d (.s (.int .i64 0))] := by kernel_rfl
@[simp] theorem fi263_0 : fieldT Tryz.prog 263 0 = some (0, 1, false) := by kernel_rfl
@[simp] theorem fi263_1 : fieldT Tryz.prog 263 1 = some (1, 1, false) := by kernel_rfl
@[simp] theorem fi263_2 : fieldT Tryz.prog 263 2 = some (2, 7, true) := by kernel_rfl
@[simp] theorem pl263 : placesT Tryz.prog 263 = some [(0, 1), (1, 1), (2, 7)] := by kernel_rfl
@[simp] theorem sz264 : szOf Tryz.prog 264 = some 1 := by kernel_rfl
@[simp] theorem ag264 : aggT Tryz.prog 264 = some false := by kernel_rfl
@[simp] theorem un264 : unitT Tryz.prog 264 = some 1 := by kernel_rfl
@[simp] theorem ze264 : zeroT Tryz.prog 264 = some [.d (.s .nilFunc)] := by kernel_rfl
@[simp] theorem sz265 : szOf Tryz.prog 265 = some 1 := by kernel_rfl
@[simp] theorem ag265 : aggT Tryz.prog 265 = some false := by kernel_rfl
@[simp] theorem un265 : unitT Tryz.prog 265 = some 1 := by kernel_rfl
@[simp] theorem ze265 : zeroT Tryz.prog 265 = some [.d (.s .nilFunc)] := by kernel_rfl
@[simp] theorem sz266 : szOf Tryz.prog 266 = some 1 := by kernel_rfl
@[simp] theorem ag266 : aggT Tryz.prog 266 = some false := by kernel_rfl
@[simp] theorem un266 : unitT Tryz.prog 266 = some 1 := by kernel_rfl
@[simp] theorem ze266 : zeroT Tryz.prog 266 = some [.d (.s .nilFunc)] := by kernel_rfl
@[simp] theorem sz267 : szOf Tryz.prog 267 = some 1 := by kernel_rfl
@[simp] theorem ag267 : aggT Tryz.prog 267 = some false := by kernel_rfl
@[simp] theorem un267 : unitT Tryz.prog 267 = some 1 := by kernel_rfl
@[simp] theorem ze267 : zeroT Tryz.prog 267 = some [.d (.s .nilFunc)] := by kernel_rfl
@[simp] theorem sz268 : szOf Tryz.prog 268 = some 1 := by kernel_rfl
@[simp] theorem ag268 : aggT Tryz.prog 268 = some false := by kernel_rfl
@[simp] theorem un268 : unitT Tryz.prog 268 = some 1 := by kernel_rfl
@[simp] theorem ze268 : zeroT Tryz.prog 268 = some [.d (.s .nilFunc)] := by kernel_rfl
@[simp] theorem sz269 : szOf Tryz.prog 269 = some 1 := by kernel_rfl
@[simp] theorem ag269 : aggT Tryz.prog 269 = some false := by kernel_rfl
@[simp] theorem un269 : unitT Tryz.prog 269 = some 1 := by kernel_rfl
@[simp] theorem ze269 : zeroT Tryz.prog 269 = some [.d (.s .nilFunc)] := by kernel_rfl
@[simp] theorem sz270 : szOf Tryz.prog 270 = some 1 := by kernel_rfl
@[simp] theorem ag270 : aggT Tryz.prog 270 = some false := by kernel_rfl
@[simp] theorem un270 : unitT Tryz.prog 270 = some 1 := by kernel_rfl
@[simp] theorem ze270 : zeroT Tryz.prog 270 = some [.d (.s .nilFunc)] := by kernel_rfl
@[simp] theorem sz271 : szOf Tryz.prog 271 = some 1 := by kernel_rfl
@[simp] theorem ag271 : aggT Tryz.prog 271 = some false := by kernel_rfl
@[simp] theorem un271 : unitT Tryz.prog 271 = some 1 := by kernel_rfl
@[simp] theorem ze271 : zeroT Tryz.prog 271 = some [.d (.s .nilFunc)] := by kernel_rfl
@[simp] theorem sz272 : szOf Tryz.prog 272 = some 1 := by kernel_rfl
@[simp] theorem ag272 : aggT Tryz.prog 272 = some false := by kernel_rfl
@[simp] theorem un272 : unitT Tryz.prog 272 = some 1 := by kernel_rfl
@[simp] theorem ze272 : zeroT Tryz.prog 272 = some [.d (.s .nilFunc)] := by kernel_rfl
@[simp] theorem sz273 : szOf Tryz.prog 273 = some 1 := by kernel_rfl
@[simp] theorem ag273 : aggT Tryz.prog 273 = some false := by kernel_rfl
@[simp] theorem un273 : unitT Tryz.prog 273 = some 1 := by kernel_rfl
@[simp] theorem ze273 : zeroT Tryz.prog 273 = some [.d (.s .nilIface)] := by kernel_rfl
@[simp] theorem sz274 : szOf Tryz.prog 274 = some 1 := by kernel_rfl
@[simp] theorem ag274 : aggT Tryz.prog 274 = some false := by kernel_rfl
@[simp] theorem un274 : unitT Tryz.prog 274 = some 1 := by kernel_rfl
@[simp] theorem ze274 : zeroT Tryz.prog 274 = some [.d (.s .nilIface)] := by kernel_rfl
@[simp] theorem sz275 : szOf Tryz.prog 275 = some 1 := by kernel_rfl
@[simp] theorem ag275 : aggT Tryz.prog 275 = some false := by kernel_rfl
@[simp] theorem un275 : unitT Tryz.prog 275 = some 1 := by kernel_rfl
@[simp] theorem ze275 : zeroT Tryz.prog 275 = some [.d (.s .nilFunc)] := by kernel_rfl
@[simp] theorem sz276 : szOf Tryz.prog 276 = some 1 := by kernel_rfl
@[simp] theorem ag276 : aggT Tryz.prog 276 = some false := by kernel_rfl
@[simp] theorem un276 : unitT Tryz.prog 276 = some 1 := by kernel_rfl
@[simp] theorem ze276 : zeroT Tryz.prog 276 = some [.d (.s .nilFunc)] := by kernel_rfl
@[simp] theorem sz277 : szOf Tryz.prog 277 = some 1 := by kernel_rfl
@[simp] theorem ag277 : aggT Tryz.prog 277 = some false := by kernel_rfl
@[simp] theorem un277 : unitT Tryz.prog 277 = some 1 := by kernel_rfl
@[simp] theorem ze277 : zeroT Tryz.prog 277 = some [.d (.s .nilFunc)] := by kernel_rfl
@[simp] theorem sz278 : szOf Tryz.prog 278 = some 1 := by kernel_rfl
@[simp] theorem ag278 : aggT Tryz.prog 278 = some false := by kernel_rfl
@[simp] theorem un278 : unitT Tryz.prog 278 = some 1 := by kernel_rfl
@[simp] theorem ze278 : zeroT Tryz.prog 278 = some [.d (.s .nilFunc)] := by kernel_rfl
@[simp] theorem sz279 : szOf Tryz.prog 279 = some 1 := by kernel_rfl
@[simp] theorem ag279 : aggT Tryz.prog 279 = some false := by kernel_rfl
@[simp] theorem un279 : unitT Tryz.prog 279 = some 1 := by kernel_rfl
@[simp] theorem ze279 : zeroT Tryz.prog 279 = some [.d (.s .nilFunc)] := by kernel_rfl
@[simp] theorem sz280 : szOf Tryz.prog 280 = some 1 := by kernel_rfl
@[simp] theorem ag280 : aggT Tryz.prog 280 = some false := by kernel_rfl
@[simp] theorem un280 : unitT Tryz.prog 280 = some 1 := by kernel_rfl
@[simp] theorem ze280 : zeroT Tryz.prog 280 = some [.d (.s .nilFunc)] := by kernel_rfl
@[simp] theorem sz281 : szOf Tryz.prog 281 = some 1 := by kernel_rfl
@[simp] theorem ag281 : aggT Tryz.prog 281 = some false := by kernel_rfl
@[simp] theorem un281 : unitT Tryz.prog 281 = some 1 := by kernel_rfl
@[simp] theorem ze281 : zeroT Tryz.prog 281 = some [.d (.s (.pointer none))] := by kernel_rfl
@[simp] theorem sz282 : szOf Tryz.prog 282 = some 1 := by kernel_rfl
@[simp] theorem ag282 : aggT Tryz.prog 282 = some false := by kernel_rfl
@[simp] theorem un282 : unitT Tryz.prog 282 = some 1 := by kernel_rfl
@[simp] theorem ze282 : zeroT Tryz.prog 282 = some [.d (.s .nilFunc)] := by kernel_rfl
@[simp] theorem sz283 : szOf Tryz.prog 283 = some 1 := by kernel_rfl
@[simp] theorem ag283 : aggT Tryz.prog 283 = some false := by kernel_rfl
@[simp] theorem un283 : unitT Tryz.prog 283 = some 1 := by kernel_rfl
@[simp] theorem ze283 : zeroT Tryz.prog 283 = some [.d (.s .nilFunc)] := by kernel_rfl
@[simp] theorem sz284 : szOf Tryz.prog 284 = some 1 := by kernel_rfl
@[simp] theorem ag284 : aggT Tryz.prog 284 = some false := by kernel_rfl
@[simp] theorem un284 : unitT Tryz.prog 284 = some 1 := by kernel_rfl
@[simp] theorem sz285 : szOf Tryz.prog 285 = some 1 := by kernel_rfl
@[simp] theorem ag285 : aggT Tryz.prog 285 = some false := by kernel_rfl
@[simp] theorem un285 : unitT Tryz.prog 285 = some 1 := by kernel_rfl
@[simp] theorem ze285 : zeroT Tryz.prog 285 = some [.d (.s .nilFunc)] := by kernel_rfl
@[simp] theorem sz286 : szOf Tryz.prog 286 = some 11 := by kernel_rfl
@[simp] theorem ag286 : aggT Tryz.prog 286 = some true := by kernel_rfl
@[simp] theorem un286 : unitT Tryz.prog 286 = some 11 := by kernel_rfl
theorem kd286 : kindT Tryz.prog 12 286 = some [.int .i64, .int .i64, .int .i64, .int .i64, .int .i64, .int .i64, .int .i64, .int .i64, .int .i64, .int .i64, .int .i64] := by kernel_rfl
theorem eqk286 : eqT Tryz.prog 8 286 = some (true, [.int .i64, .int .i64, .int .i64, .int .i64, .int .i64, .int .i64, .int .i64, .int .i64, .int .i64, .int .i64, .int .i64]) := by kernel_rfl
theorem eqg286 : (Tryz.prog).eqGuardType (Tryz.prog).depth 286 = false := by kernel_rfl
@[simp] theorem neqA286 (a0 b0 : Int) (a1 b1 : Int) (a2 b2 : Int) (a3 b3 : Int) (a4 b4 : Int) (a5 b5 : Int) (a6 b6 : Int) (a7 b7 : Int) (a8 b8 : Int) (a9 b9 : Int) (a10 b10 : Int) (K : Value → Prop) : aggBin Tryz.prog .neq 286 [.d (.s (.int .i64 a0)), .d (.s (.int .i64 a1)), .d (.s (.int .i64 a2)), .d (.s (.int .i64 a3)), .d (.s (.int .i64 a4)), .d (.s (.int .i64 a5)), .d (.s (.int .i64 a6)), .d (.s (.int .i64 a7)), .d (.s (.int .i64 a8)), .d (.s (.int .i64 a9)), .d (.s (.int .i64 a10))] [.d (.s (.int .i64 b0)), .d (.s (.int .i64 b1)), .d (.s (.int .i64 b2)), .d (.s (.int .i64 b3)), .d (.s (.int .i64 b4)), .d (.s (.int .i64 b5)), .d (.s (.int .i64 b6)), .d (.s (.int .i64 b7)), .d (.s (.int .i64 b8)), .d (.s (.int .i64 b9)), .d (.s (.int .i64 b10))] K = K (.bool (!(eqVs [.int .i64 a0, .int .i64 a1, .int .i64 a2, .int .i64 a3, .int .i64 a4, .int .i64 a5, .int .i64 a6, .int .i64 a7, .int .i64 a8, .int .i64 a9, .int .i64 a10] [.int .i64 b0, .int .i64 b1, .int .i64 b2, .int .i64 b3, .int .i64 b4, .int .i64 b5, .int .i64 b6, .int .i64 b7, .int .i64 b8, .int .i64 b9, .int .i64 b10]))) := agg_neq (xs := [.int .i64 a0, .int .i64 a1, .int .i64 a2, .int .i64 a3, .int .i64 a4, .int .i64 a5, .int .i64 a6, .int .i64 a7, .int .i64 a8, .int .i64 a9, .int .i64 a10]) (ys := [.int .i64 b0, .int .i64 b1, .int .i64 b2, .int .i64 b3, .int .i64 b4, .int .i64 b5, .int .i64 b6, .int .i64 b7, .int .i64 b8, .int .i64 b9, .int .i64 b10]) eqk286 (by decide) eqg286 rfl rfl K
@[simp] theorem eqlA286 (a0 b0 : Int) (a1 b1 : Int) (a2 b2 : Int) (a3 b3 : Int) (a4 b4 : Int) (a5 b5 : Int) (a6 b6 : Int) (a7 b7 : Int) (a8 b8 : Int) (a9 b9 : Int) (a10 b10 : Int) (K : Value → Prop) : aggBin Tryz.prog .eql 286 [.d (.s (.int .i64 a0)), .d (.s (.int .i64 a1)), .d (.s (.int .i64 a2)), .d (.s (.int .i64 a3)), .d (.s (.int .i64 a4)), .d (.s (.int .i64 a5)), .d (.s (.int .i64 a6)), .d (.s (.int .i64 a7)), .d (.s (.int .i64 a8)), .d (.s (.int .i64 a9)), .d (.s (.int .i64 a10))] [.d (.s (.int .i64 b0)), .d (.s (.int .i64 b1)), .d (.s (.int .i64 b2)), .d (.s (.int .i64 b3)), .d (.s (.int .i64 b4)), .d (.s (.int .i64 b5)), .d (.s (.int .i64 b6)), .d (.s (.int .i64 b7)), .d (.s (.int .i64 b8)), .d (.s (.int .i64 b9)), .d (.s (.int .i64 b10))] K = K (.bool ((eqVs [.int .i64 a0, .int .i64 a1, .int .i64 a2, .int .i64 a3, .int .i64 a4, .int .i64 a5, .int .i64 a6, .int .i64 a7, .int .i64 a8, .int .i64 a9, .int .i64 a10] [.int .i64 b0, .int .i64 b1, .int .i64 b2, .int .i64 b3, .int .i64 b4, .int .i64 b5, .int .i64 b6, .int .i64 b7, .int .i64 b8, .int .i64 b9, .int .i64 b10]))) := agg_eql (xs := [.int .i64 a0, .int .i64 a1, .int .i64 a2, .int .i64 a3, .int .i64 a4, .int .i64 a5, .int .i64 a6, .int .i64 a7, .int .i64 a8, .int .i64 a9, .int .i64 a10]) (ys := [.int .i64 b0, .int .i64 b1, .int .i64 b2, .int .i64 b3, .int .i64 b4, .int .i64 b5, .int .i64 b6, .int .i64 b7, .int .i64 b8, .int .i64 b9, .int .i64 b10]) eqk286 (by decide) eqg286 rfl rfl K
@[simp] theorem ze286 : zeroT Tryz.prog 286 = some [.d (.s (.int .i64 0)), .d (.s (.int .i64 0)), .d (.s (.int .i64 0)), .d (.s (.int .i64 0)), .d (.s (.int .i64 0)), .d (.s (.int .i64 0)), .d (.s (.int .i64 0)), .d (.s (.int .i64 0)), .d (.s (.int .i64 0)), .d (.s (.int .i64 0)), .d (.s (.int .i64 0))] := by kernel_rfl
@[simp] theorem fi286_0 : fieldT Tryz.prog 286 0 = some (0, 1, false) := by kernel_rfl
@[simp] theorem fi286_1 : fieldT Tryz.prog 286 1 = some (1, 10, true) := by kernel_rfl
@[simp] theorem pl286 : placesT Tryz.prog 286 = some [(0, 1), (1, 10)] := by kernel_rfl
@[simp] theorem sz287 : szOf Tryz.prog 287 = some 11 := by kernel_rfl
@[simp] theorem ag287 : aggT Tryz.prog 287 = some true := by kernel_rfl
@[simp] theorem un287 : unitT Tryz.prog 287 = some 11 := by kernel_rfl
theorem kd287 : kindT Tryz.prog 12 287 = some [.int .i64, .int .i64, .int .i64, .int .i64, .int .i64, .int .i64, .int .i64, .int .i64, .int .i64, .int .i64, .int .i64] := by kernel_rfl
theorem eqk287 : eqT Tryz.prog 8 287 = some (true, [.int .i64, .int .i64, .int .i64, .int .i64, .int .i64, .int .i64, .int .i64, .int .i64, .int .i64, .int .i64, .int .i64]) := by kernel_rfl
theorem eqg287 : (Tryz.prog).eqGuardType (Tryz.prog).depth 287 = false := by kernel_rfl
@[simp] theorem neqA287 (a0 b0 : Int) (a1 b1 : Int) (a2 b2 : Int) (a3 b3 : Int) (a4 b4 : Int) (a5 b5 : Int) (a6 b6 : Int) (a7 b7 : Int) (a8 b8 : Int) (a9 b9 : Int) (a10 b10 : Int) (K : Value → Prop) : aggBin Tryz.prog .neq 287 [.d (.s (.int .i64 a0)), .d (.s (.int .i64 a1)), .d (.s (.int .i64 a2)), .d (.s (.int .i64 a3)), .d (.s (.int .i64 a4)), .d (.s (.int .i64 a5)), .d (.s (.int .i64 a6)), .d (.s (.int .i64 a7)), .d (.s (.int .i64 a8)), .d (.s (.int .i64 a9)), .d (.s (.int .i64 a10))] [.d (.s (.int .i64 b0)), .d (.s (.int .i64 b1)), .d (.s (.int .i64 b2)), .d (.s (.int .i64 b3)), .d (.s (.int .i64 b4)), .d (.s (.int .i64 b5)), .d (.s (.int .i64 b6)), .d (.s (.int .i64 b7)), .d (.s (.int .i64 b8)), .d (.s (.int .i64 b9)), .d (.s (.int .i64 b10))] K = K (.bool (!(eqVs [.int .i64 a0, .int .i64 a1, .int .i64 a2, .int .i64 a3, .int .i64 a4, .int .i64 a5, .int .i64 a6, .int .i64 a7, .int .i64 a8, .int .i64 a9, .int .i64 a10] [.int .i64 b0, .int .i64 b1, .int .i64 b2, .int .i64 b3, .int .i64 b4, .int .i64 b5, .int .i64 b6, .int .i64 b7, .int .i64 b8, .int .i64 b9, .int .i64 b10]))) := agg_neq (xs := [.int .i64 a0, .int .i64 a1, .int .i64 a2, .int .i64 a3, .int .i64 a4, .int .i64 a5, .int .i64 a6, .int .i64 a7, .int .i64 a8, .int .i64 a9, .int .i64 a10]) (ys := [.int .i64 b0, .int .i64 b1, .int .i64 b2, .int .i64 b3, .int .i64 b4, .int .i64 b5, .int .i64 b6, .int .i64 b7, .int .i64 b8, .int .i64 b9, .int .i64 b10]) eqk287 (by decide) eqg287 rfl rfl K
@[simp] theorem eqlA287 (a0 b0 : Int) (a1 b1 : Int) (a2 b2 : Int) (a3 b3 : Int) (a4 b4 : Int) (a5 b5 : Int) (a6 b6 : Int) (a7 b7 : Int) (a8 b8 : Int) (a9 b9 : Int) (a10 b10 : Int) (K : Value → Prop) : aggBin Tryz.prog .eql 287 [.d (.s (.int .i64 a0)), .d (.s (.int .i64 a1)), .d (.s (.int .i64 a2)), .d (.s (.int .i64 a3)), .d (.s (.int .i64 a4)), .d (.s (.int .i64 a5)), .d (.s (.int .i64 a6)), .d (.s (.int .i64 a7)), .d (.s (.int .i64 a8)), .d (.s (.int .i64 a9)), .d (.s (.int .i64 a10))] [.d (.s (.int .i64 b0)), .d (.s (.int .i64 b1)), .d (.s (.int .i64 b2)), .d (.s (.int .i64 b3)), .d (.s (.int .i64 b4)), .d (.s (.int .i64 b5)), .d (.s (.int .i64 b6)), .d (.s (.int .i64 b7)), .d (.s (.int .i64 b8)), .d (.s (.int .i64 b9)), .d (.s (.int .i64 b10))] K = K (.bool ((eqVs [.int .i64 a0, .int .i64 a1, .int .i64 a2, .int .i64 a3, .int .i64 a4, .int .i64 a5, .int .i64 a6, .int .i64 a7, .int .i64 a8, .int .i64 a9, .int .i64 a10] [.int .i64 b0, .int .i64 b1, .int .i64 b2, .int .i64 b3, .int .i64 b4, .int .i64 b5, .int .i64 b6, .int .i64 b7, .int .i64 b8, .int .i64 b9, .int .i64 b10]))) := agg_eql (xs := [.int .i64 a0, .int .i64 a1, .int .i64 a2, .int .i64 a3, .int .i64 a4, .int .i64 a5, .int .i64 a6, .int .i64 a7, .int .i64 a8, .int .i64 a9, .int .i64 a10]) (ys := [.int .i64 b0, .int .i64 b1, .int .i64 b2, .int .i64 b3, .int .i64 b4, .int .i64 b5, .int .i64 b6, .int .i64 b7, .int .i64 b8, .int .i64 b9, .int .i64 b10]) eqk287 (by decide) eqg287 rfl rfl K
@[simp] theorem ze287 : zeroT Tryz.prog 287 = some [.d (.s (.int .i64 0)), .d (.s (.int .i64 0)), .d (.s (.int .i64 0)), .d (.s (.int .i64 0)), .d (.s (.int .i64 0)), .d (.s (.int .i64 0)), .d (.s (.int .i64 0)), .d (.s (.int .i64 0)), .d (.s (.int .i64 0)), .d (.s (.int .i64 0)), .d (.s (.int .i64 0))] := by kernel_rfl
@[simp] theorem fi287_0 : fieldT Tryz.prog 287 0 = some (0, 1, false) := by kernel_rfl
@[simp] theorem fi287_1 : fieldT Tryz.prog 287 1 = some (1, 10, true) := by kernel_rfl
@[simp] theorem pl287 : placesT Tryz.prog 287 = some [(0, 1), (1, 10)] := by kernel_rfl
@[simp] theorem sz288 : szOf Tryz.prog 288 = some 1 := by kernel_rfl
@[simp] theorem ag288 : aggT Tryz.prog 288 = some false := by kernel_rfl
@[simp] theorem un288 : unitT Tryz.prog 288 = some 1 := by kernel_rfl
@[simp] theorem ze288 : zeroT Tryz.prog 288 = some [.d (.s .nilFunc)] := by kernel_rfl
@[simp] theorem sz289 : szOf Tryz.prog 289 = some 1 := by kernel_rfl
@[simp] theorem ag289 : aggT Tryz.prog 289 = some false := by kernel_rfl
@[simp] theorem un289 : unitT Tryz.prog 289 = some 1 := by kernel_rfl
@[simp] theorem ze289 : zeroT Tryz.prog 289 = some [.d (.s .nilFunc)] := by kernel_rfl
@[simp] theorem sz290 : szOf Tryz.prog 290 = some 1 := by kernel_rfl
@[simp] theorem ag290 : aggT Tryz.prog 290 = some false := by kernel_rfl
@[simp] theorem un290 : unitT Tryz.prog 290 = some 1 := by kernel_rfl
@[simp] theorem ze290 : zeroT Tryz.prog 290 = some [.d (.s .nilFunc)] := by kernel_rfl
@[simp] theorem sz291 : szOf Tryz.prog 291 = some 1 := by kernel_rfl
@[simp] theorem ag291 : aggT Tryz.prog 291 = some false := by kernel_rfl
@[simp] theorem un291 : unitT Tryz.prog 291 = some 1 := by kernel_rfl
@[simp] theorem ze291 : zeroT Tryz.prog 291 = some [.d (.s .nilFunc)] := by kernel_rfl
@[simp] theorem sz292 : szOf Tryz.prog 292 = some 1 := by kernel_rfl
@[simp] theorem ag292 : aggT Tryz.prog 292 = some false := by kernel_rfl
@[simp] theorem un292 : unitT Tryz.prog 292 = some 1 := by kernel_rfl
theorem kd292 : kindT Tryz.prog 12 292 = some [.slice [.int .i64]] := by kernel_rfl
@[simp] theorem sl292 : sliceT Tryz.prog 292 = some (3, 1, 8) := by kernel_rfl
@[simp] theorem ze292 : zeroT Tryz.prog 292 = some [.d .nil] := by kernel_rfl
@[simp] theorem sz293 : szOf Tryz.prog 293 = some 1 := by kernel_rfl
@[simp] theorem ag293 : aggT Tryz.prog 293 = some true := by kernel_rfl
@[simp] theorem un293 : unitT Tryz.prog 293 = some 1 := by kernel_rfl
@[simp] theorem ze293 : zeroT Tryz.prog 293 = some [.d (.s (.pointer none))] := by kernel_rfl
@[simp] theorem fi293_0 : fieldT Tryz.prog 293 0 = some (0, 1, false) := by kernel_rfl
@[simp] theorem pl293 : placesT Tryz.prog 293 = some [(0, 1)] := by kernel_rfl
@[simp] theorem sz294 : szOf Tryz.prog 294 = some 1 := by kernel_rfl
@[simp] theorem ag294 : aggT Tryz.prog 294 = some true := by kernel_rfl
@[simp] theorem un294 : unitT Tryz.prog 294 = some 1 := by kernel_rfl
@[simp] theorem ze294 : zeroT Tryz.prog 294 = some [.d (.s (.pointer none))] := by kernel_rfl
@[simp] theorem fi294_0 : fieldT Tryz.prog 294 0 = some (0, 1, false) := by kernel_rfl
@[simp] theorem pl294 : placesT Tryz.prog 294 = some [(0, 1)] := by kernel_rfl
@[simp] theorem sz295 : szOf Tryz.prog 295 = some 1 := by kernel_rfl
@[simp] theorem ag295 : aggT Tryz.prog 295 = some false := by kernel_rfl
@[simp] theorem un295 : unitT Tryz.prog 295 = some 1 := by kernel_rfl
@[simp] theorem ze295 : zeroT Tryz.prog 295 = some [.d (.s (.pointer none))] := by kernel_rfl
@[simp] theorem sz296 : szOf Tryz.prog 296 = some 1 := by kernel_rfl
@[simp] theorem ag296 : aggT Tryz.prog 296 = some false := by kernel_rfl
@[simp] theorem un296 : unitT Tryz.prog 296 = some 1 := by kernel_rfl
@[simp] theorem ze296 : zeroT Tryz.prog 296 = some [.d (.s .nilIface)] := by kernel_rfl
@[simp] theorem sz297 : szOf Tryz.prog 297 = some 1 := by kernel_rfl
@[simp] theorem ag297 : aggT Tryz.prog 297 = some false := by kernel_rfl
@[simp] theorem un297 : unitT Tryz.prog 297 = some 1 := by kernel_rfl
@[simp] theorem sz298 : szOf Tryz.prog 298 = some 1 := by kernel_rfl
@[simp] theorem ag298 : aggT Tryz.prog 298 = some false := by kernel_rfl
@[simp] theorem un298 : unitT Tryz.prog 298 = some 1 := by kernel_rfl
@[simp] theorem ze298 : zeroT Tryz.prog 298 = some [.d (.s .nilFunc)] := by kernel_rfl
@[simp] theorem sz299 : szOf Tryz.prog 299 = some 1 := by kernel_rfl
@[simp] theorem ag299 : aggT Tryz.prog 299 = some false := by kernel_rfl
@[simp] theorem un299 : unitT Tryz.prog 299 = some 1 := by kernel_rfl
@[simp] theorem ze299 : zeroT Tryz.prog 299 = some [.d (.s .nilIface)] := by kernel_rfl
@[simp] theorem sz300 : szOf Tryz.prog 300 = some 1 := by kernel_rfl
@[simp] theorem ag300 : aggT Tryz.prog 300 = some false := by kernel_rfl
@[simp] theorem un300 : unitT Tryz.prog 300 = some 1 := by kernel_rfl
@[simp] theorem ze300 : zeroT Tryz.prog 300 = some [.d (.s .nilFunc)] := by kernel_rfl
@[simp] theorem sz301 : szOf Tryz.prog 301 = some 1 := by kernel_rfl
@[simp] theorem ag301 : aggT Tryz.prog 301 = some false := by kernel_rfl
@[simp] theorem un301 : unitT Tryz.prog 301 = some 1 := by kernel_rfl
@[simp] theorem ze301 : zeroT Tryz.prog 301 = some [.d (.s .nilIface)] := by kernel_rfl
@[simp] theorem sz302 : szOf Tryz.prog 302 = some 1 := by kernel_rfl
@[simp] theorem ag302 : aggT Tryz.prog 302 = some false := by kernel_rfl
@[simp] theorem un302 : unitT Tryz.prog 302 = some 1 := by kernel_rfl
@[simp] theorem sl302 : sliceT Tryz.prog 302 = some (127, 1, 16) := by kernel_rfl
@[simp] theorem ze302 : zeroT Tryz.prog 302 = some [.d .nil] := by kernel_rfl
@[simp] theorem sz303 : szOf Tryz.prog 303 = some 1 := by kernel_rfl
@[simp] theorem ag303 : aggT Tryz.prog 303 = some false := by kernel_rfl
@[simp] theorem un303 : unitT Tryz.prog 303 = some 1 := by kernel_rfl
@[simp] theorem ze303 : zeroT Tryz.prog 303 = some [.d (.s .nilFunc)] := by kernel_rfl
@[simp] theorem sz304 : szOf Tryz.prog 304 = some 1 := by kernel_rfl
@[simp] theorem ag304 : aggT Tryz.prog 304 = some false := by kernel_rfl
@[simp] theorem un304 : unitT Tryz.prog 304 = some 1 := by kernel_rfl
@[simp] theorem ze304 : zeroT Tryz.prog 304 = some [.d (.s .nilFunc)] := by kernel_rfl
@[simp] theorem sz305 : szOf Tryz.prog 305 = some 1 := by kernel_rfl
@[simp] theorem ag305 : aggT Tryz.prog 305 = some false := by kernel_rfl
@[simp] theorem un305 : unitT Tryz.prog 305 = some 1 := by kernel_rfl
@[simp] theorem ze305 : zeroT Tryz.prog 305 = some [.d (.s .nilFunc)] := by kernel_rfl
@[simp] theorem sz306 : szOf Tryz.prog 306 = some 1 := by kernel_rfl
@[simp] theorem ag306 : aggT Tryz.prog 306 = some false := by kernel_rfl
@[simp] theorem un306 : unitT Tryz.prog 306 = some 1 := by kernel_rfl
@[simp] theorem ze306 : zeroT Tryz.prog 306 = some [.d (.s .nilFunc)] := by kernel_rfl
@[simp] theorem sz307 : szOf Tryz.prog 307 = some 1 := by kernel_rfl
@[simp] theorem ag307 : aggT Tryz.prog 307 = some false := by kernel_rfl
@[simp] theorem un307 : unitT Tryz.prog 307 = some 1 := by kernel_rfl
@[simp] theorem ze307 : zeroT Tryz.prog 307 = some [.d (.s .nilFunc)] := by kernel_rfl
@[simp] theorem sz308 : szOf Tryz.prog 308 = some 1 := by kernel_rfl
@[simp] theorem ag308 : aggT Tryz.prog 308 = some false := by kernel_rfl
@[simp] theorem un308 : unitT Tryz.prog 308 = some 1 := by kernel_rfl
theorem kd308 : kindT Tryz.prog 12 308 = some [.int .i64] := by kernel_rfl
@[simp] theorem ze308 : zeroT Tryz.prog 308 = some [.d (.s (.int .i64 0))] := by kernel_rfl
@[simp] theorem sz309 : szOf Tryz.prog 309 = some 1 := by kernel_rfl
@[simp] theorem ag309 : aggT Tryz.prog 309 = some false := by kernel_rfl
@[simp] theorem un309 : unitT Tryz.prog 309 = some 1 := by kernel_rfl
@[simp] theorem sz310 : szOf Tryz.prog 310 = some 1 := by kernel_rfl
@[simp] theorem ag310 : aggT Tryz.prog 310 = some false := by kernel_rfl
@[simp] theorem un310 : unitT Tryz.prog 310 = some 1 := by kernel_rfl
@[simp] theorem ze310 : zeroT Tryz.prog 310 = some [.d (.s .nilFunc)] := by kernel_rfl
@[simp] theorem sz311 : szOf Tryz.prog 311 = some 1 := by kernel_rfl
@[simp] theorem ag311 : aggT Tryz.prog 311 = some false := by kernel_rfl
@[simp] theorem un311 : unitT Tryz.prog 311 = some 1 := by kernel_rfl
@[simp] theorem ze311 : zeroT Tryz.prog 311 = some [.d (.s .nilFunc)] := by kernel_rfl
@[simp] theorem sz312 : szOf Tryz.prog 312 = some 1 := by kernel_rfl
@[simp] theorem ag312 : aggT Tryz.prog 312 = some false := by kernel_rfl
@[simp] theorem un312 : unitT Tryz.prog 312 = some 1 := by kernel_rfl
@[simp] theorem ze312 : zeroT Tryz.prog 312 = some [.d (.s .nilFunc)] := by kernel_rfl
@[simp] theorem sz313 : szOf Tryz.prog 313 = some 1 := by kernel_rfl
@[simp] theorem ag313 : aggT Tryz.prog 313 = some false := by kernel_rfl
@[simp] theorem un313 : unitT Tryz.prog 313 = some 1 := by kernel_rfl
@[simp] theorem sz314 : szOf Tryz.prog 314 = some 1 := by kernel_rfl
@[simp] theorem ag314 : aggT Tryz.prog 314 = some false := by kernel_rfl
@[simp] theorem un314 : unitT Tryz.prog 314 = some 1 := by kernel_rfl
@[simp] theorem ze314 : zeroT Tryz.prog 314 = some [.d (.s .nilFunc)] := by kernel_rfl
@[simp] theorem sz315 : szOf Tryz.prog 315 = some 1 := by kernel_rfl
@[simp] theorem ag315 : aggT Tryz.prog 315 = some false := by kernel_rfl
@[simp] theorem un315 : unitT Tryz.prog 315 = some 1 := by kernel_rfl
@[simp] theorem ze315 : zeroT Tryz.prog 315 = some [.d (.s .nilFunc)] := by kernel_rfl
@[simp] theorem sz316 : szOf Tryz.prog 316 = some 1 := by kernel_rfl
@[simp] theorem ag316 : aggT Tryz.prog 316 = some false := by kernel_rfl
@[simp] theorem un316 : unitT Tryz.prog 316 = some 1 := by kernel_rfl
theorem kd316 : kindT Tryz.prog 12 316 = some [.int .u32] := by kernel_rfl
@[simp] theorem ze316 : zeroT Tryz.prog 316 = some [.d (.s (.int .u32 0))] := by kernel_rfl
@[simp] theorem sz317 : szOf Tryz.prog 317 = some 1 := by kernel_rfl
@[simp] theorem ag317 : aggT Tryz.prog 317 = some false := by kernel_rfl
@[simp] theorem un317 : unitT Tryz.prog 317 = some 1 := by kernel_rfl
@[simp] theorem ze317 : zeroT Tryz.prog 317 = some [.d (.s .nilFunc)] := by kernel_rfl
@[simp] theorem sz318 : szOf Tryz.prog 318 = some 1 := by kernel_rfl
@[simp] theorem ag318 : aggT Tryz.prog 318 = some false := by kernel_rfl
@[simp] theorem un318 : unitT Tryz.prog 318 = some 1 := by kernel_rfl
theorem kd318 : kindT Tryz.prog 12 318 = some [.int .u64] := by kernel_rfl
@[simp] theorem ze318 : zeroT Tryz.prog 318 = some [.d (.s (.int .u64 0))] := by kernel_rfl
@[simp] theorem sz319 : szOf Tryz.prog 319 = some 1 := by kernel_rfl
@[simp] theorem ag319 : aggT Tryz.prog 319 = some false := by kernel_rfl
@[simp] theorem un319 : unitT Tryz.prog 319 = some 1 := by kernel_rfl
theorem kd319 : kindT Tryz.prog 12 319 = some [.int .u64] := by kernel_rfl
@[simp] theorem ze319 : zeroT Tryz.prog 319 = some [.d (.s (.int .u64 0))] := by kernel_rfl
@[simp] theorem sz320 : szOf Tryz.prog 320 = some 1 := by kernel_rfl
@[simp] theorem ag320 : aggT Tryz.prog 320 = some false := by kernel_rfl
@[simp] theorem un320 : unitT Tryz.prog 320 = some 1 := by kernel_rfl
@[simp] theorem ze320 : zeroT Tryz.prog 320 = some [.d (.s .nilFunc)] := by kernel_rfl
@[simp] theorem sz321 : szOf Tryz.prog 321 = some 1 := by kernel_rfl
@[simp] theorem ag321 : aggT Tryz.prog 321 = some false := by kernel_rfl
@[simp] theorem un321 : unitT Tryz.prog 321 = some 1 := by kernel_rfl
@[simp] theorem ze321 : zeroT Tryz.prog 321 = some [.d (.s .nilFunc)] := by kernel_rfl
@[simp] theorem sz322 : szOf Tryz.prog 322 = some 1 := by kernel_rfl
@[simp] theorem ag322 : aggT Tryz.prog 322 = some false := by kernel_rfl
@[simp] theorem un322 : unitT Tryz.prog 322 = some 1 := by kernel_rfl
@[simp] theorem ze322 : zeroT Tryz.prog 322 = some [.d (.s .nilFunc)] := by kernel_rfl
@[simp] theorem sz323 : szOf Tryz.prog 323 = some 1 := by kernel_rfl
@[simp] theorem ag323 : aggT Tryz.prog 323 = some false := by kernel_rfl
@[simp] theorem un323 : unitT Tryz.prog 323 = some 1 := by kernel_rfl
@[simp] theorem ze323 : zeroT Tryz.prog 323 = some [.d (.s (.pointer none))] := by kernel_rfl
@[simp] theorem sz324 : szOf Tryz.prog 324 = some 1 := by kernel_rfl
@[simp] theorem ag324 : aggT Tryz.prog 324 = some false := by kernel_rfl
@[simp] theorem un324 : unitT Tryz.prog 324 = some 1 := by kernel_rfl
@[simp] theorem ze324 : zeroT Tryz.prog 324 = some [.d (.s .nilFunc)] := by kernel_rfl
@[simp] theorem sz325 : szOf Tryz.prog 325 = some 1 := by kernel_rfl
@[simp] theorem ag325 : aggT Tryz.prog 325 = some false := by kernel_rfl
@[simp] theorem un325 : unitT Tryz.prog 325 = some 1 := by kernel_rfl
@[simp] theorem ze325 : zeroT Tryz.prog 325 = some [.d (.s (.pointer none))] := by kernel_rfl
@[simp] theorem sz326 : szOf Tryz.prog 326 = some 1 := by kernel_rfl
@[simp] theorem ag326 : aggT Tryz.prog 326 = some false := by kernel_rfl
@[simp] theorem un326 : unitT Tryz.prog 326 = some 1 := by kernel_rfl
@[simp] theorem sz327 : szOf Tryz.prog 327 = some 1 := by kernel_rfl
@[simp] theorem ag327 : aggT Tryz.prog 327 = some false := by kernel_rfl
@[simp] theorem un327 : unitT Tryz.prog 327 = some 1 := by kernel_rfl
@[simp] theorem ze327 : zeroT Tryz.prog 327 = some [.d (.s .nilFunc)] := by kernel_rfl
@[simp] theorem sz328 : szOf Tryz.prog 328 = some 1 := by kernel_rfl
@[simp] theorem ag328 : aggT Tryz.prog 328 = some false := by kernel_rfl
@[simp] theorem un328 : unitT Tryz.prog 328 = some 1 := by kernel_rfl
@[simp] theorem ze328 : zeroT Tryz.prog 328 = some [.d (.s (.pointer none))] := by kernel_rfl
@[simp] theorem sz329 : szOf Tryz.prog 329 = some 1 := by kernel_rfl
@[simp] theorem ag329 : aggT Tryz.prog 329 = some false := by kernel_rfl
@[simp] theorem un329 : unitT Tryz.prog 329 = some 1 := by kernel_rfl
@[simp] theorem ze329 : zeroT Tryz.prog 329 = some [.d (.s .nilFunc)] := by kernel_rfl
@[simp] theorem sz330 : szOf Tryz.prog 330 = some 4 := by kernel_rfl
@[simp] theorem ag330 : aggT Tryz.prog 330 = some true := by kernel_rfl
@[simp] theorem un330 : unitT Tryz.prog 330 = some 4 := by kernel_rfl
@[simp] theorem ze330 : zeroT Tryz.prog 330 = some [.d (.s (.pointer none)), .d (.s (.pointer none)), .d (.s (.pointer none)), .d (.s (.string ByteArray.empty))] := by kernel_rfl
@[simp] theorem fi330_0 : fieldT Tryz.prog 330 0 = some (0, 1, false) := by kernel_rfl
@[simp] theorem fi330_1 : fieldT Tryz.prog 330 1 = some (1, 1, false) := by kernel_rfl
@[simp] theorem fi330_2 : fieldT Tryz.prog 330 2 = some (2, 1, false) := by kernel_rfl
@[simp] theorem fi330_3 : fieldT Tryz.prog 330 3 = some (3, 1, false) := by kernel_rfl
@[simp] theorem pl330 : placesT Tryz.prog 330 = some [(0, 1), (1, 1), (2, 1), (3, 1)] := by kernel_rfl
@[simp] theorem sz331 : szOf Tryz.prog 331 = some 4 := by kernel_rfl
@[simp] theorem ag331 : aggT Tryz.prog 331 = some true := by kernel_rfl
@[simp] theorem un331 : unitT Tryz.prog 331 = some 4 := by kernel_rfl
@[simp] theorem ze331 : zeroT Tryz.prog 331 = some [.d (.s (.pointer none)), .d (.s (.pointer none)), .d (.s (.pointer none)), .d (.s (.string ByteArray.empty))] := by kernel_rfl
@[simp] theorem fi331_0 : fieldT Tryz.prog 331 0 = some (0, 1, false) := by kernel_rfl
@[simp] theorem fi331_1 : fieldT Tryz.prog 331 1 = some (1, 1, false) := by kernel_rfl
@[simp] theorem fi331_2 : fieldT Tryz.prog 331 2 = some (2, 1, false) := by kernel_rfl
@[simp] theorem fi331_3 : fieldT Tryz.prog 331 3 = some (3, 1, false) := by kernel_rfl
@[simp] theorem pl331 : placesT Tryz.prog 331 = some [(0, 1), (1, 1), (2, 1), (3, 1)] := by kernel_rfl
@[simp] theorem sz332 : szOf Tryz.prog 332 = some 0 := by kernel_rfl
@[simp] theorem ag332 : aggT Tryz.prog 332 = some true := by kernel_rfl
@[simp] theorem un332 : unitT Tryz.prog 332 = some 1 := by kernel_rfl
@[simp] theorem pl332 : placesT Tryz.prog 332 = some [] := by kernel_rfl
@[simp] theorem ar332 : arrT Tryz.prog 332 = some (0, 16, 1) := by kernel_rfl
@[simp] theorem sl332 : sliceT Tryz.prog 332 = none := by kernel_rfl
@[simp] theorem ze332 : zeroT Tryz.prog 332 = some [] := by kernel_rfl
@[simp] theorem sz333 : szOf Tryz.prog 333 = some 0 := by kernel_rfl
@[simp] theorem ag333 : aggT Tryz.prog 333 = some true := by kernel_rfl
@[simp] theorem un333 : unitT Tryz.prog 333 = some 0 := by kernel_rfl
@[simp] theorem ze333 : zeroT Tryz.prog 333 = some [] := by kernel_rfl
@[simp] theorem fi333_0 : fieldT Tryz.prog 333 0 = some (0, 0, true) := by kernel_rfl
@[simp] theorem pl333 : placesT Tryz.prog 333 = some [(0, 0)] := by kernel_rfl
@[simp] theorem sz334 : szOf Tryz.prog 334 = some 0 := by kernel_rfl
@[simp] theorem ag334 : aggT Tryz.prog 334 = some true := by kernel_rfl
@[simp] theorem un334 : unitT Tryz.prog 334 = some 0 := by kernel_rfl
@[simp] theorem ze334 : zeroT Tryz.prog 334 = some [] := by kernel_rfl
@[simp] theorem fi334_0 : fieldT Tryz.prog 334 0 = some (0, 0, true) := by kernel_rfl
@[simp] theorem pl334 : placesT Tryz.prog 334 = some [(0, 0)] := by kernel_rfl
@[simp] theorem sz335 : szOf Tryz.prog 335 = some 1 := by kernel_rfl
@[simp] theorem ag335 : aggT Tryz.prog 335 = some false := by kernel_rfl
@[simp] theorem un335 : unitT Tryz.prog 335 = some 1 := by kernel_rfl
@[simp] theorem ze335 : zeroT Tryz.prog 335 = some [.d (.s .nilFunc)] := by kernel_rfl
@[simp] theorem sz336 : szOf Tryz.prog 336 = some 1 := by kernel_rfl
@[simp] theorem ag336 : aggT Tryz.prog 336 = some false := by kernel_rfl
@[simp] theorem un336 : unitT Tryz.prog 336 = some 1 := by kernel_rfl
theorem kd336 : kindT Tryz.prog 12 336 = some [.int .u8] := by kernel_rfl
@[simp] theorem ze336 : zeroT Tryz.prog 336 = some [.d (.s (.int .u8 0))] := by kernel_rfl
@[simp] theorem sz337 : szOf Tryz.prog 337 = some 1 := by kernel_rfl
@[simp] theorem ag337 : aggT Tryz.prog 337 = some false := by kernel_rfl
@[simp] theorem un337 : unitT Tryz.prog 337 = some 1 := by kernel_rfl
theorem kd337 : kindT Tryz.prog 12 337 = some [.int .u8] := by kernel_rfl
@[simp] theorem ze337 : zeroT Tryz.prog 337 = some [.d (.s (.int .u8 0))] := by kernel_rfl
@[simp] theorem sz338 : szOf Tryz.prog 338 = some 1 := by kernel_rfl
@[simp] theorem ag338 : aggT Tryz.prog 338 = some false := by kernel_rfl
@[simp] theorem un338 : unitT Tryz.prog 338 = some 1 := by kernel_rfl
@[simp] theorem ze338 : zeroT Tryz.prog 338 = some [.d (.s .nilFunc)] := by kernel_rfl
@[simp] theorem sz339 : szOf Tryz.prog 339 = some 1 := by kernel_rfl
@[simp] theorem ag339 : aggT Tryz.prog 339 = some false := by kernel_rfl
@[simp] theorem un339 : unitT Tryz.prog 339 = some 1 := by kernel_rfl
@[simp] theorem ze339 : zeroT Tryz.prog 339 = some [.d (.s (.pointer none))] := by kernel_rfl
@[simp] theorem sz340 : szOf Tryz.prog 340 = some 1 := by kernel_rfl
@[simp] theorem ag340 : aggT Tryz.prog 340 = some false := by kernel_rfl
@[simp] theorem un340 : unitT Tryz.prog 340 = some 1 := by kernel_rfl
theorem kd340 : kindT Tryz.prog 12 340 = some [.int .i32] := by kernel_rfl
@[simp] theorem ze340 : zeroT Tryz.prog 340 = some [.d (.s (.int .i32 0))] := by kernel_rfl
@[simp] theorem sz341 : szOf Tryz.prog 341 = some 1 := by kernel_rfl
@[simp] theorem ag341 : aggT Tryz.prog 341 = some false := by kernel_rfl
@[simp] theorem un341 : unitT Tryz.prog 341 = some 1 := by kernel_rfl
theorem kd341 : kindT Tryz.prog 12 341 = some [.int .i32] := by kernel_rfl
@[simp] theorem ze341 : zeroT Tryz.prog 341 = some [.d (.s (.int .i32 0))] := by kernel_rfl
@[simp] theorem sz342 : szOf Tryz.prog 342 = some 11 := by kernel_rfl
@[simp] theorem ag342 : aggT Tryz.prog 342 = some true := by kernel_rfl
@[simp] theorem un342 : unitT Tryz.prog 342 = some 11 := by kernel_rfl
@[simp] theorem ze342 : zeroT Tryz.prog 342 = some [.d (.s (.int .u64 0)), .d (.s (.int .u64 0)), .d (.s (.int .u32 0)), .d (.s (.int .u8 0)), .d (.s (.int .u8 0)), .d (.s (.int .u8 0)), .d (.s (.int .u8 0)), .d (.s .nilFunc), .d (.s (.pointer none)), .d (.s (.int .i32 0)), .d (.s (.int .i32 0))] := by kernel_rfl
@[simp] theorem fi342_0 : fieldT Tryz.prog 342 0 = some (0, 1, false) := by kernel_rfl
@[simp] theorem fi342_1 : fieldT Tryz.prog 342 1 = some (1, 1, false) := by kernel_rfl
@[simp] theorem fi342_2 : fieldT Tryz.prog 342 2 = some (2, 1, false) := by kernel_rfl
@[simp] theorem fi342_3 : fieldT Tryz.prog 342 3 = some (3, 1, false) := by kernel_rfl
@[simp] theorem fi342_4 : fieldT Tryz.prog 342 4 = some (4, 1, false) := by kernel_rfl
@[simp] theorem fi342_5 : fieldT Tryz.prog 342 5 = some (5, 1, false) := by kernel_rfl
@[simp] theorem fi342_6 : fieldT Tryz.prog 342 6 = some (6, 1, false) := by kernel_rfl
@[simp] theorem fi342_7 : fieldT Tryz.prog 342 7 = some (7, 1, false) := by kernel_rfl
@[simp] theorem fi342_8 : fieldT Tryz.prog 342 8 = some (8, 1, false) := by kernel_rfl
@[simp] theorem fi342_9 : fieldT Tryz.prog 342 9 = some (9, 1, false) := by kernel_rfl
@[simp] theorem fi342_10 : fieldT Tryz.prog 342 10 = some (10, 1, false) := by kernel_rfl
@[simp] theorem pl342 : placesT Tryz.prog 342 = some [(0, 1), (1, 1), (2, 1), (3, 1), (4, 1), (5, 1), (6, 1), (7, 1), (8, 1), (9, 1), (10, 1)] := by kernel_rfl
@[simp] theorem sz343 : szOf Tryz.prog 343 = some 11 := by kernel_rfl
@[simp] theorem ag343 : aggT Tryz.prog 343 = some true := by kernel_rfl
@[simp] theorem un343 : unitT Tryz.prog 343 = some 11 := by kernel_rfl
@[simp] theorem ze343 : zeroT Tryz.prog 343 = some [.d (.s (.int .u64 0)), .d (.s (.int .u64 0)), .d (.s (.int .u32 0)), .d (.s (.int .u8 0)), .d (.s (.int .u8 0)), .d (.s (.int .u8 0)), .d (.s (.int .u8 0)), .d (.s .nilFunc), .d (.s (.pointer none)), .d (.s (.int .i32 0)), .d (.s (.int .i32 0))] := by kernel_rfl
@[simp] theorem fi343_0 : fieldT Tryz.prog 343 0 = some (0, 1, false) := by kernel_rfl
@[simp] theorem fi343_1 : fieldT Tryz.prog 343 1 = some (1, 1, false) := by kernel_rfl
@[simp] theorem fi343_2 : fieldT Tryz.prog 343 2 = some (2, 1, false) := by kernel_rfl
@[simp] theorem fi343_3 : fieldT Tryz.prog 343 3 = some (3, 1, false) := by kernel_rfl
@[simp] theorem fi343_4 : fieldT Tryz.prog 343 4 = some (4, 1, false) := by kernel_rfl
@[simp] theorem fi343_5 : fieldT Tryz.prog 343 5 = some (5, 1, false) := by kernel_rfl
@[simp] theorem fi343_6 : fieldT Tryz.prog 343 6 = some (6, 1, false) := by kernel_rfl
@[simp] theorem fi343_7 : fieldT Tryz.prog 343 7 = some (7, 1, false) := by kernel_rfl
@[simp] theorem fi343_8 : fieldT Tryz.prog 343 8 = some (8, 1, false) := by kernel_rfl
@[simp] theorem fi343_9 : fieldT Tryz.prog 343 9 = some (9, 1, false) := by kernel_rfl
@[simp] theorem fi343_10 : fieldT Tryz.prog 343 10 = some (10, 1, false) := by kernel_rfl
@[simp] theorem pl343 : placesT Tryz.prog 343 = some [(0, 1), (1, 1), (2, 1), (3, 1), (4, 1), (5, 1), (6, 1), (7, 1), (8, 1), (9, 1), (10, 1)] := by kernel_rfl
@[simp] theorem sz344 : szOf Tryz.prog 344 = some 1 := by kernel_rfl
@[simp] theorem ag344 : aggT Tryz.prog 344 = some false := by kernel_rfl
@[simp] theorem un344 : unitT Tryz.prog 344 = some 1 := by kernel_rfl
@[simp] theorem ze344 : zeroT Tryz.prog 344 = some [.d (.s .nilFunc)] := by kernel_rfl
@[simp] theorem sz345 : szOf Tryz.prog 345 = some 1 := by kernel_rfl
@[simp] theorem ag345 : aggT Tryz.prog 345 = some false := by kernel_rfl
@[simp] theorem un345 : unitT Tryz.prog 345 = some 1 := by kernel_rfl
@[simp] theorem ze345 : zeroT Tryz.prog 345 = some [.d (.s .nilFunc)] := by kernel_rfl
@[simp] theorem sz346 : szOf Tryz.prog 346 = some 1 := by kernel_rfl
@[simp] theorem ag346 : aggT Tryz.prog 346 = some false := by kernel_rfl
@[simp] theorem un346 : unitT Tryz.prog 346 = some 1 := by kernel_rfl
@[simp] theorem ze346 : zeroT Tryz.prog 346 = some [.d (.s .nilFunc)] := by kernel_rfl
@[simp] theorem sz347 : szOf Tryz.prog 347 = some 1 := by kernel_rfl
@[simp] theorem ag347 : aggT Tryz.prog 347 = some false := by kernel_rfl
@[simp] theorem un347 : unitT Tryz.prog 347 = some 1 := by kernel_rfl
@[simp] theorem ze347 : zeroT Tryz.prog 347 = some [.d (.s .nilFunc)] := by kernel_rfl
@[simp] theorem sz348 : szOf Tryz.prog 348 = some 1 := by kernel_rfl
@[simp] theorem ag348 : aggT Tryz.prog 348 = some false := by kernel_rfl
@[simp] theorem un348 : unitT Tryz.prog 348 = some 1 := by kernel_rfl
@[simp] theorem ze348 : zeroT Tryz.prog 348 = some [.d (.s .nilFunc)] := by kernel_rfl
@[simp] theorem sz349 : szOf Tryz.prog 349 = some 1 := by kernel_rfl
@[simp] theorem ag349 : aggT Tryz.prog 349 = some false := by kernel_rfl
@[simp] theorem un349 : unitT Tryz.prog 349 = some 1 := by kernel_rfl
@[simp] theorem ze349 : zeroT Tryz.prog 349 = some [.d (.s .nilFunc)] := by kernel_rfl
@[simp] theorem sz350 : szOf Tryz.prog 350 = some 2 := by kernel_rfl
@[simp] theorem ag350 : aggT Tryz.prog 350 = some true := by kernel_rfl
@[simp] theorem un350 : unitT Tryz.prog 350 = some 2 := by kernel_rfl
theorem kd350 : kindT Tryz.prog 12 350 = some [.str, .int .u8] := by kernel_rfl
@[simp] theorem ze350 : zeroT Tryz.prog 350 = some [.d (.s (.string ByteArray.empty)), .d (.s (.int .u8 0))] := by kernel_rfl
@[simp] theorem fi350_0 : fieldT Tryz.prog 350 0 = some (0, 1, false) := by kernel_rfl
@[simp] theorem fi350_1 : fieldT Tryz.prog 350 1 = some (1, 1, false) := by kernel_rfl
@[simp] theorem pl350 : placesT Tryz.prog 350 = some [(0, 1), (1, 1)] := by kernel_rfl
@[simp] theorem sz351 : szOf Tryz.prog 351 = some 2 := by kernel_rfl
@[simp] theorem ag351 : aggT Tryz.prog 351 = some true := by kernel_rfl
@[simp] theorem un351 : unitT Tryz.prog 351 = some 2 := by kernel_rfl
theorem kd351 : kindT Tryz.prog 12 351 = some [.str, .int .u8] := by kernel_rfl
@[simp] theorem ze351 : zeroT Tryz.prog 351 = some [.d (.s (.string ByteArray.empty)), .d (.s (.int .u8 0))] := by kernel_rfl
@[simp] theorem fi351_0 : fieldT Tryz.prog 351 0 = some (0, 1, false) := by kernel_rfl
@[simp] theorem fi351_1 : fieldT Tryz.prog 351 1 = some (1, 1, false) := by kernel_rfl
@[simp] theorem pl351 : placesT Tryz.prog 351 = some [(0, 1), (1, 1)] := by kernel_rfl
@[simp] theorem sz352 : szOf Tryz.prog 352 = some 1 := by kernel_rfl
@[simp] theorem ag352 : aggT Tryz.prog 352 = some true := by kernel_rfl
@[simp] theorem un352 : unitT Tryz.prog 352 = some 1 := by kernel_rfl
theorem kd352 : kindT Tryz.prog 12 352 = some [.str] := by kernel_rfl
theorem eqk352 : eqT Tryz.prog 8 352 = some (true, [.str]) := by kernel_rfl
theorem eqg352 : (Tryz.prog).eqGuardType (Tryz.prog).depth 352 = false := by kernel_rfl
@[simp] theorem neqA352 (a0 b0 : ByteArray) (K : Value → Prop) : aggBin Tryz.prog .neq 352 [.d (.s (.string a0))] [.d (.s (.string b0))] K = K (.bool (!(eqVs [.string a0] [.string b0]))) := agg_neq (xs := [.string a0]) (ys := [.string b0]) eqk352 (by decide) eqg352 rfl rfl K
@[simp] theorem eqlA352 (a0 b0 : ByteArray) (K : Value → Prop) : aggBin Tryz.prog .eql 352 [.d (.s (.string a0))] [.d (.s (.string b0))] K = K (.bool ((eqVs [.string a0] [.string b0]))) := agg_eql (xs := [.string a0]) (ys := [.string b0]) eqk352 (by decide) eqg352 rfl rfl K
@[simp] theorem ze352 : zeroT Tryz.prog 352 = some [.d (.s (.string ByteArray.empty))] := by kernel_rfl
@[simp] theorem fi352_0 : fieldT Tryz.prog 352 0 = some (0, 1, false) := by kernel_rfl
@[simp] theorem pl352 : placesT Tryz.prog 352 = some [(0, 1)] := by kernel_rfl
@[simp] theorem sz353 : szOf Tryz.prog 353 = some 1 := by kernel_rfl
@[simp] theorem ag353 : aggT Tryz.prog 353 = some true := by kernel_rfl
@[simp] theorem un353 : unitT Tryz.prog 353 = some 1 := by kernel_rfl
theorem kd353 : kindT Tryz.prog 12 353 = some [.str] := by kernel_rfl
theorem eqk353 : eqT Tryz.prog 8 353 = some (true, [.str]) := by kernel_rfl
theorem eqg353 : (Tryz.prog).eqGuardType (Tryz.prog).depth 353 = false := by kernel_rfl
@[simp] theorem neqA353 (a0 b0 : ByteArray) (K : Value → Prop) : aggBin Tryz.prog .neq 353 [.d (.s (.string a0))] [.d (.s (.string b0))] K = K (.bool (!(eqVs [.string a0] [.string b0]))) := agg_neq (xs := [.string a0]) (ys := [.string b0]) eqk353 (by decide) eqg353 rfl rfl K
@[simp] theorem eqlA353 (a0 b0 : ByteArray) (K : Value → Prop) : aggBin Tryz.prog .eql 353 [.d (.s (.string a0))] [.d (.s (.string b0))] K = K (.bool ((eqVs [.string a0] [.string b0]))) := agg_eql (xs := [.string a0]) (ys := [.string b0]) eqk353 (by decide) eqg353 rfl rfl K
@[simp] theorem ze353 : zeroT Tryz.prog 353 = some [.d (.s (.string ByteArray.empty))] := by kernel_rfl
@[simp] theorem fi353_0 : fieldT Tryz.prog 353 0 = some (0, 1, false) := by kernel_rfl
@[simp] theorem pl353 : placesT Tryz.prog 353 = some [(0, 1)] := by kernel_rfl
@[simp] theorem sz354 : szOf Tryz.prog 354 = some 1 := by kernel_rfl
@[simp] theorem ag354 : aggT Tryz.prog 354 = some false := by kernel_rfl
@[simp] theorem un354 : unitT Tryz.prog 354 = some 1 := by kernel_rfl
@[simp] theorem ze354 : zeroT Tryz.prog 354 = some [.d (.s (.pointer none))] := by kernel_rfl
@[simp] theorem sz355 : szOf Tryz.prog 355 = some 1 := by kernel_rfl
@[simp] theorem ag355 : aggT Tryz.prog 355 = some false := by kernel_rfl
@[simp] theorem un355 : unitT Tryz.prog 355 = some 1 := by kernel_rfl
@[simp] theorem ze355 : zeroT Tryz.prog 355 = some [.d (.s (.pointer none))] := by kernel_rfl
@[simp] theorem sz356 : szOf Tryz.prog 356 = some 1 := by kernel_rfl
@[simp] theorem ag356 : aggT Tryz.prog 356 = some false := by kernel_rfl
@[simp] theorem un356 : unitT Tryz.prog 356 = some 1 := by kernel_rfl
@[simp] theorem ze356 : zeroT Tryz.prog 356 = some [.d (.s .nilFunc)] := by kernel_rfl
@[simp] theorem sz357 : szOf Tryz.prog 357 = some 1 := by kernel_rfl
@[simp] theorem ag357 : aggT Tryz.prog 357 = some false := by kernel_rfl
@[simp] theorem un357 : unitT Tryz.prog 357 = some 1 := by kernel_rfl
theorem kd357 : kindT Tryz.prog 12 357 = some [.int .u16] := by kernel_rfl
@[simp] theorem ze357 : zeroT Tryz.prog 357 = some [.d (.s (.int .u16 0))] := by kernel_rfl
@[simp] theorem sz358 : szOf Tryz.prog 358 = some 5 := by kernel_rfl
@[simp] theorem ag358 : aggT Tryz.prog 358 = some true := by kernel_rfl
@[simp] theorem un358 : unitT Tryz.prog 358 = some 5 := by kernel_rfl
theorem kd358 : kindT Tryz.prog 12 358 = some [.int .i32, .int .u16, .int .u16, .int .u32, .int .u32] := by kernel_rfl
@[simp] theorem ze358 : zeroT Tryz.prog 358 = some [.d (.s (.int .i32 0)), .d (.s (.int .u16 0)), .d (.s (.int .u16 0)), .d (.s (.int .u32 0)), .d (.s (.int .u32 0))] := by kernel_rfl
@[simp] theorem fi358_0 : fieldT Tryz.prog 358 0 = some (0, 1, false) := by kernel_rfl
@[simp] theorem fi358_1 : fieldT Tryz.prog 358 1 = some (1, 1, false) := by kernel_rfl
@[simp] theorem fi358_2 : fieldT Tryz.prog 358 2 = some (2, 1, false) := by kernel_rfl
@[simp] theorem fi358_3 : fieldT Tryz.prog 358 3 = some (3, 1, false) := by kernel_rfl
@[simp] theorem fi358_4 : fieldT Tryz.prog 358 4 = some (4, 1, false) := by kernel_rfl
@[simp] theorem pl358 : placesT Tryz.prog 358 = some [(0, 1), (1, 1), (2, 1), (3, 1), (4, 1)] := by kernel_rfl
@[simp] theorem sz359 : szOf Tryz.prog 359 = some 5 := by kernel_rfl
@[simp] theorem ag359 : aggT Tryz.prog 359 = some true := by kernel_rfl
@[simp] theorem un359 : unitT Tryz.prog 359 = some 5 := by kernel_rfl
theorem kd359 : kindT Tryz.prog 12 359 = some [.int .i32, .int .u16, .int .u16, .int .u32, .int .u32] := by kernel_rfl
@[simp] theorem ze359 : zeroT Tryz.prog 359 = some [.d (.s (.int .i32 0)), .d (.s (.int .u16 0)), .d (.s (.int .u16 0)), .d (.s (.int .u32 0)), .d (.s (.int .u32 0))] := by kernel_rfl
@[simp] theorem fi359_0 : fieldT Tryz.prog 359 0 = some (0, 1, false) := by kernel_rfl
@[simp] theorem fi359_1 : fieldT Tryz.prog 359 1 = some (1, 1, false) := by kernel_rfl
@[simp] theorem fi359_2 : fieldT Tryz.prog 359 2 = some (2, 1, false) := by kernel_rfl
@[simp] theorem fi359_3 : fieldT Tryz.prog 359 3 = some (3, 1, false) := by kernel_rfl
@[simp] theorem fi359_4 : fieldT Tryz.prog 359 4 = some (4, 1, false) := by kernel_rfl
@[simp] theorem pl359 : placesT Tryz.prog 359 = some [(0, 1), (1, 1), (2, 1), (3, 1), (4, 1)] := by kernel_rfl
@[simp] theorem sz360 : szOf Tryz.prog 360 = some 1 := by kernel_rfl
@[simp] theorem ag360 : aggT Tryz.prog 360 = some false := by kernel_rfl
@[simp] theorem un360 : unitT Tryz.prog 360 = some 1 := by kernel_rfl
theorem kd360 : kindT Tryz.prog 12 360 = some [.slice [.int .i32, .int .i32, .int .i32, .int .i32]] := by kernel_rfl
@[simp] theorem sl360 : sliceT Tryz.prog 360 = some (363, 4, 16) := by kernel_rfl
@[simp] theorem ze360 : zeroT Tryz.prog 360 = some [.d .nil] := by kernel_rfl
@[simp] theorem sz361 : szOf Tryz.prog 361 = some 1 := by kernel_rfl
@[simp] theorem ag361 : aggT Tryz.prog 361 = some false := by kernel_rfl
@[simp] theorem un361 : unitT Tryz.prog 361 = some 1 := by kernel_rfl
theorem kd361 : kindT Tryz.prog 12 361 = some [.int .i32] := by kernel_rfl
@[simp] theorem ze361 : zeroT Tryz.prog 361 = some [.d (.s (.int .i32 0))] := by kernel_rfl
@[simp] theorem sz362 : szOf Tryz.prog 362 = some 4 := by kernel_rfl
@[simp] theorem ag362 : aggT Tryz.prog 362 = some true := by kernel_rfl
@[simp] theorem un362 : unitT Tryz.prog 362 = some 4 := by kernel_rfl
theorem kd362 : kindT Tryz.prog 12 362 = some [.int .i32, .int .i32, .int .i32, .int .i32] := by kernel_rfl
@[simp] theorem ze362 : zeroT Tryz.prog 362 = some [.d (.s (.int .i32 0)), .d (.s (.int .i32 0)), .d (.s (.int .i32 0)), .d (.s (.int .i32 0))] := by kernel_rfl
@[simp] theorem fi362_0 : fieldT Tryz.prog 362 0 = some (0, 1, false) := by kernel_rfl
@[simp] theorem fi362_1 : fieldT Tryz.prog 362 1 = some (1, 1, false) := by kernel_rfl
@[simp] theorem fi362_2 : fieldT Tryz.prog 362 2 = some (2, 1, false) := by kernel_rfl
@[simp] theorem fi362_3 : fieldT Tryz.prog 362 3 = some (3, 1, false) := by kernel_rfl
@[simp] theorem pl362 : placesT Tryz.prog 362 = some [(0, 1), (1, 1), (2, 1), (3, 1)] := by kernel_rfl
@[simp] theorem sz363 : szOf Tryz.prog 363 = some 4 := by kernel_rfl
@[simp] theorem ag363 : aggT Tryz.prog 363 = some true := by kernel_rfl
@[simp] theorem un363 : unitT Tryz.prog 363 = some 4 := by kernel_rfl
theorem kd363 : kindT Tryz.prog 12 363 = some [.int .i32, .int .i32, .int .i32, .int .i32] := by kernel_rfl
@[simp] theorem ze363 : zeroT Tryz.prog 363 = some [.d (.s (.int .i32 0)), .d (.s (.int .i32 0)), .d (.s (.int .i32 0)), .d (.s (.int .i32 0))] := by kernel_rfl
@[simp] theorem fi363_0 : fieldT Tryz.prog 363 0 = some (0, 1, false) := by kernel_rfl
@[simp] theorem fi363_1 : fieldT Tryz.prog 363 1 = some (1, 1, false) := by kernel_rfl
@[simp] theorem fi363_2 : fieldT Tryz.prog 363 2 = some (2, 1, false) := by kernel_rfl
@[simp] theorem fi363_3 : fieldT Tryz.prog 363 3 = some (3, 1, false) := by kernel_rfl
@[simp] theorem pl363 : placesT Tryz.prog 363 = some [(0, 1), (1, 1), (2, 1), (3, 1)] := by kernel_rfl
@[simp] theorem sz364 : szOf Tryz.prog 364 = some 1 := by kernel_rfl
@[simp] theorem ag364 : aggT Tryz.prog 364 = some false := by kernel_rfl
@[simp] theorem un364 : unitT Tryz.prog 364 = some 1 := by kernel_rfl
@[simp] theorem ze364 : zeroT Tryz.prog 364 = some [.d (.s .nilFunc)] := by kernel_rfl
@[simp] theorem ca2 : callable Tryz.prog 2 = true := by kernel_rfl
@[simp] theorem ca3 : callable Tryz.prog 3 = true := by kernel_rfl
@[simp] theorem ca4 : callable Tryz.prog 4 = true := by kernel_rfl
@[simp] theorem ca5 : callable Tryz.prog 5 = true := by kernel_rfl
@[simp] theorem ca6 : callable Tryz.prog 6 = true := by kernel_rfl
@[simp] theorem ca7 : callable Tryz.prog 7 = true := by kernel_rfl
@[simp] theorem ca8 : callable Tryz.prog 8 = true := by kernel_rfl
@[simp] theorem ca9 : callable Tryz.prog 9 = true := by kernel_rfl
@[simp] theorem ca10 : callable Tryz.prog 10 = true := by kernel_rfl
@[simp] theorem ca11 : callable Tryz.prog 11 = true := by kernel_rfl
@[simp] theorem ca12 : callable Tryz.prog 12 = true := by kernel_rfl
@[simp] theorem ca13 : callable Tryz.prog 13 = true := by kernel_rfl
@[simp] theorem ca14 : callable Tryz.prog 14 = true := by kernel_rfl
@[simp] theorem ca15 : callable Tryz.prog 15 = true := by kernel_rfl
@[simp] theorem ca16 : callable Tryz.prog 16 = true := by kernel_rfl
@[simp] theorem ca17 : callable Tryz.prog 17 = true := by kernel_rfl
@[simp] theorem ca18 : callable Tryz.prog 18 = true := by kernel_rfl
@[simp] theorem ca19 : callable Tryz.prog 19 = true := by kernel_rfl
@[simp] theorem ca20 : callable Tryz.prog 20 = true := by kernel_rfl
@[simp] theorem ca21 : callable Tryz.prog 21 = true := by kernel_rfl
@[simp] theorem ca22 : callable Tryz.prog 22 = true := by kernel_rfl
@[simp] theorem ca23 : callable Tryz.prog 23 = true := by kernel_rfl
@[simp] theorem ca24 : callable Tryz.prog 24 = true := by kernel_rfl
@[simp] theorem ca25 : callable Tryz.prog 25 = true := by kernel_rfl
@[simp] theorem ca26 : callable Tryz.prog 26 = true := by kernel_rfl
@[simp] theorem ca27 : callable Tryz.prog 27 = true := by kernel_rfl
@[simp] theorem ca28 : callable Tryz.prog 28 = true := by kernel_rfl
@[simp] theorem ca29 : callable Tryz.prog 29 = true := by kernel_rfl
@[simp] theorem ca30 : callable Tryz.prog 30 = true := by kernel_rfl
@[simp] theorem ca31 : callable Tryz.prog 31 = true := by kernel_rfl
@[simp] theorem ca32 : callable Tryz.prog 32 = true := by kernel_rfl
@[simp] theorem ca33 : callable Tryz.prog 33 = true := by kernel_rfl
@[simp] theorem ca34 : callable Tryz.prog 34 = true := by kernel_rfl
@[simp] theorem ca35 : callable Tryz.prog 35 = true := by kernel_rfl
@[simp] theorem ca36 : callable Tryz.prog 36 = true := by kernel_rfl
@[simp] theorem ca37 : callable Tryz.prog 37 = true := by kernel_rfl
@[simp] theorem ca38 : callable Tryz.prog 38 = true := by kernel_rfl
@[simp] theorem ca39 : callable Tryz.prog 39 = true := by kernel_rfl
@[simp] theorem ca40 : callable Tryz.prog 40 = true := by kernel_rfl
@[simp] theorem ca41 : callable Tryz.prog 41 = true := by kernel_rfl
@[simp] theorem ca42 : callable Tryz.prog 42 = true := by kernel_rfl
@[simp] theorem ca43 : callable Tryz.prog 43 = true := by kernel_rfl
@[simp] theorem ca44 : callable Tryz.prog 44 = true := by kernel_rfl
@[simp] theorem ca45 : callable Tryz.prog 45 = true := by kernel_rfl
@[simp] theorem ca46 : callable Tryz.prog 46 = true := by kernel_rfl
@[simp] theorem ca47 : callable Tryz.prog 47 = true := by kernel_rfl
@[simp] theorem ca48 : callable Tryz.prog 48 = true := by kernel_rfl
@[simp] theorem ca49 : callable Tryz.prog 49 = true := by kernel_rfl
@[simp] theorem ca50 : callable Tryz.prog 50 = true := by kernel_rfl
@[simp] theorem ca51 : callable Tryz.prog 51 = true := by kernel_rfl
@[simp] theorem ca52 : callable Tryz.prog 52 = true := by kernel_rfl
@[simp] theorem ca53 : callable Tryz.prog 53 = true := by kernel_rfl
@[simp] theorem ca54 : callable Tryz.prog 54 = true := by kernel_rfl
@[simp] theorem ca55 : callable Tryz.prog 55 = true := by kernel_rfl
@[simp] theorem ca56 : callable Tryz.prog 56 = true := by kernel_rfl
@[simp] theorem ca57 : callable Tryz.prog 57 = true := by kernel_rfl
@[simp] theorem ca58 : callable Tryz.prog 58 = true := by kernel_rfl
@[simp] theorem ca59 : callable Tryz.prog 59 = true := by kernel_rfl
@[simp] theorem ca60 : callable Tryz.prog 60 = true := by kernel_rfl
@[simp] theorem ca61 : callable Tryz.prog 61 = true := by kernel_rfl
@[simp] theorem ca62 : callable Tryz.prog 62 = true := by kernel_rfl
@[simp] theorem ca63 : callable Tryz.prog 63 = true := by kernel_rfl
@[simp] theorem ca64 : callable Tryz.prog 64 = true := by kernel_rfl
@[simp] theorem ca65 : callable Tryz.prog 65 = true := by kernel_rfl
@[simp] theorem ca66 : callable Tryz.prog 66 = true := by kernel_rfl
@[simp] theorem ca67 : callable Tryz.prog 67 = true := by kernel_rfl
@[simp] theorem ca68 : callable Tryz.prog 68 = true := by kernel_rfl
@[simp] theorem ca69 : callable Tryz.prog 69 = true := by kernel_rfl
@[simp] theorem ca70 : callable Tryz.prog 70 = true := by kernel_rfl
@[simp] theorem ca71 : callable Tryz.prog 71 = true := by kernel_rfl
@[simp] theorem ca72 : callable Tryz.prog 72 = true := by kernel_rfl
@[simp] theorem ca73 : callable Tryz.prog 73 = true := by kernel_rfl
@[simp] theorem ca74 : callable Tryz.prog 74 = true := by kernel_rfl
@[simp] theorem ca75 : callable Tryz.prog 75 = true := by kernel_rfl
@[simp] theorem ca76 : callable Tryz.prog 76 = true := by kernel_rfl
@[simp] theorem ca77 : callable Tryz.prog 77 = true := by kernel_rfl
@[simp] theorem ca78 : callable Tryz.prog 78 = true := by kernel_rfl
@[simp] theorem ca79 : callable Tryz.prog 79 = true := by kernel_rfl
@[simp] theorem ca80 : callable Tryz.prog 80 = true := by kernel_rfl
@[simp] theorem ca81 : callable Tryz.prog 81 = true := by kernel_rfl
@[simp] theorem ca82 : callable Tryz.prog 82 = true := by kernel_rfl
@[simp] theorem ca83 : callable Tryz.prog 83 = true := by kernel_rfl
@[simp] theorem ca84 : callable Tryz.prog 84 = true := by kernel_rfl
@[simp] theorem ca85 : callable Tryz.prog 85 = true := by kernel_rfl
@[simp] theorem ca86 : callable Tryz.prog 86 = true := by kernel_rfl
@[simp] theorem ca87 : callable Tryz.prog 87 = true := by kernel_rfl
@[simp] theorem ca88 : callable Tryz.prog 88 = true := by kernel_rfl
@[simp] theorem ca89 : callable Tryz.prog 89 = true := by kernel_rfl
@[simp] theorem ca90 : callable Tryz.prog 90 = true := by kernel_rfl
@[simp] theorem ca91 : callable Tryz.prog 91 = true := by kernel_rfl
@[simp] theorem ca92 : callable Tryz.prog 92 = true := by kernel_rfl
@[simp] theorem ca93 : callable Tryz.prog 93 = true := by kernel_rfl
@[simp] theorem ca94 : callable Tryz.prog 94 = true := by kernel_rfl
@[simp] theorem ca95 : callable Tryz.prog 95 = true := by kernel_rfl
@[simp] theorem ca96 : callable Tryz.prog 96 = true := by kernel_rfl
@[simp] theorem ca97 : callable Tryz.prog 97 = true := by kernel_rfl
@[simp] theorem ca98 : callable Tryz.prog 98 = true := by kernel_rfl
@[simp] theorem ca99 : callable Tryz.prog 99 = true := by kernel_rfl
@[simp] theorem ca100 : callable Tryz.prog 100 = true := by kernel_rfl
@[simp] theorem ca101 : callable Tryz.prog 101 = true := by kernel_rfl
@[simp] theorem ca102 : callable Tryz.prog 102 = true := by kernel_rfl
@[simp] theorem ca103 : callable Tryz.prog 103 = true := by kernel_rfl
@[simp] theorem ca104 : callable Tryz.prog 104 = true := by kernel_rfl
@[simp] theorem ca105 : callable Tryz.prog 105 = true := by kernel_rfl
@[simp] theorem ca106 : callable Tryz.prog 106 = true := by kernel_rfl
@[simp] theorem ca107 : callable Tryz.prog 107 = true := by kernel_rfl
@[simp] theorem ca108 : callable Tryz.prog 108 = true := by kernel_rfl
@[simp] theorem ca109 : callable Tryz.prog 109 = true := by kernel_rfl
@[simp] theorem ca110 : callable Tryz.prog 110 = true := by kernel_rfl
@[simp] theorem ca111 : callable Tryz.prog 111 = true := by kernel_rfl
@[simp] theorem ca112 : callable Tryz.prog 112 = true := by kernel_rfl
@[simp] theorem ca113 : callable Tryz.prog 113 = true := by kernel_rfl
@[simp] theorem ca114 : callable Tryz.prog 114 = true := by kernel_rfl
@[simp] theorem ca115 : callable Tryz.prog 115 = true := by kernel_rfl
@[simp] theorem ca116 : callable Tryz.prog 116 = true := by kernel_rfl
@[simp] theorem ca117 : callable Tryz.prog 117 = true := by kernel_rfl
@[simp] theorem ca118 : callable Tryz.prog 118 = true := by kernel_rfl
@[simp] theorem ca119 : callable Tryz.prog 119 = true := by kernel_rfl
@[simp] theorem ca120 : callable Tryz.prog 120 = true := by kernel_rfl
@[simp] theorem ca121 : callable Tryz.prog 121 = true := by kernel_rfl
@[simp] theorem ca122 : callable Tryz.prog 122 = true := by kernel_rfl
@[simp] theorem ca123 : callable Tryz.prog 123 = true := by kernel_rfl
@[simp] theorem ca124 : callable Tryz.prog 124 = true := by kernel_rfl
@[simp] theorem ca125 : callable Tryz.prog 125 = true := by kernel_rfl
@[simp] theorem ca126 : callable Tryz.prog 126 = true := by kernel_rfl
@[simp] theorem ca127 : callable Tryz.prog 127 = true := by kernel_rfl
@[simp] theorem ca128 : callable Tryz.prog 128 = true := by kernel_rfl
@[simp] theorem ca129 : callable Tryz.prog 129 = true := by kernel_rfl
@[simp] theorem ca130 : callable Tryz.prog 130 = true := by kernel_rfl
@[simp] theorem ca131 : callable Tryz.prog 131 = true := by kernel_rfl
@[simp] theorem ca132 : callable Tryz.prog 132 = true := by kernel_rfl
@[simp] theorem ca133 : callable Tryz.prog 133 = true := by kernel_rfl
@[simp] theorem ca134 : callable Tryz.prog 134 = true := by kernel_rfl
@[simp] theorem ca135 : callable Tryz.prog 135 = true := by kernel_rfl
@[simp] theorem ca136 : callable Tryz.prog 136 = true := by kernel_rfl
@[simp] theorem ca137 : callable Tryz.prog 137 = true := by kernel_rfl
@[simp] theorem ca138 : callable Tryz.prog 138 = true := by kernel_rfl
@[simp] theorem ca139 : callable Tryz.prog 139 = true := by kernel_rfl
@[simp] theorem ca140 : callable Tryz.prog 140 = true := by kernel_rfl
@[simp] theorem ca141 : callable Tryz.prog 141 = true := by kernel_rfl
@[simp] theorem ca142 : callable Tryz.prog 142 = true := by kernel_rfl
@[simp] theorem ca143 : callable Tryz.prog 143 = true := by kernel_rfl
@[simp] theorem ca144 : callable Tryz.prog 144 = true := by kernel_rfl
@[simp] theorem ca145 : callable Tryz.prog 145 = true := by kernel_rfl
@[simp] theorem ca146 : callable Tryz.prog 146 = true := by kernel_rfl
@[simp] theorem ca147 : callable Tryz.prog 147 = true := by kernel_rfl
@[simp] theorem ca148 : callable Tryz.prog 148 = true := by kernel_rfl
@[simp] theorem ca149 : callable Tryz.prog 149 = true := by kernel_rfl
@[simp] theorem ca150 : callable Tryz.prog 150 = true := by kernel_rfl
@[simp] theorem ca151 : callable Tryz.prog 151 = true := by kernel_rfl
@[simp] theorem ca152 : callable Tryz.prog 152 = true := by kernel_rfl
@[simp] theorem ca153 : callable Tryz.prog 153 = true := by kernel_rfl
@[simp] theorem ca154 : callable Tryz.prog 154 = true := by kernel_rfl
@[simp] theorem ca155 : callable Tryz.prog 155 = true := by kernel_rfl
@[simp] theorem ca156 : callable Tryz.prog 156 = true := by kernel_rfl
@[simp] theorem ca157 : callable Tryz.prog 157 = true := by kernel_rfl
@[simp] theorem ca158 : callable Tryz.prog 158 = true := by kernel_rfl
@[simp] theorem ca159 : callable Tryz.prog 159 = true := by kernel_rfl
@[simp] theorem ca160 : callable Tryz.prog 160 = true := by kernel_rfl
@[simp] theorem ca161 : callable Tryz.prog 161 = true := by kernel_rfl
@[simp] theorem ca162 : callable Tryz.prog 162 = true := by kernel_rfl
@[simp] theorem ca163 : callable Tryz.prog 163 = true := by kernel_rfl
@[simp] theorem ca164 : callable Tryz.prog 164 = true := by kernel_rfl
@[simp] theorem ca165 : callable Tryz.prog 165 = true := by kernel_rfl
@[simp] theorem ca166 : callable Tryz.prog 166 = true := by kernel_rfl
@[simp] theorem ca167 : callable Tryz.prog 167 = true := by kernel_rfl
@[simp] theorem ca168 : callable Tryz.prog 168 = true := by kernel_rfl
@[simp] theorem ca169 : callable Tryz.prog 169 = true := by kernel_rfl
@[simp] theorem ca170 : callable Tryz.prog 170 = true := by kernel_rfl
@[simp] theorem ca171 : callable Tryz.prog 171 = true := by kernel_rfl
@[simp] theorem ca172 : callable Tryz.prog 172 = true := by kernel_rfl
@[simp] theorem ca173 : callable Tryz.prog 173 = true := by kernel_rfl
@[simp] theorem ca174 : callable Tryz.prog 174 = true := by kernel_rfl
@[simp] theorem ca175 : callable Tryz.prog 175 = true := by kernel_rfl
@[simp] theorem ca176 : callable Tryz.prog 176 = true := by kernel_rfl
@[simp] theorem ca177 : callable Tryz.prog 177 = true := by kernel_rfl
@[simp] theorem ca178 : callable Tryz.prog 178 = true := by kernel_rfl
@[simp] theorem ca179 : callable Tryz.prog 179 = true := by kernel_rfl
@[simp] theorem ca180 : callable Tryz.prog 180 = true := by kernel_rfl
@[simp] theorem ca181 : callable Tryz.prog 181 = true := by kernel_rfl
@[simp] theorem ca182 : callable Tryz.prog 182 = true := by kernel_rfl
@[simp] theorem ca183 : callable Tryz.prog 183 = true := by kernel_rfl
@[simp] theorem ca184 : callable Tryz.prog 184 = true := by kernel_rfl
@[simp] theorem ca185 : callable Tryz.prog 185 = true := by kernel_rfl
@[simp] theorem ca186 : callable Tryz.prog 186 = true := by kernel_rfl
@[simp] theorem ca187 : callable Tryz.prog 187 = true := by kernel_rfl
@[simp] theorem ca188 : callable Tryz.prog 188 = true := by kernel_rfl
@[simp] theorem ca189 : callable Tryz.prog 189 = true := by kernel_rfl
@[simp] theorem ca190 : callable Tryz.prog 190 = true := by kernel_rfl
@[simp] theorem ca191 : callable Tryz.prog 191 = true := by kernel_rfl
@[simp] theorem ca192 : callable Tryz.prog 192 = true := by kernel_rfl
@[simp] theorem ca193 : callable Tryz.prog 193 = true := by kernel_rfl
@[simp] theorem ca194 : callable Tryz.prog 194 = true := by kernel_rfl
@[simp] theorem ca195 : callable Tryz.prog 195 = true := by kernel_rfl
@[simp] theorem ca196 : callable Tryz.prog 196 = true := by kernel_rfl
@[simp] theorem ca197 : callable Tryz.prog 197 = true := by kernel_rfl
@[simp] theorem ca198 : callable Tryz.prog 198 = true := by kernel_rfl
@[simp] theorem ca199 : callable Tryz.prog 199 = true := by kernel_rfl
@[simp] theorem ca200 : callable Tryz.prog 200 = true := by kernel_rfl
@[simp] theorem ca201 : callable Tryz.prog 201 = true := by kernel_rfl
@[simp] theorem ca202 : callable Tryz.prog 202 = true := by kernel_rfl
@[simp] theorem ca204 : callable Tryz.prog 204 = true := by kernel_rfl
@[simp] theorem ca205 : callable Tryz.prog 205 = true := by kernel_rfl
@[simp] theorem ca206 : callable Tryz.prog 206 = true := by kernel_rfl
@[simp] theorem ca207 : callable Tryz.prog 207 = true := by kernel_rfl
@[simp] theorem ca208 : callable Tryz.prog 208 = true := by kernel_rfl
@[simp] theorem ca209 : callable Tryz.prog 209 = true := by kernel_rfl
@[simp] theorem ca210 : callable Tryz.prog 210 = true := by kernel_rfl
@[simp] theorem ca211 : callable Tryz.prog 211 = true := by kernel_rfl
@[simp] theorem ca212 : callable Tryz.prog 212 = true := by kernel_rfl
@[simp] theorem ca213 : callable Tryz.prog 213 = true := by kernel_rfl
@[simp] theorem ca214 : callable Tryz.prog 214 = true := by kernel_rfl
@[simp] theorem ca215 : callable Tryz.prog 215 = true := by kernel_rfl
@[simp] theorem ca216 : callable Tryz.prog 216 = true := by kernel_rfl
@[simp] theorem ca217 : callable Tryz.prog 217 = true := by kernel_rfl
@[simp] theorem ca218 : callable Tryz.prog 218 = true := by kernel_rfl
@[simp] theorem ca219 : callable Tryz.prog 219 = true := by kernel_rfl
@[simp] theorem ca220 : callable Tryz.prog 220 = true := by kernel_rfl
@[simp] theorem ca221 : callable Tryz.prog 221 = true := by kernel_rfl
@[simp] theorem ca222 : callable Tryz.prog 222 = true := by kernel_rfl
@[simp] theorem ca223 : callable Tryz.prog 223 = true := by kernel_rfl
@[simp] theorem ca224 : callable Tryz.prog 224 = true := by kernel_rfl
@[simp] theorem ca225 : callable Tryz.prog 225 = true := by kernel_rfl
@[simp] theorem ca226 : callable Tryz.prog 226 = true := by kernel_rfl
@[simp] theorem ca227 : callable Tryz.prog 227 = true := by kernel_rfl
@[simp] theorem ca228 : callable Tryz.prog 228 = true := by kernel_rfl
@[simp] theorem ca229 : callable Tryz.prog 229 = true := by kernel_rfl
@[simp] theorem ca230 : callable Tryz.prog 230 = true := by kernel_rfl
@[simp] theorem ca231 : callable Tryz.prog 231 = true := by kernel_rfl
@[simp] theorem ca232 : callable Tryz.prog 232 = true := by kernel_rfl
@[simp] theorem ca233 : callable Tryz.prog 233 = true := by kernel_rfl
@[simp] theorem ca234 : callable Tryz.prog 234 = true := by kernel_rfl
@[simp] theorem ca235 : callable Tryz.prog 235 = true := by kernel_rfl
@[simp] theorem ca236 : callable Tryz.prog 236 = true := by kernel_rfl
@[simp] theorem ca237 : callable Tryz.prog 237 = true := by kernel_rfl
@[simp] theorem ca238 : callable Tryz.prog 238 = true := by kernel_rfl
@[simp] theorem ca239 : callable Tryz.prog 239 = true := by kernel_rfl
@[simp] theorem ca240 : callable Tryz.prog 240 = true := by kernel_rfl
@[simp] theorem ca241 : callable Tryz.prog 241 = true := by kernel_rfl
@[simp] theorem ca242 : callable Tryz.prog 242 = true := by kernel_rfl
@[simp] theorem ca243 : callable Tryz.prog 243 = true := by kernel_rfl
@[simp] theorem ca244 : callable Tryz.prog 244 = true := by kernel_rfl
@[simp] theorem ca245 : callable Tryz.prog 245 = true := by kernel_rfl
@[simp] theorem ca246 : callable Tryz.prog 246 = true := by kernel_rfl
@[simp] theorem ca247 : callable Tryz.prog 247 = true := by kernel_rfl
@[simp] theorem ca263 : callable Tryz.prog 263 = true := by kernel_rfl
@[simp] theorem ca264 : callable Tryz.prog 264 = true := by kernel_rfl
@[simp] theorem ca265 : callable Tryz.prog 265 = true := by kernel_rfl
@[simp] theorem ca281 : callable Tryz.prog 281 = true := by kernel_rfl
@[simp] theorem ca289 : callable Tryz.prog 289 = true := by kernel_rfl
@[simp] theorem glob2 : globT 2 = some [.err 2] := rfl
@[simp] theorem glob1 : globT 1 = some [.err 1] := rfl
@[simp] theorem glob3 : globT 3 = some [.err 3] := rfl
@[simp] theorem glob4 : globT 4 = some [.err 4] := rfl
theorem mixed : Tryz.prog.follows .mixedOrders = true := by kernel_rfl
end Go.Proofs.YtckcdpocmmlniaaGreatDoor
