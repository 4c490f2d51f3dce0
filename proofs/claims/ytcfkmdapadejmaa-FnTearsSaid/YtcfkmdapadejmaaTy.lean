/- Closed facts on the types and functions of the translation. -/
import Derived.Test.YtcfkmdapadejmaaProg
import Derived.KernelRfl
import Derived.Test.YtcfkmdapadejmaaK4
namespace Go.Proofs.Ytcfkmdapadejmaa
open Go Go.Abs Go.Proofs
@[simp] theorem sz0 : szOf Try.prog 0 = some 1 := by kernel_rfl
@[simp] theorem ag0 : aggT Try.prog 0 = some false := by kernel_rfl
@[simp] theorem un0 : unitT Try.prog 0 = some 1 := by kernel_rfl
@[simp] theorem sz1 : szOf Try.prog 1 = some 1 := by kernel_rfl
@[simp] theorem ag1 : aggT Try.prog 1 = some false := by kernel_rfl
@[simp] theorem un1 : unitT Try.prog 1 = some 1 := by kernel_rfl
@[simp] theorem ze1 : zeroT Try.prog 1 = some [.d (.s .nilFunc)] := by kernel_rfl
@[simp] theorem sz2 : szOf Try.prog 2 = some 1 := by kernel_rfl
@[simp] theorem ag2 : aggT Try.prog 2 = some false := by kernel_rfl
@[simp] theorem un2 : unitT Try.prog 2 = some 1 := by kernel_rfl
theorem kd2 : kindT Try.prog 12 2 = some [.int .i64] := by kernel_rfl
@[simp] theorem ze2 : zeroT Try.prog 2 = some [.d (.s (.int .i64 0))] := by kernel_rfl
@[simp] theorem sz3 : szOf Try.prog 3 = some 1 := by kernel_rfl
@[simp] theorem ag3 : aggT Try.prog 3 = some false := by kernel_rfl
@[simp] theorem un3 : unitT Try.prog 3 = some 1 := by kernel_rfl
theorem kd3 : kindT Try.prog 12 3 = some [.int .i64] := by kernel_rfl
@[simp] theorem ze3 : zeroT Try.prog 3 = some [.d (.s (.int .i64 0))] := by kernel_rfl
@[simp] theorem sz4 : szOf Try.prog 4 = some 1 := by kernel_rfl
@[simp] theorem ag4 : aggT Try.prog 4 = some false := by kernel_rfl
@[simp] theorem un4 : unitT Try.prog 4 = some 1 := by kernel_rfl
theorem kd4 : kindT Try.prog 12 4 = some [.bool] := by kernel_rfl
@[simp] theorem ze4 : zeroT Try.prog 4 = some [.d (.s (.bool false))] := by kernel_rfl
@[simp] theorem sz5 : szOf Try.prog 5 = some 1 := by kernel_rfl
@[simp] theorem ag5 : aggT Try.prog 5 = some false := by kernel_rfl
@[simp] theorem un5 : unitT Try.prog 5 = some 1 := by kernel_rfl
theorem kd5 : kindT Try.prog 12 5 = some [.int .u8] := by kernel_rfl
@[simp] theorem ze5 : zeroT Try.prog 5 = some [.d (.s (.int .u8 0))] := by kernel_rfl
@[simp] theorem sz6 : szOf Try.prog 6 = some 1 := by kernel_rfl
@[simp] theorem ag6 : aggT Try.prog 6 = some false := by kernel_rfl
@[simp] theorem un6 : unitT Try.prog 6 = some 1 := by kernel_rfl
theorem kd6 : kindT Try.prog 12 6 = some [.int .u8] := by kernel_rfl
@[simp] theorem ze6 : zeroT Try.prog 6 = some [.d (.s (.int .u8 0))] := by kernel_rfl
@[simp] theorem sz7 : szOf Try.prog 7 = some 4 := by kernel_rfl
@[simp] theorem ag7 : aggT Try.prog 7 = some true := by kernel_rfl
@[simp] theorem un7 : unitT Try.prog 7 = some 4 := by kernel_rfl
theorem kd7 : kindT Try.prog 12 7 = some [.int .i64, .int .i64, .bool, .int .u8] := by kernel_rfl
theorem eqk7 : eqT Try.prog 8 7 = some (true, [.int .i64, .int .i64, .bool, .int .u8]) := by kernel_rfl
theorem eqg7 : (Try.prog).eqGuardType (Try.prog).depth 7 = false := by kernel_rfl
@[simp] theorem neqA7 (a0 b0 : Int) (a1 b1 : Int) (a2 b2 : Bool) (a3 b3 : Int) (K : Value → Prop) : aggBin Try.prog .neq 7 [.d (.s (.int .i64 a0)), .d (.s (.int .i64 a1)), .d (.s (.bool a2)), .d (.s (.int .u8 a3))] [.d (.s (.int .i64 b0)), .d (.s (.int .i64 b1)), .d (.s (.bool b2)), .d (.s (.int .u8 b3))] K = K (.bool (!(eqVs [.int .i64 a0, .int .i64 a1, .bool a2, .int .u8 a3] [.int .i64 b0, .int .i64 b1, .bool b2, .int .u8 b3]))) := agg_neq (xs := [.int .i64 a0, .int .i64 a1, .bool a2, .int .u8 a3]) (ys := [.int .i64 b0, .int .i64 b1, .bool b2, .int .u8 b3]) eqk7 (by decide) eqg7 rfl rfl K
@[simp] theorem eqlA7 (a0 b0 : Int) (a1 b1 : Int) (a2 b2 : Bool) (a3 b3 : Int) (K : Value → Prop) : aggBin Try.prog .eql 7 [.d (.s (.int .i64 a0)), .d (.s (.int .i64 a1)), .d (.s (.bool a2)), .d (.s (.int .u8 a3))] [.d (.s (.int .i64 b0)), .d (.s (.int .i64 b1)), .d (.s (.bool b2)), .d (.s (.int .u8 b3))] K = K (.bool ((eqVs [.int .i64 a0, .int .i64 a1, .bool a2, .int .u8 a3] [.int .i64 b0, .int .i64 b1, .bool b2, .int .u8 b3]))) := agg_eql (xs := [.int .i64 a0, .int .i64 a1, .bool a2, .int .u8 a3]) (ys := [.int .i64 b0, .int .i64 b1, .bool b2, .int .u8 b3]) eqk7 (by decide) eqg7 rfl rfl K
@[simp] theorem ze7 : zeroT Try.prog 7 = some [.d (.s (.int .i64 0)), .d (.s (.int .i64 0)), .d (.s (.bool false)), .d (.s (.int .u8 0))] := by kernel_rfl
@[simp] theorem fi7_0 : fieldT Try.prog 7 0 = some (0, 1, false) := by kernel_rfl
@[simp] theorem fi7_1 : fieldT Try.prog 7 1 = some (1, 1, false) := by kernel_rfl
@[simp] theorem fi7_2 : fieldT Try.prog 7 2 = some (2, 1, false) := by kernel_rfl
@[simp] theorem fi7_3 : fieldT Try.prog 7 3 = some (3, 1, false) := by kernel_rfl
@[simp] theorem pl7 : placesT Try.prog 7 = some [(0, 1), (1, 1), (2, 1), (3, 1)] := by kernel_rfl
@[simp] theorem sz8 : szOf Try.prog 8 = some 4 := by kernel_rfl
@[simp] theorem ag8 : aggT Try.prog 8 = some true := by kernel_rfl
@[simp] theorem un8 : unitT Try.prog 8 = some 4 := by kernel_rfl
theorem kd8 : kindT Try.prog 12 8 = some [.int .i64, .int .i64, .bool, .int .u8] := by kernel_rfl
theorem eqk8 : eqT Try.prog 8 8 = some (true, [.int .i64, .int .i64, .bool, .int .u8]) := by kernel_rfl
theorem eqg8 : (Try.prog).eqGuardType (Try.prog).depth 8 = false := by kernel_rfl
@[simp] theorem neqA8 (a0 b0 : Int) (a1 b1 : Int) (a2 b2 : Bool) (a3 b3 : Int) (K : Value → Prop) : aggBin Try.prog .neq 8 [.d (.s (.int .i64 a0)), .d (.s (.int .i64 a1)), .d (.s (.bool a2)), .d (.s (.int .u8 a3))] [.d (.s (.int .i64 b0)), .d (.s (.int .i64 b1)), .d (.s (.bool b2)), .d (.s (.int .u8 b3))] K = K (.bool (!(eqVs [.int .i64 a0, .int .i64 a1, .bool a2, .int .u8 a3] [.int .i64 b0, .int .i64 b1, .bool b2, .int .u8 b3]))) := agg_neq (xs := [.int .i64 a0, .int .i64 a1, .bool a2, .int .u8 a3]) (ys := [.int .i64 b0, .int .i64 b1, .bool b2, .int .u8 b3]) eqk8 (by decide) eqg8 rfl rfl K
@[simp] theorem eqlA8 (a0 b0 : Int) (a1 b1 : Int) (a2 b2 : Bool) (a3 b3 : Int) (K : Value → Prop) : aggBin Try.prog .eql 8 [.d (.s (.int .i64 a0)), .d (.s (.int .i64 a1)), .d (.s (.bool a2)), .d (.s (.int .u8 a3))] [.d (.s (.int .i64 b0)), .d (.s (.int .i64 b1)), .d (.s (.bool b2)), .d (.s (.int .u8 b3))] K = K (.bool ((eqVs [.int .i64 a0, .int .i64 a1, .bool a2, .int .u8 a3] [.int .i64 b0, .int .i64 b1, .bool b2, .int .u8 b3]))) := agg_eql (xs := [.int .i64 a0, .int .i64 a1, .bool a2, .int .u8 a3]) (ys := [.int .i64 b0, .int .i64 b1, .bool b2, .int .u8 b3]) eqk8 (by decide) eqg8 rfl rfl K
@[simp] theorem ze8 : zeroT Try.prog 8 = some [.d (.s (.int .i64 0)), .d (.s (.int .i64 0)), .d (.s (.bool false)), .d (.s (.int .u8 0))] := by kernel_rfl
@[simp] theorem fi8_0 : fieldT Try.prog 8 0 = some (0, 1, false) := by kernel_rfl
@[simp] theorem fi8_1 : fieldT Try.prog 8 1 = some (1, 1, false) := by kernel_rfl
@[simp] theorem fi8_2 : fieldT Try.prog 8 2 = some (2, 1, false) := by kernel_rfl
@[simp] theorem fi8_3 : fieldT Try.prog 8 3 = some (3, 1, false) := by kernel_rfl
@[simp] theorem pl8 : placesT Try.prog 8 = some [(0, 1), (1, 1), (2, 1), (3, 1)] := by kernel_rfl
@[simp] theorem sz9 : szOf Try.prog 9 = some 1 := by kernel_rfl
@[simp] theorem ag9 : aggT Try.prog 9 = some false := by kernel_rfl
@[simp] theorem un9 : unitT Try.prog 9 = some 1 := by kernel_rfl
theorem kd9 : kindT Try.prog 12 9 = some [.str] := by kernel_rfl
@[simp] theorem ze9 : zeroT Try.prog 9 = some [.d (.s (.string ByteArray.empty))] := by kernel_rfl
@[simp] theorem sz10 : szOf Try.prog 10 = some 1 := by kernel_rfl
@[simp] theorem ag10 : aggT Try.prog 10 = some false := by kernel_rfl
@[simp] theorem un10 : unitT Try.prog 10 = some 1 := by kernel_rfl
theorem kd10 : kindT Try.prog 12 10 = some [.str] := by kernel_rfl
@[simp] theorem ze10 : zeroT Try.prog 10 = some [.d (.s (.string ByteArray.empty))] := by kernel_rfl
@[simp] theorem sz11 : szOf Try.prog 11 = some 1 := by kernel_rfl
@[simp] theorem ag11 : aggT Try.prog 11 = some false := by kernel_rfl
@[simp] theorem un11 : unitT Try.prog 11 = some 1 := by kernel_rfl
theorem kd11 : kindT Try.prog 12 11 = some [.str] := by kernel_rfl
@[simp] theorem ze11 : zeroT Try.prog 11 = some [.d (.s (.string ByteArray.empty))] := by kernel_rfl
@[simp] theorem sz12 : szOf Try.prog 12 = some 1 := by kernel_rfl
@[simp] theorem ag12 : aggT Try.prog 12 = some false := by kernel_rfl
@[simp] theorem un12 : unitT Try.prog 12 = some 1 := by kernel_rfl
theorem kd12 : kindT Try.prog 12 12 = some [.int .u64] := by kernel_rfl
@[simp] theorem ze12 : zeroT Try.prog 12 = some [.d (.s (.int .u64 0))] := by kernel_rfl
@[simp] theorem sz13 : szOf Try.prog 13 = some 2 := by kernel_rfl
@[simp] theorem ag13 : aggT Try.prog 13 = some true := by kernel_rfl
@[simp] theorem un13 : unitT Try.prog 13 = some 2 := by kernel_rfl
theorem kd13 : kindT Try.prog 12 13 = some [.str, .int .u64] := by kernel_rfl
@[simp] theorem ze13 : zeroT Try.prog 13 = some [.d (.s (.string ByteArray.empty)), .d (.s (.int .u64 0))] := by kernel_rfl
@[simp] theorem fi13_0 : fieldT Try.prog 13 0 = some (0, 1, false) := by kernel_rfl
@[simp] theorem fi13_1 : fieldT Try.prog 13 1 = some (1, 1, false) := by kernel_rfl
@[simp] theorem pl13 : placesT Try.prog 13 = some [(0, 1), (1, 1)] := by kernel_rfl
@[simp] theorem sz14 : szOf Try.prog 14 = some 2 := by kernel_rfl
@[simp] theorem ag14 : aggT Try.prog 14 = some true := by kernel_rfl
@[simp] theorem un14 : unitT Try.prog 14 = some 2 := by kernel_rfl
theorem kd14 : kindT Try.prog 12 14 = some [.str, .int .u64] := by kernel_rfl
@[simp] theorem ze14 : zeroT Try.prog 14 = some [.d (.s (.string ByteArray.empty)), .d (.s (.int .u64 0))] := by kernel_rfl
@[simp] theorem fi14_0 : fieldT Try.prog 14 0 = some (0, 1, false) := by kernel_rfl
@[simp] theorem fi14_1 : fieldT Try.prog 14 1 = some (1, 1, false) := by kernel_rfl
@[simp] theorem pl14 : placesT Try.prog 14 = some [(0, 1), (1, 1)] := by kernel_rfl
@[simp] theorem sz15 : szOf Try.prog 15 = some 1 := by kernel_rfl
@[simp] theorem ag15 : aggT Try.prog 15 = some false := by kernel_rfl
@[simp] theorem un15 : unitT Try.prog 15 = some 1 := by kernel_rfl
@[simp] theorem ze15 : zeroT Try.prog 15 = some [.d (.s (.pointer none))] := by kernel_rfl
@[simp] theorem sz16 : szOf Try.prog 16 = some 1 := by kernel_rfl
@[simp] theorem ag16 : aggT Try.prog 16 = some false := by kernel_rfl
@[simp] theorem un16 : unitT Try.prog 16 = some 1 := by kernel_rfl
@[simp] theorem ze16 : zeroT Try.prog 16 = some [.d (.s (.pointer none))] := by kernel_rfl
@[simp] theorem sz17 : szOf Try.prog 17 = some 1 := by kernel_rfl
@[simp] theorem ag17 : aggT Try.prog 17 = some false := by kernel_rfl
@[simp] theorem un17 : unitT Try.prog 17 = some 1 := by kernel_rfl
@[simp] theorem ze17 : zeroT Try.prog 17 = some [.d (.s (.pointer none))] := by kernel_rfl
@[simp] theorem sz18 : szOf Try.prog 18 = some 1 := by kernel_rfl
@[simp] theorem ag18 : aggT Try.prog 18 = some true := by kernel_rfl
@[simp] theorem un18 : unitT Try.prog 18 = some 1 := by kernel_rfl
@[simp] theorem ze18 : zeroT Try.prog 18 = some [.d (.s (.pointer none))] := by kernel_rfl
@[simp] theorem fi18_0 : fieldT Try.prog 18 0 = some (0, 1, false) := by kernel_rfl
@[simp] theorem pl18 : placesT Try.prog 18 = some [(0, 1)] := by kernel_rfl
@[simp] theorem sz19 : szOf Try.prog 19 = some 1 := by kernel_rfl
@[simp] theorem ag19 : aggT Try.prog 19 = some true := by kernel_rfl
@[simp] theorem un19 : unitT Try.prog 19 = some 1 := by kernel_rfl
@[simp] theorem ze19 : zeroT Try.prog 19 = some [.d (.s (.pointer none))] := by kernel_rfl
@[simp] theorem fi19_0 : fieldT Try.prog 19 0 = some (0, 1, false) := by kernel_rfl
@[simp] theorem pl19 : placesT Try.prog 19 = some [(0, 1)] := by kernel_rfl
@[simp] theorem sz20 : szOf Try.prog 20 = some 1 := by kernel_rfl
@[simp] theorem ag20 : aggT Try.prog 20 = some false := by kernel_rfl
@[simp] theorem un20 : unitT Try.prog 20 = some 1 := by kernel_rfl
@[simp] theorem ze20 : zeroT Try.prog 20 = some [.d (.s .nilIface)] := by kernel_rfl
@[simp] theorem sz21 : szOf Try.prog 21 = some 1 := by kernel_rfl
@[simp] theorem ag21 : aggT Try.prog 21 = some false := by kernel_rfl
@[simp] theorem un21 : unitT Try.prog 21 = some 1 := by kernel_rfl
theorem kd21 : kindT Try.prog 12 21 = some [.int .i32] := by kernel_rfl
@[simp] theorem ze21 : zeroT Try.prog 21 = some [.d (.s (.int .i32 0))] := by kernel_rfl
@[simp] theorem sz22 : szOf Try.prog 22 = some 1 := by kernel_rfl
@[simp] theorem ag22 : aggT Try.prog 22 = some false := by kernel_rfl
@[simp] theorem un22 : unitT Try.prog 22 = some 1 := by kernel_rfl
theorem kd22 : kindT Try.prog 12 22 = some [.slice [.int .u8]] := by kernel_rfl
@[simp] theorem sl22 : sliceT Try.prog 22 = some (5, 1, 1) := by kernel_rfl
@[simp] theorem ze22 : zeroT Try.prog 22 = some [.d .nil] := by kernel_rfl
@[simp] theorem sz23 : szOf Try.prog 23 = some 2 := by kernel_rfl
@[simp] theorem ag23 : aggT Try.prog 23 = some true := by kernel_rfl
@[simp] theorem un23 : unitT Try.prog 23 = some 2 := by kernel_rfl
theorem kd23 : kindT Try.prog 12 23 = some [.int .i64, .slice [.int .u8]] := by kernel_rfl
@[simp] theorem ze23 : zeroT Try.prog 23 = some [.d (.s (.int .i64 0)), .d .nil] := by kernel_rfl
@[simp] theorem fi23_0 : fieldT Try.prog 23 0 = some (0, 1, false) := by kernel_rfl
@[simp] theorem fi23_1 : fieldT Try.prog 23 1 = some (1, 1, false) := by kernel_rfl
@[simp] theorem pl23 : placesT Try.prog 23 = some [(0, 1), (1, 1)] := by kernel_rfl
@[simp] theorem sz24 : szOf Try.prog 24 = some 2 := by kernel_rfl
@[simp] theorem ag24 : aggT Try.prog 24 = some true := by kernel_rfl
@[simp] theorem un24 : unitT Try.prog 24 = some 2 := by kernel_rfl
theorem kd24 : kindT Try.prog 12 24 = some [.int .i64, .slice [.int .u8]] := by kernel_rfl
@[simp] theorem ze24 : zeroT Try.prog 24 = some [.d (.s (.int .i64 0)), .d .nil] := by kernel_rfl
@[simp] theorem fi24_0 : fieldT Try.prog 24 0 = some (0, 1, false) := by kernel_rfl
@[simp] theorem fi24_1 : fieldT Try.prog 24 1 = some (1, 1, false) := by kernel_rfl
@[simp] theorem pl24 : placesT Try.prog 24 = some [(0, 1), (1, 1)] := by kernel_rfl
@[simp] theorem sz25 : szOf Try.prog 25 = some 1 := by kernel_rfl
@[simp] theorem ag25 : aggT Try.prog 25 = some false := by kernel_rfl
@[simp] theorem un25 : unitT Try.prog 25 = some 1 := by kernel_rfl
@[simp] theorem ze25 : zeroT Try.prog 25 = some [.d (.s .nilFunc)] := by kernel_rfl
@[simp] theorem sz26 : szOf Try.prog 26 = some 1 := by kernel_rfl
@[simp] theorem ag26 : aggT Try.prog 26 = some false := by kernel_rfl
@[simp] theorem un26 : unitT Try.prog 26 = some 1 := by kernel_rfl
@[simp] theorem ze26 : zeroT Try.prog 26 = some [.d (.s .nilFunc)] := by kernel_rfl
@[simp] theorem sz27 : szOf Try.prog 27 = some 1 := by kernel_rfl
@[simp] theorem ag27 : aggT Try.prog 27 = some false := by kernel_rfl
@[simp] theorem un27 : unitT Try.prog 27 = some 1 := by kernel_rfl
@[simp] theorem ze27 : zeroT Try.prog 27 = some [.d (.s .nilFunc)] := by kernel_rfl
@[simp] theorem sz28 : szOf Try.prog 28 = some 1 := by kernel_rfl
@[simp] theorem ag28 : aggT Try.prog 28 = some false := by kernel_rfl
@[simp] theorem un28 : unitT Try.prog 28 = some 1 := by kernel_rfl
@[simp] theorem ze28 : zeroT Try.prog 28 = some [.d (.s .nilFunc)] := by kernel_rfl
@[simp] theorem sz29 : szOf Try.prog 29 = some 1 := by kernel_rfl
@[simp] theorem ag29 : aggT Try.prog 29 = some false := by kernel_rfl
@[simp] theorem un29 : unitT Try.prog 29 = some 1 := by kernel_rfl
@[simp] theorem ze29 : zeroT Try.prog 29 = some [.d (.s .nilFunc)] := by kernel_rfl
@[simp] theorem sz30 : szOf Try.prog 30 = some 1 := by kernel_rfl
@[simp] theorem ag30 : aggT Try.prog 30 = some false := by kernel_rfl
@[simp] theorem un30 : unitT Try.prog 30 = some 1 := by kernel_rfl
@[simp] theorem ze30 : zeroT Try.prog 30 = some [.d (.s .nilFunc)] := by kernel_rfl
@[simp] theorem sz31 : szOf Try.prog 31 = some 1 := by kernel_rfl
@[simp] theorem ag31 : aggT Try.prog 31 = some false := by kernel_rfl
@[simp] theorem un31 : unitT Try.prog 31 = some 1 := by kernel_rfl
@[simp] theorem ze31 : zeroT Try.prog 31 = some [.d (.s .nilFunc)] := by kernel_rfl
@[simp] theorem sz32 : szOf Try.prog 32 = some 1 := by kernel_rfl
@[simp] theorem ag32 : aggT Try.prog 32 = some false := by kernel_rfl
@[simp] theorem un32 : unitT Try.prog 32 = some 1 := by kernel_rfl
@[simp] theorem ze32 : zeroT Try.prog 32 = some [.d (.s .nilFunc)] := by kernel_rfl
@[simp] theorem sz33 : szOf Try.prog 33 = some 1 := by kernel_rfl
@[simp] theorem ag33 : aggT Try.prog 33 = some false := by kernel_rfl
@[simp] theorem un33 : unitT Try.prog 33 = some 1 := by kernel_rfl
@[simp] theorem sz34 : szOf Try.prog 34 = some 1 := by kernel_rfl
@[simp] theorem ag34 : aggT Try.prog 34 = some false := by kernel_rfl
@[simp] theorem un34 : unitT Try.prog 34 = some 1 := by kernel_rfl
@[simp] theorem ze34 : zeroT Try.prog 34 = some [.d (.s .nilFunc)] := by kernel_rfl
@[simp] theorem sz35 : szOf Try.prog 35 = some 1 := by kernel_rfl
@[simp] theorem ag35 : aggT Try.prog 35 = some false := by kernel_rfl
@[simp] theorem un35 : unitT Try.prog 35 = some 1 := by kernel_rfl
theorem kd35 : kindT Try.prog 12 35 = some [.slice [.slice [.int .u8]]] := by kernel_rfl
@[simp] theorem sl35 : sliceT Try.prog 35 = some (22, 1, 24) := by kernel_rfl
@[simp] theorem ze35 : zeroT Try.prog 35 = some [.d .nil] := by kernel_rfl
@[simp] theorem sz36 : szOf Try.prog 36 = some 3 := by kernel_rfl
@[simp] theorem ag36 : aggT Try.prog 36 = some true := by kernel_rfl
@[simp] theorem un36 : unitT Try.prog 36 = some 3 := by kernel_rfl
theorem kd36 : kindT Try.prog 12 36 = some [.int .i64, .slice [.slice [.int .u8]], .int .i64] := by kernel_rfl
@[simp] theorem ze36 : zeroT Try.prog 36 = some [.d (.s (.int .i64 0)), .d .nil, .d (.s (.int .i64 0))] := by kernel_rfl
@[simp] theorem fi36_0 : fieldT Try.prog 36 0 = some (0, 1, false) := by kernel_rfl
@[simp] theorem fi36_1 : fieldT Try.prog 36 1 = some (1, 1, false) := by kernel_rfl
@[simp] theorem fi36_2 : fieldT Try.prog 36 2 = some (2, 1, false) := by kernel_rfl
@[simp] theorem pl36 : placesT Try.prog 36 = some [(0, 1), (1, 1), (2, 1)] := by kernel_rfl
@[simp] theorem sz37 : szOf Try.prog 37 = some 3 := by kernel_rfl
@[simp] theorem ag37 : aggT Try.prog 37 = some true := by kernel_rfl
@[simp] theorem un37 : unitT Try.prog 37 = some 3 := by kernel_rfl
theorem kd37 : kindT Try.prog 12 37 = some [.int .i64, .slice [.slice [.int .u8]], .int .i64] := by kernel_rfl
@[simp] theorem ze37 : zeroT Try.prog 37 = some [.d (.s (.int .i64 0)), .d .nil, .d (.s (.int .i64 0))] := by kernel_rfl
@[simp] theorem fi37_0 : fieldT Try.prog 37 0 = some (0, 1, false) := by kernel_rfl
@[simp] theorem fi37_1 : fieldT Try.prog 37 1 = some (1, 1, false) := by kernel_rfl
@[simp] theorem fi37_2 : fieldT Try.prog 37 2 = some (2, 1, false) := by kernel_rfl
@[simp] theorem pl37 : placesT Try.prog 37 = some [(0, 1), (1, 1), (2, 1)] := by kernel_rfl
@[simp] theorem sz38 : szOf Try.prog 38 = some 1 := by kernel_rfl
@[simp] theorem ag38 : aggT Try.prog 38 = some false := by kernel_rfl
@[simp] theorem un38 : unitT Try.prog 38 = some 1 := by kernel_rfl
@[simp] theorem ze38 : zeroT Try.prog 38 = some [.d (.s .nilFunc)] := by kernel_rfl
@[simp] theorem sz39 : szOf Try.prog 39 = some 1 := by kernel_rfl
@[simp] theorem ag39 : aggT Try.prog 39 = some false := by kernel_rfl
@[simp] theorem un39 : unitT Try.prog 39 = some 1 := by kernel_rfl
@[simp] theorem ze39 : zeroT Try.prog 39 = some [.d (.s .nilFunc)] := by kernel_rfl
@[simp] theorem sz40 : szOf Try.prog 40 = some 1 := by kernel_rfl
@[simp] theorem ag40 : aggT Try.prog 40 = some false := by kernel_rfl
@[simp] theorem un40 : unitT Try.prog 40 = some 1 := by kernel_rfl
@[simp] theorem ze40 : zeroT Try.prog 40 = some [.d (.s .nilFunc)] := by kernel_rfl
@[simp] theorem sz41 : szOf Try.prog 41 = some 1 := by kernel_rfl
@[simp] theorem ag41 : aggT Try.prog 41 = some false := by kernel_rfl
@[simp] theorem un41 : unitT Try.prog 41 = some 1 := by kernel_rfl
@[simp] theorem ze41 : zeroT Try.prog 41 = some [.d (.s .nilFunc)] := by kernel_rfl
@[simp] theorem sz42 : szOf Try.prog 42 = some 1 := by kernel_rfl
@[simp] theorem ag42 : aggT Try.prog 42 = some false := by kernel_rfl
@[simp] theorem un42 : unitT Try.prog 42 = some 1 := by kernel_rfl
@[simp] theorem ze42 : zeroT Try.prog 42 = some [.d (.s .nilFunc)] := by kernel_rfl
@[simp] theorem sz43 : szOf Try.prog 43 = some 1 := by kernel_rfl
@[simp] theorem ag43 : aggT Try.prog 43 = some false := by kernel_rfl
@[simp] theorem un43 : unitT Try.prog 43 = some 1 := by kernel_rfl
@[simp] theorem ze43 : zeroT Try.prog 43 = some [.d (.s (.pointer none))] := by kernel_rfl
@[simp] theorem sz44 : szOf Try.prog 44 = some 1 := by kernel_rfl
@[simp] theorem ag44 : aggT Try.prog 44 = some false := by kernel_rfl
@[simp] theorem un44 : unitT Try.prog 44 = some 1 := by kernel_rfl
@[simp] theorem ze44 : zeroT Try.prog 44 = some [.d (.s .nilFunc)] := by kernel_rfl
@[simp] theorem sz45 : szOf Try.prog 45 = some 1 := by kernel_rfl
@[simp] theorem ag45 : aggT Try.prog 45 = some false := by kernel_rfl
@[simp] theorem un45 : unitT Try.prog 45 = some 1 := by kernel_rfl
@[simp] theorem ze45 : zeroT Try.prog 45 = some [.d (.s .nilFunc)] := by kernel_rfl
@[simp] theorem sz46 : szOf Try.prog 46 = some 1 := by kernel_rfl
@[simp] theorem ag46 : aggT Try.prog 46 = some false := by kernel_rfl
@[simp] theorem un46 : unitT Try.prog 46 = some 1 := by kernel_rfl
@[simp] theorem ze46 : zeroT Try.prog 46 = some [.d (.s .nilFunc)] := by kernel_rfl
@[simp] theorem sz47 : szOf Try.prog 47 = some 1 := by kernel_rfl
@[simp] theorem ag47 : aggT Try.prog 47 = some false := by kernel_rfl
@[simp] theorem un47 : unitT Try.prog 47 = some 1 := by kernel_rfl
@[simp] theorem ze47 : zeroT Try.prog 47 = some [.d (.s .nilFunc)] := by kernel_rfl
@[simp] theorem sz48 : szOf Try.prog 48 = some 1 := by kernel_rfl
@[simp] theorem ag48 : aggT Try.prog 48 = some false := by kernel_rfl
@[simp] theorem un48 : unitT Try.prog 48 = some 1 := by kernel_rfl
@[simp] theorem sz49 : szOf Try.prog 49 = some 1 := by kernel_rfl
@[simp] theorem ag49 : aggT Try.prog 49 = some false := by kernel_rfl
@[simp] theorem un49 : unitT Try.prog 49 = some 1 := by kernel_rfl
@[simp] theorem ze49 : zeroT Try.prog 49 = some [.d (.s .nilFunc)] := by kernel_rfl
@[simp] theorem sz50 : szOf Try.prog 50 = some 1 := by kernel_rfl
@[simp] theorem ag50 : aggT Try.prog 50 = some false := by kernel_rfl
@[simp] theorem un50 : unitT Try.prog 50 = some 1 := by kernel_rfl
@[simp] theorem sz51 : szOf Try.prog 51 = some 1 := by kernel_rfl
@[simp] theorem ag51 : aggT Try.prog 51 = some false := by kernel_rfl
@[simp] theorem un51 : unitT Try.prog 51 = some 1 := by kernel_rfl
@[simp] theorem ze51 : zeroT Try.prog 51 = some [.d (.s .nilFunc)] := by kernel_rfl
@[simp] theorem sz52 : szOf Try.prog 52 = some 1 := by kernel_rfl
@[simp] theorem ag52 : aggT Try.prog 52 = some false := by kernel_rfl
@[simp] theorem un52 : unitT Try.prog 52 = some 1 := by kernel_rfl
@[simp] theorem ze52 : zeroT Try.prog 52 = some [.d (.s .nilFunc)] := by kernel_rfl
@[simp] theorem sz53 : szOf Try.prog 53 = some 1 := by kernel_rfl
@[simp] theorem ag53 : aggT Try.prog 53 = some false := by kernel_rfl
@[simp] theorem un53 : unitT Try.prog 53 = some 1 := by kernel_rfl
@[simp] theorem ze53 : zeroT Try.prog 53 = some [.d (.s .nilFunc)] := by kernel_rfl
@[simp] theorem sz54 : szOf Try.prog 54 = some 1 := by kernel_rfl
@[simp] theorem ag54 : aggT Try.prog 54 = some false := by kernel_rfl
@[simp] theorem un54 : unitT Try.prog 54 = some 1 := by kernel_rfl
@[simp] theorem ze54 : zeroT Try.prog 54 = some [.d (.s .nilFunc)] := by kernel_rfl
@[simp] theorem sz55 : szOf Try.prog 55 = some 3 := by kernel_rfl
@[simp] theorem ag55 : aggT Try.prog 55 = some true := by kernel_rfl
@[simp] theorem un55 : unitT Try.prog 55 = some 3 := by kernel_rfl
theorem kd55 : kindT Try.prog 12 55 = some [.int .i64, .int .i64, .int .i64] := by kernel_rfl
theorem eqk55 : eqT Try.prog 8 55 = some (true, [.int .i64, .int .i64, .int .i64]) := by kernel_rfl
theorem eqg55 : (Try.prog).eqGuardType (Try.prog).depth 55 = false := by kernel_rfl
@[simp] theorem neqA55 (a0 b0 : Int) (a1 b1 : Int) (a2 b2 : Int) (K : Value → Prop) : aggBin Try.prog .neq 55 [.d (.s (.int .i64 a0)), .d (.s (.int .i64 a1)), .d (.s (.int .i64 a2))] [.d (.s (.int .i64 b0)), .d (.s (.int .i64 b1)), .d (.s (.int .i64 b2))] K = K (.bool (!(eqVs [.int .i64 a0, .int .i64 a1, .int .i64 a2] [.int .i64 b0, .int .i64 b1, .int .i64 b2]))) := agg_neq (xs := [.int .i64 a0, .int .i64 a1, .int .i64 a2]) (ys := [.int .i64 b0, .int .i64 b1, .int .i64 b2]) eqk55 (by decide) eqg55 rfl rfl K
@[simp] theorem eqlA55 (a0 b0 : Int) (a1 b1 : Int) (a2 b2 : Int) (K : Value → Prop) : aggBin Try.prog .eql 55 [.d (.s (.int .i64 a0)), .d (.s (.int .i64 a1)), .d (.s (.int .i64 a2))] [.d (.s (.int .i64 b0)), .d (.s (.int .i64 b1)), .d (.s (.int .i64 b2))] K = K (.bool ((eqVs [.int .i64 a0, .int .i64 a1, .int .i64 a2] [.int .i64 b0, .int .i64 b1, .int .i64 b2]))) := agg_eql (xs := [.int .i64 a0, .int .i64 a1, .int .i64 a2]) (ys := [.int .i64 b0, .int .i64 b1, .int .i64 b2]) eqk55 (by decide) eqg55 rfl rfl K
@[simp] theorem ze55 : zeroT Try.prog 55 = some [.d (.s (.int .i64 0)), .d (.s (.int .i64 0)), .d (.s (.int .i64 0))] := by kernel_rfl
@[simp] theorem fi55_0 : fieldT Try.prog 55 0 = some (0, 1, false) := by kernel_rfl
@[simp] theorem fi55_1 : fieldT Try.prog 55 1 = some (1, 1, false) := by kernel_rfl
@[simp] theorem fi55_2 : fieldT Try.prog 55 2 = some (2, 1, false) := by kernel_rfl
@[simp] theorem pl55 : placesT Try.prog 55 = some [(0, 1), (1, 1), (2, 1)] := by kernel_rfl
@[simp] theorem sz56 : szOf Try.prog 56 = some 3 := by kernel_rfl
@[simp] theorem ag56 : aggT Try.prog 56 = some true := by kernel_rfl
@[simp] theorem un56 : unitT Try.prog 56 = some 3 := by kernel_rfl
theorem kd56 : kindT Try.prog 12 56 = some [.int .i64, .int .i64, .int .i64] := by kernel_rfl
theorem eqk56 : eqT Try.prog 8 56 = some (true, [.int .i64, .int .i64, .int .i64]) := by kernel_rfl
theorem eqg56 : (Try.prog).eqGuardType (Try.prog).depth 56 = false := by kernel_rfl
@[simp] theorem neqA56 (a0 b0 : Int) (a1 b1 : Int) (a2 b2 : Int) (K : Value → Prop) : aggBin Try.prog .neq 56 [.d (.s (.int .i64 a0)), .d (.s (.int .i64 a1)), .d (.s (.int .i64 a2))] [.d (.s (.int .i64 b0)), .d (.s (.int .i64 b1)), .d (.s (.int .i64 b2))] K = K (.bool (!(eqVs [.int .i64 a0, .int .i64 a1, .int .i64 a2] [.int .i64 b0, .int .i64 b1, .int .i64 b2]))) := agg_neq (xs := [.int .i64 a0, .int .i64 a1, .int .i64 a2]) (ys := [.int .i64 b0, .int .i64 b1, .int .i64 b2]) eqk56 (by decide) eqg56 rfl rfl K
@[simp] theorem eqlA56 (a0 b0 : Int) (a1 b1 : Int) (a2 b2 : Int) (K : Value → Prop) : aggBin Try.prog .eql 56 [.d (.s (.int .i64 a0)), .d (.s (.int .i64 a1)), .d (.s (.int .i64 a2))] [.d (.s (.int .i64 b0)), .d (.s (.int .i64 b1)), .d (.s (.int .i64 b2))] K = K (.bool ((eqVs [.int .i64 a0, .int .i64 a1, .int .i64 a2] [.int .i64 b0, .int .i64 b1, .int .i64 b2]))) := agg_eql (xs := [.int .i64 a0, .int .i64 a1, .int .i64 a2]) (ys := [.int .i64 b0, .int .i64 b1, .int .i64 b2]) eqk56 (by decide) eqg56 rfl rfl K
@[simp] theorem ze56 : zeroT Try.prog 56 = some [.d (.s (.int .i64 0)), .d (.s (.int .i64 0)), .d (.s (.int .i64 0))] := by kernel_rfl
@[simp] theorem fi56_0 : fieldT Try.prog 56 0 = some (0, 1, false) := by kernel_rfl
@[simp] theorem fi56_1 : fieldT Try.prog 56 1 = some (1, 1, false) := by kernel_rfl
@[simp] theorem fi56_2 : fieldT Try.prog 56 2 = some (2, 1, false) := by kernel_rfl
@[simp] theorem pl56 : placesT Try.prog 56 = some [(0, 1), (1, 1), (2, 1)] := by kernel_rfl
@[simp] theorem sz57 : szOf Try.prog 57 = some 1 := by kernel_rfl
@[simp] theorem ag57 : aggT Try.prog 57 = some false := by kernel_rfl
@[simp] theorem un57 : unitT Try.prog 57 = some 1 := by kernel_rfl
@[simp] theorem ze57 : zeroT Try.prog 57 = some [.d (.s .nilFunc)] := by kernel_rfl
@[simp] theorem sz58 : szOf Try.prog 58 = some 2 := by kernel_rfl
@[simp] theorem ag58 : aggT Try.prog 58 = some true := by kernel_rfl
@[simp] theorem un58 : unitT Try.prog 58 = some 2 := by kernel_rfl
theorem kd58 : kindT Try.prog 12 58 = some [.int .i64, .int .i64] := by kernel_rfl
theorem eqk58 : eqT Try.prog 8 58 = some (true, [.int .i64, .int .i64]) := by kernel_rfl
theorem eqg58 : (Try.prog).eqGuardType (Try.prog).depth 58 = false := by kernel_rfl
@[simp] theorem neqA58 (a0 b0 : Int) (a1 b1 : Int) (K : Value → Prop) : aggBin Try.prog .neq 58 [.d (.s (.int .i64 a0)), .d (.s (.int .i64 a1))] [.d (.s (.int .i64 b0)), .d (.s (.int .i64 b1))] K = K (.bool (!(eqVs [.int .i64 a0, .int .i64 a1] [.int .i64 b0, .int .i64 b1]))) := agg_neq (xs := [.int .i64 a0, .int .i64 a1]) (ys := [.int .i64 b0, .int .i64 b1]) eqk58 (by decide) eqg58 rfl rfl K
@[simp] theorem eqlA58 (a0 b0 : Int) (a1 b1 : Int) (K : Value → Prop) : aggBin Try.prog .eql 58 [.d (.s (.int .i64 a0)), .d (.s (.int .i64 a1))] [.d (.s (.int .i64 b0)), .d (.s (.int .i64 b1))] K = K (.bool ((eqVs [.int .i64 a0, .int .i64 a1] [.int .i64 b0, .int .i64 b1]))) := agg_eql (xs := [.int .i64 a0, .int .i64 a1]) (ys := [.int .i64 b0, .int .i64 b1]) eqk58 (by decide) eqg58 rfl rfl K
@[simp] theorem ze58 : zeroT Try.prog 58 = some [.d (.s (.int .i64 0)), .d (.s (.int .i64 0))] := by kernel_rfl
@[simp] theorem fi58_0 : fieldT Try.prog 58 0 = some (0, 1, false) := by kernel_rfl
@[simp] theorem fi58_1 : fieldT Try.prog 58 1 = some (1, 1, false) := by kernel_rfl
@[simp] theorem pl58 : placesT Try.prog 58 = some [(0, 1), (1, 1)] := by kernel_rfl
@[simp] theorem sz59 : szOf Try.prog 59 = some 2 := by kernel_rfl
@[simp] theorem ag59 : aggT Try.prog 59 = some true := by kernel_rfl
@[simp] theorem un59 : unitT Try.prog 59 = some 2 := by kernel_rfl
theorem kd59 : kindT Try.prog 12 59 = some [.int .i64, .int .i64] := by kernel_rfl
theorem eqk59 : eqT Try.prog 8 59 = some (true, [.int .i64, .int .i64]) := by kernel_rfl
theorem eqg59 : (Try.prog).eqGuardType (Try.prog).depth 59 = false := by kernel_rfl
@[simp] theorem neqA59 (a0 b0 : Int) (a1 b1 : Int) (K : Value → Prop) : aggBin Try.prog .neq 59 [.d (.s (.int .i64 a0)), .d (.s (.int .i64 a1))] [.d (.s (.int .i64 b0)), .d (.s (.int .i64 b1))] K = K (.bool (!(eqVs [.int .i64 a0, .int .i64 a1] [.int .i64 b0, .int .i64 b1]))) := agg_neq (xs := [.int .i64 a0, .int .i64 a1]) (ys := [.int .i64 b0, .int .i64 b1]) eqk59 (by decide) eqg59 rfl rfl K
@[simp] theorem eqlA59 (a0 b0 : Int) (a1 b1 : Int) (K : Value → Prop) : aggBin Try.prog .eql 59 [.d (.s (.int .i64 a0)), .d (.s (.int .i64 a1))] [.d (.s (.int .i64 b0)), .d (.s (.int .i64 b1))] K = K (.bool ((eqVs [.int .i64 a0, .int .i64 a1] [.int .i64 b0, .int .i64 b1]))) := agg_eql (xs := [.int .i64 a0, .int .i64 a1]) (ys := [.int .i64 b0, .int .i64 b1]) eqk59 (by decide) eqg59 rfl rfl K
@[simp] theorem ze59 : zeroT Try.prog 59 = some [.d (.s (.int .i64 0)), .d (.s (.int .i64 0))] := by kernel_rfl
@[simp] theorem fi59_0 : fieldT Try.prog 59 0 = some (0, 1, false) := by kernel_rfl
@[simp] theorem fi59_1 : fieldT Try.prog 59 1 = some (1, 1, false) := by kernel_rfl
@[simp] theorem pl59 : placesT Try.prog 59 = some [(0, 1), (1, 1)] := by kernel_rfl
@[simp] theorem sz60 : szOf Try.prog 60 = some 1 := by kernel_rfl
@[simp] theorem ag60 : aggT Try.prog 60 = some false := by kernel_rfl
@[simp] theorem un60 : unitT Try.prog 60 = some 1 := by kernel_rfl
@[simp] theorem ze60 : zeroT Try.prog 60 = some [.d (.s .nilFunc)] := by kernel_rfl
@[simp] theorem sz61 : szOf Try.prog 61 = some 2 := by kernel_rfl
@[simp] theorem ag61 : aggT Try.prog 61 = some true := by kernel_rfl
@[simp] theorem un61 : unitT Try.prog 61 = some 2 := by kernel_rfl
theorem kd61 : kindT Try.prog 12 61 = some [.slice [.int .u8], .int .i64] := by kernel_rfl
@[simp] theorem ze61 : zeroT Try.prog 61 = some [.d .nil, .d (.s (.int .i64 0))] := by kernel_rfl
@[simp] theorem fi61_0 : fieldT Try.prog 61 0 = some (0, 1, false) := by kernel_rfl
@[simp] theorem fi61_1 : fieldT Try.prog 61 1 = some (1, 1, false) := by kernel_rfl
@[simp] theorem pl61 : placesT Try.prog 61 = some [(0, 1), (1, 1)] := by kernel_rfl
@[simp] theorem sz62 : szOf Try.prog 62 = some 2 := by kernel_rfl
@[simp] theorem ag62 : aggT Try.prog 62 = some true := by kernel_rfl
@[simp] theorem un62 : unitT Try.prog 62 = some 2 := by kernel_rfl
theorem kd62 : kindT Try.prog 12 62 = some [.slice [.int .u8], .int .i64] := by kernel_rfl
@[simp] theorem ze62 : zeroT Try.prog 62 = some [.d .nil, .d (.s (.int .i64 0))] := by kernel_rfl
@[simp] theorem fi62_0 : fieldT Try.prog 62 0 = some (0, 1, false) := by kernel_rfl
@[simp] theorem fi62_1 : fieldT Try.prog 62 1 = some (1, 1, false) := by kernel_rfl
@[simp] theorem pl62 : placesT Try.prog 62 = some [(0, 1), (1, 1)] := by kernel_rfl
@[simp] theorem sz63 : szOf Try.prog 63 = some 1 := by kernel_rfl
@[simp] theorem ag63 : aggT Try.prog 63 = some false := by kernel_rfl
@[simp] theorem un63 : unitT Try.prog 63 = some 1 := by kernel_rfl
@[simp] theorem ze63 : zeroT Try.prog 63 = some [.d (.s .nilFunc)] := by kernel_rfl
@[simp] theorem sz64 : szOf Try.prog 64 = some 1 := by kernel_rfl
@[simp] theorem ag64 : aggT Try.prog 64 = some false := by kernel_rfl
@[simp] theorem un64 : unitT Try.prog 64 = some 1 := by kernel_rfl
@[simp] theorem ze64 : zeroT Try.prog 64 = some [.d (.s .nilFunc)] := by kernel_rfl
@[simp] theorem sz65 : szOf Try.prog 65 = some 1 := by kernel_rfl
@[simp] theorem ag65 : aggT Try.prog 65 = some false := by kernel_rfl
@[simp] theorem un65 : unitT Try.prog 65 = some 1 := by kernel_rfl
theorem kd65 : kindT Try.prog 12 65 = some [.slice [.int .i64]] := by kernel_rfl
@[simp] theorem sl65 : sliceT Try.prog 65 = some (2, 1, 8) := by kernel_rfl
@[simp] theorem ze65 : zeroT Try.prog 65 = some [.d .nil] := by kernel_rfl
@[simp] theorem sz66 : szOf Try.prog 66 = some 1 := by kernel_rfl
@[simp] theorem ag66 : aggT Try.prog 66 = some false := by kernel_rfl
@[simp] theorem un66 : unitT Try.prog 66 = some 1 := by kernel_rfl
@[simp] theorem ze66 : zeroT Try.prog 66 = some [.d (.s .nilFunc)] := by kernel_rfl
@[simp] theorem sz67 : szOf Try.prog 67 = some 1 := by kernel_rfl
@[simp] theorem ag67 : aggT Try.prog 67 = some false := by kernel_rfl
@[simp] theorem un67 : unitT Try.prog 67 = some 1 := by kernel_rfl
@[simp] theorem ze67 : zeroT Try.prog 67 = some [.d (.s .nilFunc)] := by kernel_rfl
@[simp] theorem sz68 : szOf Try.prog 68 = some 1 := by kernel_rfl
@[simp] theorem ag68 : aggT Try.prog 68 = some false := by kernel_rfl
@[simp] theorem un68 : unitT Try.prog 68 = some 1 := by kernel_rfl
@[simp] theorem ze68 : zeroT Try.prog 68 = some [.d (.s .nilFunc)] := by kernel_rfl
@[simp] theorem sz69 : szOf Try.prog 69 = some 1 := by kernel_rfl
@[simp] theorem ag69 : aggT Try.prog 69 = some false := by kernel_rfl
@[simp] theorem un69 : unitT Try.prog 69 = some 1 := by kernel_rfl
theorem kd69 : kindT Try.prog 12 69 = some [.slice [.int .i64, .int .i64, .int .i64]] := by kernel_rfl
@[simp] theorem sl69 : sliceT Try.prog 69 = some (56, 3, 24) := by kernel_rfl
@[simp] theorem ze69 : zeroT Try.prog 69 = some [.d .nil] := by kernel_rfl
@[simp] theorem sz70 : szOf Try.prog 70 = some 1 := by kernel_rfl
@[simp] theorem ag70 : aggT Try.prog 70 = some false := by kernel_rfl
@[simp] theorem un70 : unitT Try.prog 70 = some 1 := by kernel_rfl
@[simp] theorem ze70 : zeroT Try.prog 70 = some [.d (.s .nilFunc)] := by kernel_rfl
@[simp] theorem sz71 : szOf Try.prog 71 = some 1 := by kernel_rfl
@[simp] theorem ag71 : aggT Try.prog 71 = some false := by kernel_rfl
@[simp] theorem un71 : unitT Try.prog 71 = some 1 := by kernel_rfl
theorem kd71 : kindT Try.prog 12 71 = some [.int .u64] := by kernel_rfl
@[simp] theorem ze71 : zeroT Try.prog 71 = some [.d (.s (.int .u64 0))] := by kernel_rfl
@[simp] theorem sz72 : szOf Try.prog 72 = some 1 := by kernel_rfl
@[simp] theorem ag72 : aggT Try.prog 72 = some false := by kernel_rfl
@[simp] theorem un72 : unitT Try.prog 72 = some 1 := by kernel_rfl
@[simp] theorem ze72 : zeroT Try.prog 72 = some [.d (.s .nilFunc)] := by kernel_rfl
@[simp] theorem sz73 : szOf Try.prog 73 = some 1 := by kernel_rfl
@[simp] theorem ag73 : aggT Try.prog 73 = some false := by kernel_rfl
@[simp] theorem un73 : unitT Try.prog 73 = some 1 := by kernel_rfl
@[simp] theorem ze73 : zeroT Try.prog 73 = some [.d (.s .nilFunc)] := by kernel_rfl
@[simp] theorem sz74 : szOf Try.prog 74 = some 4 := by kernel_rfl
@[simp] theorem ag74 : aggT Try.prog 74 = some true := by kernel_rfl
@[simp] theorem un74 : unitT Try.prog 74 = some 4 := by kernel_rfl
@[simp] theorem ze74 : zeroT Try.prog 74 = some [.d (.s (.pointer none)), .d (.s (.pointer none)), .d (.s (.pointer none)), .d (.s (.string ByteArray.empty))] := by kernel_rfl
@[simp] theorem fi74_0 : fieldT Try.prog 74 0 = some (0, 1, false) := by kernel_rfl
@[simp] theorem fi74_1 : fieldT Try.prog 74 1 = some (1, 1, false) := by kernel_rfl
@[simp] theorem fi74_2 : fieldT Try.prog 74 2 = some (2, 1, false) := by kernel_rfl
@[simp] theorem fi74_3 : fieldT Try.prog 74 3 = some (3, 1, false) := by kernel_rfl
@[simp] theorem pl74 : placesT Try.prog 74 = some [(0, 1), (1, 1), (2, 1), (3, 1)] := by kernel_rfl
@[simp] theorem sz75 : szOf Try.prog 75 = some 4 := by kernel_rfl
@[simp] theorem ag75 : aggT Try.prog 75 = some true := by kernel_rfl
@[simp] theorem un75 : unitT Try.prog 75 = some 4 := by kernel_rfl
@[simp] theorem ze75 : zeroT Try.prog 75 = some [.d (.s (.pointer none)), .d (.s (.pointer none)), .d (.s (.pointer none)), .d (.s (.string ByteArray.empty))] := by kernel_rfl
@[simp] theorem fi75_0 : fieldT Try.prog 75 0 = some (0, 1, false) := by kernel_rfl
@[simp] theorem fi75_1 : fieldT Try.prog 75 1 = some (1, 1, false) := by kernel_rfl
@[simp] theorem fi75_2 : fieldT Try.prog 75 2 = some (2, 1, false) := by kernel_rfl
@[simp] theorem fi75_3 : fieldT Try.prog 75 3 = some (3, 1, false) := by kernel_rfl
@[simp] theorem pl75 : placesT Try.prog 75 = some [(0, 1), (1, 1), (2, 1), (3, 1)] := by kernel_rfl
@[simp] theorem sz76 : szOf Try.prog 76 = some 0 := by kernel_rfl
@[simp] theorem ag76 : aggT Try.prog 76 = some true := by kernel_rfl
@[simp] theorem un76 : unitT Try.prog 76 = some 1 := by kernel_rfl
@[simp] theorem pl76 : placesT Try.prog 76 = some [] := by kernel_rfl
@[simp] theorem ar76 : arrT Try.prog 76 = some (0, 16, 1) := by kernel_rfl
@[simp] theorem sl76 : sliceT Try.prog 76 = none := by kernel_rfl
@[simp] theorem ze76 : zeroT Try.prog 76 = some [] := by kernel_rfl
@[simp] theorem sz77 : szOf Try.prog 77 = some 0 := by kernel_rfl
@[simp] theorem ag77 : aggT Try.prog 77 = some true := by kernel_rfl
@[simp] theorem un77 : unitT Try.prog 77 = some 0 := by kernel_rfl
@[simp] theorem ze77 : zeroT Try.prog 77 = some [] := by kernel_rfl
@[simp] theorem fi77_0 : fieldT Try.prog 77 0 = some (0, 0, true) := by kernel_rfl
@[simp] theorem pl77 : placesT Try.prog 77 = some [(0, 0)] := by kernel_rfl
@[simp] theorem sz78 : szOf Try.prog 78 = some 0 := by kernel_rfl
@[simp] theorem ag78 : aggT Try.prog 78 = some true := by kernel_rfl
@[simp] theorem un78 : unitT Try.prog 78 = some 0 := by kernel_rfl
@[simp] theorem ze78 : zeroT Try.prog 78 = some [] := by kernel_rfl
@[simp] theorem fi78_0 : fieldT Try.prog 78 0 = some (0, 0, true) := by kernel_rfl
@[simp] theorem pl78 : placesT Try.prog 78 = some [(0, 0)] := by kernel_rfl
@[simp] theorem sz79 : szOf Try.prog 79 = some 1 := by kernel_rfl
@[simp] theorem ag79 : aggT Try.prog 79 = some false := by kernel_rfl
@[simp] theorem un79 : unitT Try.prog 79 = some 1 := by kernel_rfl
@[simp] theorem ze79 : zeroT Try.prog 79 = some [.d (.s .nilFunc)] := by kernel_rfl
@[simp] theorem sz80 : szOf Try.prog 80 = some 1 := by kernel_rfl
@[simp] theorem ag80 : aggT Try.prog 80 = some false := by kernel_rfl
@[simp] theorem un80 : unitT Try.prog 80 = some 1 := by kernel_rfl
theorem kd80 : kindT Try.prog 12 80 = some [.int .u32] := by kernel_rfl
@[simp] theorem ze80 : zeroT Try.prog 80 = some [.d (.s (.int .u32 0))] := by kernel_rfl
@[simp] theorem sz81 : szOf Try.prog 81 = some 1 := by kernel_rfl
@[simp] theorem ag81 : aggT Try.prog 81 = some false := by kernel_rfl
@[simp] theorem un81 : unitT Try.prog 81 = some 1 := by kernel_rfl
theorem kd81 : kindT Try.prog 12 81 = some [.int .u8] := by kernel_rfl
@[simp] theorem ze81 : zeroT Try.prog 81 = some [.d (.s (.int .u8 0))] := by kernel_rfl
@[simp] theorem sz82 : szOf Try.prog 82 = some 1 := by kernel_rfl
@[simp] theorem ag82 : aggT Try.prog 82 = some false := by kernel_rfl
@[simp] theorem un82 : unitT Try.prog 82 = some 1 := by kernel_rfl
theorem kd82 : kindT Try.prog 12 82 = some [.int .u8] := by kernel_rfl
@[simp] theorem ze82 : zeroT Try.prog 82 = some [.d (.s (.int .u8 0))] := by kernel_rfl
@[simp] theorem sz83 : szOf Try.prog 83 = some 1 := by kernel_rfl
@[simp] theorem ag83 : aggT Try.prog 83 = some false := by kernel_rfl
@[simp] theorem un83 : unitT Try.prog 83 = some 1 := by kernel_rfl
@[simp] theorem ze83 : zeroT Try.prog 83 = some [.d (.s .nilFunc)] := by kernel_rfl
@[simp] theorem sz84 : szOf Try.prog 84 = some 1 := by kernel_rfl
@[simp] theorem ag84 : aggT Try.prog 84 = some false := by kernel_rfl
@[simp] theorem un84 : unitT Try.prog 84 = some 1 := by kernel_rfl
@[simp] theorem ze84 : zeroT Try.prog 84 = some [.d (.s (.pointer none))] := by kernel_rfl
@[simp] theorem sz85 : szOf Try.prog 85 = some 1 := by kernel_rfl
@[simp] theorem ag85 : aggT Try.prog 85 = some false := by kernel_rfl
@[simp] theorem un85 : unitT Try.prog 85 = some 1 := by kernel_rfl
theorem kd85 : kindT Try.prog 12 85 = some [.int .i32] := by kernel_rfl
@[simp] theorem ze85 : zeroT Try.prog 85 = some [.d (.s (.int .i32 0))] := by kernel_rfl
@[simp] theorem sz86 : szOf Try.prog 86 = some 1 := by kernel_rfl
@[simp] theorem ag86 : aggT Try.prog 86 = some false := by kernel_rfl
@[simp] theorem un86 : unitT Try.prog 86 = some 1 := by kernel_rfl
theorem kd86 : kindT Try.prog 12 86 = some [.int .i32] := by kernel_rfl
@[simp] theorem ze86 : zeroT Try.prog 86 = some [.d (.s (.int .i32 0))] := by kernel_rfl
@[simp] theorem sz87 : szOf Try.prog 87 = some 11 := by kernel_rfl
@[simp] theorem ag87 : aggT Try.prog 87 = some true := by kernel_rfl
@[simp] theorem un87 : unitT Try.prog 87 = some 11 := by kernel_rfl
@[simp] theorem ze87 : zeroT Try.prog 87 = some [.d (.s (.int .u64 0)), .d (.s (.int .u64 0)), .d (.s (.int .u32 0)), .d (.s (.int .u8 0)), .d (.s (.int .u8 0)), .d (.s (.int .u8 0)), .d (.s (.int .u8 0)), .d (.s .nilFunc), .d (.s (.pointer none)), .d (.s (.int .i32 0)), .d (.s (.int .i32 0))] := by kernel_rfl
@[simp] theorem fi87_0 : fieldT Try.prog 87 0 = some (0, 1, false) := by kernel_rfl
@[simp] theorem fi87_1 : fieldT Try.prog 87 1 = some (1, 1, false) := by kernel_rfl
@[simp] theorem fi87_2 : fieldT Try.prog 87 2 = some (2, 1, false) := by kernel_rfl
@[simp] theorem fi87_3 : fieldT Try.prog 87 3 = some (3, 1, false) := by kernel_rfl
@[simp] theorem fi87_4 : fieldT Try.prog 87 4 = some (4, 1, false) := by kernel_rfl
@[simp] theorem fi87_5 : fieldT Try.prog 87 5 = some (5, 1, false) := by kernel_rfl
@[simp] theorem fi87_6 : fieldT Try.prog 87 6 = some (6, 1, false) := by kernel_rfl
@[simp] theorem fi87_7 : fieldT Try.prog 87 7 = some (7, 1, false) := by kernel_rfl
@[simp] theorem fi87_8 : fieldT Try.prog 87 8 = some (8, 1, false) := by kernel_rfl
@[simp] theorem fi87_9 : fieldT Try.prog 87 9 = some (9, 1, false) := by kernel_rfl
@[simp] theorem fi87_10 : fieldT Try.prog 87 10 = some (10, 1, false) := by kernel_rfl
@[simp] theorem pl87 : placesT Try.prog 87 = some [(0, 1), (1, 1), (2, 1), (3, 1), (4, 1), (5, 1), (6, 1), (7, 1), (8, 1), (9, 1), (10, 1)] := by kernel_rfl
@[simp] theorem sz88 : szOf Try.prog 88 = some 11 := by kernel_rfl
@[simp] theorem ag88 : aggT Try.prog 88 = some true := by kernel_rfl
@[simp] theorem un88 : unitT Try.prog 88 = some 11 := by kernel_rfl
@[simp] theorem ze88 : zeroT Try.prog 88 = some [.d (.s (.int .u64 0)), .d (.s (.int .u64 0)), .d (.s (.int .u32 0)), .d (.s (.int .u8 0)), .d (.s (.int .u8 0)), .d (.s (.int .u8 0)), .d (.s (.int .u8 0)), .d (.s .nilFunc), .d (.s (.pointer none)), .d (.s (.int .i32 0)), .d (.s (.int .i32 0))] := by kernel_rfl
@[simp] theorem fi88_0 : fieldT Try.prog 88 0 = some (0, 1, false) := by kernel_rfl
@[simp] theorem fi88_1 : fieldT Try.prog 88 1 = some (1, 1, false) := by kernel_rfl
@[simp] theorem fi88_2 : fieldT Try.prog 88 2 = some (2, 1, false) := by kernel_rfl
@[simp] theorem fi88_3 : fieldT Try.prog 88 3 = some (3, 1, false) := by kernel_rfl
@[simp] theorem fi88_4 : fieldT Try.prog 88 4 = some (4, 1, false) := by kernel_rfl
@[simp] theorem fi88_5 : fieldT Try.prog 88 5 = some (5, 1, false) := by kernel_rfl
@[simp] theorem fi88_6 : fieldT Try.prog 88 6 = some (6, 1, false) := by kernel_rfl
@[simp] theorem fi88_7 : fieldT Try.prog 88 7 = some (7, 1, false) := by kernel_rfl
@[simp] theorem fi88_8 : fieldT Try.prog 88 8 = some (8, 1, false) := by kernel_rfl
@[simp] theorem fi88_9 : fieldT Try.prog 88 9 = some (9, 1, false) := by kernel_rfl
@[simp] theorem fi88_10 : fieldT Try.prog 88 10 = some (10, 1, false) := by kernel_rfl
@[simp] theorem pl88 : placesT Try.prog 88 = some [(0, 1), (1, 1), (2, 1), (3, 1), (4, 1), (5, 1), (6, 1), (7, 1), (8, 1), (9, 1), (10, 1)] := by kernel_rfl
@[simp] theorem sz89 : szOf Try.prog 89 = some 1 := by kernel_rfl
@[simp] theorem ag89 : aggT Try.prog 89 = some false := by kernel_rfl
@[simp] theorem un89 : unitT Try.prog 89 = some 1 := by kernel_rfl
@[simp] theorem ze89 : zeroT Try.prog 89 = some [.d (.s (.pointer none))] := by kernel_rfl
@[simp] theorem ca2 : callable Try.prog 2 = true := by kernel_rfl
@[simp] theorem ca3 : callable Try.prog 3 = true := by kernel_rfl
@[simp] theorem ca4 : callable Try.prog 4 = true := by kernel_rfl
@[simp] theorem ca5 : callable Try.prog 5 = true := by kernel_rfl
@[simp] theorem ca6 : callable Try.prog 6 = true := by kernel_rfl
@[simp] theorem ca7 : callable Try.prog 7 = true := by kernel_rfl
@[simp] theorem ca8 : callable Try.prog 8 = true := by kernel_rfl
@[simp] theorem ca9 : callable Try.prog 9 = true := by kernel_rfl
@[simp] theorem ca10 : callable Try.prog 10 = true := by kernel_rfl
@[simp] theorem ca11 : callable Try.prog 11 = true := by kernel_rfl
@[simp] theorem ca12 : callable Try.prog 12 = true := by kernel_rfl
@[simp] theorem ca13 : callable Try.prog 13 = true := by kernel_rfl
@[simp] theorem ca14 : callable Try.prog 14 = true := by kernel_rfl
@[simp] theorem ca15 : callable Try.prog 15 = true := by kernel_rfl
@[simp] theorem ca16 : callable Try.prog 16 = true := by kernel_rfl
@[simp] theorem ca17 : callable Try.prog 17 = true := by kernel_rfl
@[simp] theorem ca18 : callable Try.prog 18 = true := by kernel_rfl
@[simp] theorem ca19 : callable Try.prog 19 = true := by kernel_rfl
@[simp] theorem ca20 : callable Try.prog 20 = true := by kernel_rfl
@[simp] theorem ca21 : callable Try.prog 21 = true := by kernel_rfl
@[simp] theorem ca22 : callable Try.prog 22 = true := by kernel_rfl
@[simp] theorem ca23 : callable Try.prog 23 = true := by kernel_rfl
@[simp] theorem ca24 : callable Try.prog 24 = true := by kernel_rfl
@[simp] theorem ca25 : callable Try.prog 25 = true := by kernel_rfl
@[simp] theorem ca26 : callable Try.prog 26 = true := by kernel_rfl
@[simp] theorem ca27 : callable Try.prog 27 = true := by kernel_rfl
@[simp] theorem ca28 : callable Try.prog 28 = true := by kernel_rfl
@[simp] theorem ca29 : callable Try.prog 29 = true := by kernel_rfl
@[simp] theorem ca30 : callable Try.prog 30 = true := by kernel_rfl
@[simp] theorem ca31 : callable Try.prog 31 = true := by kernel_rfl
@[simp] theorem ca32 : callable Try.prog 32 = true := by kernel_rfl
@[simp] theorem ca33 : callable Try.prog 33 = true := by kernel_rfl
@[simp] theorem ca34 : callable Try.prog 34 = true := by kernel_rfl
@[simp] theorem ca35 : callable Try.prog 35 = true := by kernel_rfl
@[simp] theorem ca36 : callable Try.prog 36 = true := by kernel_rfl
@[simp] theorem ca37 : callable Try.prog 37 = true := by kernel_rfl
@[simp] theorem ca38 : callable Try.prog 38 = true := by kernel_rfl
@[simp] theorem ca39 : callable Try.prog 39 = true := by kernel_rfl
@[simp] theorem ca40 : callable Try.prog 40 = true := by kernel_rfl
@[simp] theorem ca41 : callable Try.prog 41 = true := by kernel_rfl
@[simp] theorem ca42 : callable Try.prog 42 = true := by kernel_rfl
@[simp] theorem ca43 : callable Try.prog 43 = true := by kernel_rfl
@[simp] theorem ca44 : callable Try.prog 44 = true := by kernel_rfl
@[simp] theorem ca45 : callable Try.prog 45 = true := by kernel_rfl
@[simp] theorem ca46 : callable Try.prog 46 = true := by kernel_rfl
theorem mixed : Try.prog.follows .mixedOrders = true := by kernel_rfl
end Go.Proofs.Ytcfkmdapadejmaa
