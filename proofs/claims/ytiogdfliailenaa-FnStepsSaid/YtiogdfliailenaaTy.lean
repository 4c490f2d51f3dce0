/- Closed facts on the types and functions of the translation. -/
import Derived.Test.YtiogdfliailenaaProg
import Derived.KernelRfl
import Derived.Test.YtiogdfliailenaaK4
namespace Go.Proofs.Ytiogdfliailenaa
open Go Go.Abs Go.Proofs
@[simp] theorem sz0 : szOf Try.prog 0 = some 1 := by kernel_rfl
@[simp] theorem ag0 : aggT Try.prog 0 = some false := by kernel_rfl
@[simp] theorem un0 : unitT Try.prog 0 = some 1 := by kernel_rfl
@[simp] theorem sz1 : szOf Try.prog 1 = some 1 := by kernel_rfl
@[simp] theorem ag1 : aggT Try.prog 1 = some false := by kernel_rfl
@[simp] theorem un1 : unitT Try.prog 1 = some 1 := by kernel_rfl
@[simp] theorem ze1 : zeroT Try.prog 1 = some [.d (.s .nilFunc)] := by kernel_rfl
@[simp] theorem sz2 : szOf Try.prog 2 = some 1 := by kernel_rfl
@[simp] theorem ag2 : aggT Try.prog 2 = some false := by kernel_rfl
@[simp] theorem un2 : unitT Try.prog 2 = some 1 := by kernel_rfl
theorem kd2 : kindT Try.prog 12 2 = some [.int .i64] := by kernel_rfl
@[simp] theorem ze2 : zeroT Try.prog 2 = some [.d (.s (.int .i64 0))] := by kernel_rfl
@[simp] theorem sz3 : szOf Try.prog 3 = some 1 := by kernel_rfl
@[simp] theorem ag3 : aggT Try.prog 3 = some false := by kernel_rfl
@[simp] theorem un3 : unitT Try.prog 3 = some 1 := by kernel_rfl
theorem kd3 : kindT Try.prog 12 3 = some [.int .i64] := by kernel_rfl
@[simp] theorem ze3 : zeroT Try.prog 3 = some [.d (.s (.int .i64 0))] := by kernel_rfl
@[simp] theorem sz4 : szOf Try.prog 4 = some 1 := by kernel_rfl
@[simp] theorem ag4 : aggT Try.prog 4 = some false := by kernel_rfl
@[simp] theorem un4 : unitT Try.prog 4 = some 1 := by kernel_rfl
theorem kd4 : kindT Try.prog 12 4 = some [.bool] := by kernel_rfl
@[simp] theorem ze4 : zeroT Try.prog 4 = some [.d (.s (.bool false))] := by kernel_rfl
@[simp] theorem sz5 : szOf Try.prog 5 = some 1 := by kernel_rfl
@[simp] theorem ag5 : aggT Try.prog 5 = some false := by kernel_rfl
@[simp] theorem un5 : unitT Try.prog 5 = some 1 := by kernel_rfl
theorem kd5 : kindT Try.prog 12 5 = some [.int .u8] := by kernel_rfl
@[simp] theorem ze5 : zeroT Try.prog 5 = some [.d (.s (.int .u8 0))] := by kernel_rfl
@[simp] theorem sz6 : szOf Try.prog 6 = some 1 := by kernel_rfl
@[simp] theorem ag6 : aggT Try.prog 6 = some false := by kernel_rfl
@[simp] theorem un6 : unitT Try.prog 6 = some 1 := by kernel_rfl
theorem kd6 : kindT Try.prog 12 6 = some [.int .u8] := by kernel_rfl
@[simp] theorem ze6 : zeroT Try.prog 6 = some [.d (.s (.int .u8 0))] := by kernel_rfl
@[simp] theorem sz7 : szOf Try.prog 7 = some 4 := by kernel_rfl
@[simp] theorem ag7 : aggT Try.prog 7 = some true := by kernel_rfl
@[simp] theorem un7 : unitT Try.prog 7 = some 4 := by kernel_rfl
theorem kd7 : kindT Try.prog 12 7 = some [.int .i64, .int .i64, .bool, .int .u8] := by kernel_rfl
theorem eqk7 : eqT Try.prog 8 7 = some (true, [.int .i64, .int .i64, .bool, .int .u8]) := by kernel_rfl
theorem eqg7 : (Try.prog).eqGuardType (Try.prog).depth 7 = false := by kernel_rfl
@[simp] theorem neqA7 (a0 b0 : Int) (a1 b1 : Int) (a2 b2 : Bool) (a3 b3 : Int) (K : Value → Prop) : aggBin Try.prog .neq 7 [.d (.s (.int .i64 a0)), .d (.s (.int .i64 a1)), .d (.s (.bool a2)), .d (.s (.int .u8 a3))] [.d (.s (.int .i64 b0)), .d (.s (.int .i64 b1)), .d (.s (.bool b2)), .d (.s (.int .u8 b3))] K = K (.bool (!(eqVs [.int .i64 a0, .int .i64 a1, .bool a2, .int .u8 a3] [.int .i64 b0, .int .i64 b1, .bool b2, .int .u8 b3]))) := agg_neq (xs := [.int .i64 a0, .int .i64 a1, .bool a2, .int .u8 a3]) (ys := [.int .i64 b0, .int .i64 b1, .bool b2, .int .u8 b3]) eqk7 (by decide) eqg7 rfl rfl K
@[simp] theorem eqlA7 (a0 b0 : Int) (a1 b1 : Int) (a2 b2 : Bool) (a3 b3 : Int) (K : Value → Prop) : aggBin Try.prog .eql 7 [.d (.s (.int .i64 a0)), .d (.s (.int .i64 a1)), .d (.s (.bool a2)), .d (.s (.int .u8 a3))] [.d (.s (.int .i64 b0)), .d (.s (.int .i64 b1)), .d (.s (.bool b2)), .d (.s (.int .u8 b3))] K = K (.bool ((eqVs [.int .i64 a0, .int .i64 a1, .bool a2, .int .u8 a3] [.int .i64 b0, .int .i64 b1, .bool b2, .int .u8 b3]))) := agg_eql (xs := [.int .i64 a0, .int .i64 a1, .bool a2, .int .u8 a3]) (ys := [.int .i64 b0, .int .i64 b1, .bool b2, .int .u8 b3]) eqk7 (by decide) eqg7 rfl rfl K
@[simp] theorem ze7 : zeroT Try.prog 7 = some [.d (.s (.int .i64 0)), .d (.s (.int .i64 0)), .d (.s (.bool false)), .d (.s (.int .u8 0))] := by kernel_rfl
@[simp] theorem fi7_0 : fieldT Try.prog 7 0 = some (0, 1, false) := by kernel_rfl
@[simp] theorem fi7_1 : fieldT Try.prog 7 1 = some (1, 1, false) := by kernel_rfl
@[simp] theorem fi7_2 : fieldT Try.prog 7 2 = some (2, 1, false) := by kernel_rfl
@[simp] theorem fi7_3 : fieldT Try.prog 7 3 = some (3, 1, false) := by kernel_rfl
@[simp] theorem pl7 : placesT Try.prog 7 = some [(0, 1), (1, 1), (2, 1), (3, 1)] := by kernel_rfl
@[simp] theorem sz8 : szOf Try.prog 8 = some 4 := by kernel_rfl
@[simp] theorem ag8 : aggT Try.prog 8 = some true := by kernel_rfl
@[simp] theorem un8 : unitT Try.prog 8 = some 4 := by kernel_rfl
theorem kd8 : kindT Try.prog 12 8 = some [.int .i64, .int .i64, .bool, .int .u8] := by kernel_rfl
theorem eqk8 : eqT Try.prog 8 8 = some (true, [.int .i64, .int .i64, .bool, .int .u8]) := by kernel_rfl
theorem eqg8 : (Try.prog).eqGuardType (Try.prog).depth 8 = false := by kernel_rfl
@[simp] theorem neqA8 (a0 b0 : Int) (a1 b1 : Int) (a2 b2 : Bool) (a3 b3 : Int) (K : Value → Prop) : aggBin Try.prog .neq 8 [.d (.s (.int .i64 a0)), .d (.s (.int .i64 a1)), .d (.s (.bool a2)), .d (.s (.int .u8 a3))] [.d (.s (.int .i64 b0)), .d (.s (.int .i64 b1)), .d (.s (.bool b2)), .d (.s (.int .u8 b3))] K = K (.bool (!(eqVs [.int .i64 a0, .int .i64 a1, .bool a2, .int .u8 a3] [.int .i64 b0, .int .i64 b1, .bool b2, .int .u8 b3]))) := agg_neq (xs := [.int .i64 a0, .int .i64 a1, .bool a2, .int .u8 a3]) (ys := [.int .i64 b0, .int .i64 b1, .bool b2, .int .u8 b3]) eqk8 (by decide) eqg8 rfl rfl K
@[simp] theorem eqlA8 (a0 b0 : Int) (a1 b1 : Int) (a2 b2 : Bool) (a3 b3 : Int) (K : Value → Prop) : aggBin Try.prog .eql 8 [.d (.s (.int .i64 a0)), .d (.s (.int .i64 a1)), .d (.s (.bool a2)), .d (.s (.int .u8 a3))] [.d (.s (.int .i64 b0)), .d (.s (.int .i64 b1)), .d (.s (.bool b2)), .d (.s (.int .u8 b3))] K = K (.bool ((eqVs [.int .i64 a0, .int .i64 a1, .bool a2, .int .u8 a3] [.int .i64 b0, .int .i64 b1, .bool b2, .int .u8 b3]))) := agg_eql (xs := [.int .i64 a0, .int .i64 a1, .bool a2, .int .u8 a3]) (ys := [.int .i64 b0, .int .i64 b1, .bool b2, .int .u8 b3]) eqk8 (by decide) eqg8 rfl rfl K
@[simp] theorem ze8 : zeroT Try.prog 8 = some [.d (.s (.int .i64 0)), .d (.s (.int .i64 0)), .d (.s (.bool false)), .d (.s (.int .u8 0))] := by kernel_rfl
@[simp] theorem fi8_0 : fieldT Try.prog 8 0 = some (0, 1, false) := by kernel_rfl
@[simp] theorem fi8_1 : fieldT Try.prog 8 1 = some (1, 1, false) := by kernel_rfl
@[simp] theorem fi8_2 : fieldT Try.prog 8 2 = some (2, 1, false) := by kernel_rfl
@[simp] theorem fi8_3 : fieldT Try.prog 8 3 = some (3, 1, false) := by kernel_rfl
@[simp] theorem pl8 : placesT Try.prog 8 = some [(0, 1), (1, 1), (2, 1), (3, 1)] := by kernel_rfl
@[simp] theorem sz9 : szOf Try.prog 9 = some 1 := by kernel_rfl
@[simp] theorem ag9 : aggT Try.prog 9 = some false := by kernel_rfl
@[simp] theorem un9 : unitT Try.prog 9 = some 1 := by kernel_rfl
theorem kd9 : kindT Try.prog 12 9 = some [.str] := by kernel_rfl
@[simp] theorem ze9 : zeroT Try.prog 9 = some [.d (.s (.string ByteArray.empty))] := by kernel_rfl
@[simp] theorem sz10 : szOf Try.prog 10 = some 1 := by kernel_rfl
@[simp] theorem ag10 : aggT Try.prog 10 = some false := by kernel_rfl
@[simp] theorem un10 : unitT Try.prog 10 = some 1 := by kernel_rfl
theorem kd10 : kindT Try.prog 12 10 = some [.str] := by kernel_rfl
@[simp] theorem ze10 : zeroT Try.prog 10 = some [.d (.s (.string ByteArray.empty))] := by kernel_rfl
@[simp] theorem sz11 : szOf Try.prog 11 = some 1 := by kernel_rfl
@[simp] theorem ag11 : aggT Try.prog 11 = some false := by kernel_rfl
@[simp] theorem un11 : unitT Try.prog 11 = some 1 := by kernel_rfl
theorem kd11 : kindT Try.prog 12 11 = some [.str] := by kernel_rfl
@[simp] theorem ze11 : zeroT Try.prog 11 = some [.d (.s (.string ByteArray.empty))] := by kernel_rfl
@[simp] theorem sz12 : szOf Try.prog 12 = some 1 := by kernel_rfl
@[simp] theorem ag12 : aggT Try.prog 12 = some false := by kernel_rfl
@[simp] theorem un12 : unitT Try.prog 12 = some 1 := by kernel_rfl
theorem kd12 : kindT Try.prog 12 12 = some [.int .u64] := by kernel_rfl
@[simp] theorem ze12 : zeroT Try.prog 12 = some [.d (.s (.int .u64 0))] := by kernel_rfl
@[simp] theorem sz13 : szOf Try.prog 13 = some 2 := by kernel_rfl
@[simp] theorem ag13 : aggT Try.prog 13 = some true := by kernel_rfl
@[simp] theorem un13 : unitT Try.prog 13 = some 2 := by kernel_rfl
theorem kd13 : kindT Try.prog 12 13 = some [.str, .int .u64] := by kernel_rfl
@[simp] theorem ze13 : zeroT Try.prog 13 = some [.d (.s (.string ByteArray.empty)), .d (.s (.int .u64 0))] := by kernel_rfl
@[simp] theorem fi13_0 : fieldT Try.prog 13 0 = some (0, 1, false) := by kernel_rfl
@[simp] theorem fi13_1 : fieldT Try.prog 13 1 = some (1, 1, false) := by kernel_rfl
@[simp] theorem pl13 : placesT Try.prog 13 = some [(0, 1), (1, 1)] := by kernel_rfl
@[simp] theorem sz14 : szOf Try.prog 14 = some 2 := by kernel_rfl
@[simp] theorem ag14 : aggT Try.prog 14 = some true := by kernel_rfl
@[simp] theorem un14 : unitT Try.prog 14 = some 2 := by kernel_rfl
theorem kd14 : kindT Try.prog 12 14 = some [.str, .int .u64] := by kernel_rfl
@[simp] theorem ze14 : zeroT Try.prog 14 = some [.d (.s (.string ByteArray.empty)), .d (.s (.int .u64 0))] := by kernel_rfl
@[simp] theorem fi14_0 : fieldT Try.prog 14 0 = some (0, 1, false) := by kernel_rfl
@[simp] theorem fi14_1 : fieldT Try.prog 14 1 = some (1, 1, false) := by kernel_rfl
@[simp] theorem pl14 : placesT Try.prog 14 = some [(0, 1), (1, 1)] := by kernel_rfl
@[simp] theorem sz15 : szOf Try.prog 15 = some 1 := by kernel_rfl
@[simp] theorem ag15 : aggT Try.prog 15 = some false := by kernel_rfl
@[simp] theorem un15 : unitT Try.prog 15 = some 1 := by kernel_rfl
@[simp] theorem ze15 : zeroT Try.prog 15 = some [.d (.s (.pointer none))] := by kernel_rfl
@[simp] theorem sz16 : szOf Try.prog 16 = some 1 := by kernel_rfl
@[simp] theorem ag16 : aggT Try.prog 16 = some false := by kernel_rfl
@[simp] theorem un16 : unitT Try.prog 16 = some 1 := by kernel_rfl
@[simp] theorem ze16 : zeroT Try.prog 16 = some [.d (.s (.pointer none))] := by kernel_rfl
@[simp] theorem sz17 : szOf Try.prog 17 = some 1 := by kernel_rfl
@[simp] theorem ag17 : aggT Try.prog 17 = some false := by kernel_rfl
@[simp] theorem un17 : unitT Try.prog 17 = some 1 := by kernel_rfl
@[simp] theorem ze17 : zeroT Try.prog 17 = some [.d (.s (.pointer none))] := by kernel_rfl
@[simp] theorem sz18 : szOf Try.prog 18 = some 1 := by kernel_rfl
@[simp] theorem ag18 : aggT Try.prog 18 = some true := by kernel_rfl
@[simp] theorem un18 : unitT Try.prog 18 = some 1 := by kernel_rfl
@[simp] theorem ze18 : zeroT Try.prog 18 = some [.d (.s (.pointer none))] := by kernel_rfl
@[simp] theorem fi18_0 : fieldT Try.prog 18 0 = some (0, 1, false) := by kernel_rfl
@[simp] theorem pl18 : placesT Try.prog 18 = some [(0, 1)] := by kernel_rfl
@[simp] theorem sz19 : szOf Try.prog 19 = some 1 := by kernel_rfl
@[simp] theorem ag19 : aggT Try.prog 19 = some true := by kernel_rfl
@[simp] theorem un19 : unitT Try.prog 19 = some 1 := by kernel_rfl
@[simp] theorem ze19 : zeroT Try.prog 19 = some [.d (.s (.pointer none))] := by kernel_rfl
@[simp] theorem fi19_0 : fieldT Try.prog 19 0 = some (0, 1, false) := by kernel_rfl
@[simp] theorem pl19 : placesT Try.prog 19 = some [(0, 1)] := by kernel_rfl
@[simp] theorem sz20 : szOf Try.prog 20 = some 1 := by kernel_rfl
@[simp] theorem ag20 : aggT Try.prog 20 = some false := by kernel_rfl
@[simp] theorem un20 : unitT Try.prog 20 = some 1 := by kernel_rfl
@[simp] theorem ze20 : zeroT Try.prog 20 = some [.d (.s .nilIface)] := by kernel_rfl
@[simp] theorem sz21 : szOf Try.prog 21 = some 1 := by kernel_rfl
@[simp] theorem ag21 : aggT Try.prog 21 = some false := by kernel_rfl
@[simp] theorem un21 : unitT Try.prog 21 = some 1 := by kernel_rfl
theorem kd21 : kindT Try.prog 12 21 = some [.int .i32] := by kernel_rfl
@[simp] theorem ze21 : zeroT Try.prog 21 = some [.d (.s (.int .i32 0))] := by kernel_rfl
@[simp] theorem sz22 : szOf Try.prog 22 = some 1 := by kernel_rfl
@[simp] theorem ag22 : aggT Try.prog 22 = some false := by kernel_rfl
@[simp] theorem un22 : unitT Try.prog 22 = some 1 := by kernel_rfl
theorem kd22 : kindT Try.prog 12 22 = some [.slice [.int .u8]] := by kernel_rfl
@[simp] theorem sl22 : sliceT Try.prog 22 = some (5, 1, 1) := by kernel_rfl
@[simp] theorem ze22 : zeroT Try.prog 22 = some [.d .nil] := by kernel_rfl
@[simp] theorem sz23 : szOf Try.prog 23 = some 1 := by kernel_rfl
@[simp] theorem ag23 : aggT Try.prog 23 = some false := by kernel_rfl
@[simp] theorem un23 : unitT Try.prog 23 = some 1 := by kernel_rfl
@[simp] theorem ze23 : zeroT Try.prog 23 = some [.d (.s .nilFunc)] := by kernel_rfl
@[simp] theorem sz24 : szOf Try.prog 24 = some 1 := by kernel_rfl
@[simp] theorem ag24 : aggT Try.prog 24 = some false := by kernel_rfl
@[simp] theorem un24 : unitT Try.prog 24 = some 1 := by kernel_rfl
theorem kd24 : kindT Try.prog 12 24 = some [.slice [.int .i64, .int .i64, .int .i64, .int .i64, .int .i64, .int .i64, .int .i64]] := by kernel_rfl
@[simp] theorem sl24 : sliceT Try.prog 24 = some (30, 7, 56) := by kernel_rfl
@[simp] theorem ze24 : zeroT Try.prog 24 = some [.d .nil] := by kernel_rfl
@[simp] theorem sz25 : szOf Try.prog 25 = some 2 := by kernel_rfl
@[simp] theorem ag25 : aggT Try.prog 25 = some true := by kernel_rfl
@[simp] theorem un25 : unitT Try.prog 25 = some 2 := by kernel_rfl
theorem kd25 : kindT Try.prog 12 25 = some [.int .i64, .slice [.int .i64, .int .i64, .int .i64, .int .i64, .int .i64, .int .i64, .int .i64]] := by kernel_rfl
@[simp] theorem ze25 : zeroT Try.prog 25 = some [.d (.s (.int .i64 0)), .d .nil] := by kernel_rfl
@[simp] theorem fi25_0 : fieldT Try.prog 25 0 = some (0, 1, false) := by kernel_rfl
@[simp] theorem fi25_1 : fieldT Try.prog 25 1 = some (1, 1, false) := by kernel_rfl
@[simp] theorem pl25 : placesT Try.prog 25 = some [(0, 1), (1, 1)] := by kernel_rfl
@[simp] theorem sz26 : szOf Try.prog 26 = some 2 := by kernel_rfl
@[simp] theorem ag26 : aggT Try.prog 26 = some true := by kernel_rfl
@[simp] theorem un26 : unitT Try.prog 26 = some 2 := by kernel_rfl
theorem kd26 : kindT Try.prog 12 26 = some [.int .i64, .slice [.int .i64, .int .i64, .int .i64, .int .i64, .int .i64, .int .i64, .int .i64]] := by kernel_rfl
@[simp] theorem ze26 : zeroT Try.prog 26 = some [.d (.s (.int .i64 0)), .d .nil] := by kernel_rfl
@[simp] theorem fi26_0 : fieldT Try.prog 26 0 = some (0, 1, false) := by kernel_rfl
@[simp] theorem fi26_1 : fieldT Try.prog 26 1 = some (1, 1, false) := by kernel_rfl
@[simp] theorem pl26 : placesT Try.prog 26 = some [(0, 1), (1, 1)] := by kernel_rfl
@[simp] theorem sz27 : szOf Try.prog 27 = some 1 := by kernel_rfl
@[simp] theorem ag27 : aggT Try.prog 27 = some false := by kernel_rfl
@[simp] theorem un27 : unitT Try.prog 27 = some 1 := by kernel_rfl
@[simp] theorem sz28 : szOf Try.prog 28 = some 1 := by kernel_rfl
@[simp] theorem ag28 : aggT Try.prog 28 = some false := by kernel_rfl
@[simp] theorem un28 : unitT Try.prog 28 = some 1 := by kernel_rfl
@[simp] theorem ze28 : zeroT Try.prog 28 = some [.d (.s .nilFunc)] := by kernel_rfl
@[simp] theorem sz29 : szOf Try.prog 29 = some 7 := by kernel_rfl
@[simp] theorem ag29 : aggT Try.prog 29 = some true := by kernel_rfl
@[simp] theorem un29 : unitT Try.prog 29 = some 7 := by kernel_rfl
theorem kd29 : kindT Try.prog 12 29 = some [.int .i64, .int .i64, .int .i64, .int .i64, .int .i64, .int .i64, .int .i64] := by kernel_rfl
theorem eqk29 : eqT Try.prog 8 29 = some (true, [.int .i64, .int .i64, .int .i64, .int .i64, .int .i64, .int .i64, .int .i64]) := by kernel_rfl
theorem eqg29 : (Try.prog).eqGuardType (Try.prog).depth 29 = false := by kernel_rfl
@[simp] theorem neqA29 (a0 b0 : Int) (a1 b1 : Int) (a2 b2 : Int) (a3 b3 : Int) (a4 b4 : Int) (a5 b5 : Int) (a6 b6 : Int) (K : Value → Prop) : aggBin Try.prog .neq 29 [.d (.s (.int .i64 a0)), .d (.s (.int .i64 a1)), .d (.s (.int .i64 a2)), .d (.s (.int .i64 a3)), .d (.s (.int .i64 a4)), .d (.s (.int .i64 a5)), .d (.s (.int .i64 a6))] [.d (.s (.int .i64 b0)), .d (.s (.int .i64 b1)), .d (.s (.int .i64 b2)), .d (.s (.int .i64 b3)), .d (.s (.int .i64 b4)), .d (.s (.int .i64 b5)), .d (.s (.int .i64 b6))] K = K (.bool (!(eqVs [.int .i64 a0, .int .i64 a1, .int .i64 a2, .int .i64 a3, .int .i64 a4, .int .i64 a5, .int .i64 a6] [.int .i64 b0, .int .i64 b1, .int .i64 b2, .int .i64 b3, .int .i64 b4, .int .i64 b5, .int .i64 b6]))) := agg_neq (xs := [.int .i64 a0, .int .i64 a1, .int .i64 a2, .int .i64 a3, .int .i64 a4, .int .i64 a5, .int .i64 a6]) (ys := [.int .i64 b0, .int .i64 b1, .int .i64 b2, .int .i64 b3, .int .i64 b4, .int .i64 b5, .int .i64 b6]) eqk29 (by decide) eqg29 rfl rfl K
@[simp] theorem eqlA29 (a0 b0 : Int) (a1 b1 : Int) (a2 b2 : Int) (a3 b3 : Int) (a4 b4 : Int) (a5 b5 : Int) (a6 b6 : Int) (K : Value → Prop) : aggBin Try.prog .eql 29 [.d (.s (.int .i64 a0)), .d (.s (.int .i64 a1)), .d (.s (.int .i64 a2)), .d (.s (.int .i64 a3)), .d (.s (.int .i64 a4)), .d (.s (.int .i64 a5)), .d (.s (.int .i64 a6))] [.d (.s (.int .i64 b0)), .d (.s (.int .i64 b1)), .d (.s (.int .i64 b2)), .d (.s (.int .i64 b3)), .d (.s (.int .i64 b4)), .d (.s (.int .i64 b5)), .d (.s (.int .i64 b6))] K = K (.bool ((eqVs [.int .i64 a0, .int .i64 a1, .int .i64 a2, .int .i64 a3, .int .i64 a4, .int .i64 a5, .int .i64 a6] [.int .i64 b0, .int .i64 b1, .int .i64 b2, .int .i64 b3, .int .i64 b4, .int .i64 b5, .int .i64 b6]))) := agg_eql (xs := [.int .i64 a0, .int .i64 a1, .int .i64 a2, .int .i64 a3, .int .i64 a4, .int .i64 a5, .int .i64 a6]) (ys := [.int .i64 b0, .int .i64 b1, .int .i64 b2, .int .i64 b3, .int .i64 b4, .int .i64 b5, .int .i64 b6]) eqk29 (by decide) eqg29 rfl rfl K
@[simp] theorem ze29 : zeroT Try.prog 29 = some [.d (.s (.int .i64 0)), .d (.s (.int .i64 0)), .d (.s (.int .i64 0)), .d (.s (.int .i64 0)), .d (.s (.int .i64 0)), .d (.s (.int .i64 0)), .d (.s (.int .i64 0))] := by kernel_rfl
@[simp] theorem fi29_0 : fieldT Try.prog 29 0 = some (0, 1, false) := by kernel_rfl
@[simp] theorem fi29_1 : fieldT Try.prog 29 1 = some (1, 1, false) := by kernel_rfl
@[simp] theorem fi29_2 : fieldT Try.prog 29 2 = some (2, 1, false) := by kernel_rfl
@[simp] theorem fi29_3 : fieldT Try.prog 29 3 = some (3, 1, false) := by kernel_rfl
@[simp] theorem fi29_4 : fieldT Try.prog 29 4 = some (4, 1, false) := by kernel_rfl
@[simp] theorem fi29_5 : fieldT Try.prog 29 5 = some (5, 1, false) := by kernel_rfl
@[simp] theorem fi29_6 : fieldT Try.prog 29 6 = some (6, 1, false) := by kernel_rfl
@[simp] theorem pl29 : placesT Try.prog 29 = some [(0, 1), (1, 1), (2, 1), (3, 1), (4, 1), (5, 1), (6, 1)] := by kernel_rfl
@[simp] theorem sz30 : szOf Try.prog 30 = some 7 := by kernel_rfl
@[simp] theorem ag30 : aggT Try.prog 30 = some true := by kernel_rfl
@[simp] theorem un30 : unitT Try.prog 30 = some 7 := by kernel_rfl
theorem kd30 : kindT Try.prog 12 30 = some [.int .i64, .int .i64, .int .i64, .int .i64, .int .i64, .int .i64, .int .i64] := by kernel_rfl
theorem eqk30 : eqT Try.prog 8 30 = some (true, [.int .i64, .int .i64, .int .i64, .int .i64, .int .i64, .int .i64, .int .i64]) := by kernel_rfl
theorem eqg30 : (Try.prog).eqGuardType (Try.prog).depth 30 = false := by kernel_rfl
@[simp] theorem neqA30 (a0 b0 : Int) (a1 b1 : Int) (a2 b2 : Int) (a3 b3 : Int) (a4 b4 : Int) (a5 b5 : Int) (a6 b6 : Int) (K : Value → Prop) : aggBin Try.prog .neq 30 [.d (.s (.int .i64 a0)), .d (.s (.int .i64 a1)), .d (.s (.int .i64 a2)), .d (.s (.int .i64 a3)), .d (.s (.int .i64 a4)), .d (.s (.int .i64 a5)), .d (.s (.int .i64 a6))] [.d (.s (.int .i64 b0)), .d (.s (.int .i64 b1)), .d (.s (.int .i64 b2)), .d (.s (.int .i64 b3)), .d (.s (.int .i64 b4)), .d (.s (.int .i64 b5)), .d (.s (.int .i64 b6))] K = K (.bool (!(eqVs [.int .i64 a0, .int .i64 a1, .int .i64 a2, .int .i64 a3, .int .i64 a4, .int .i64 a5, .int .i64 a6] [.int .i64 b0, .int .i64 b1, .int .i64 b2, .int .i64 b3, .int .i64 b4, .int .i64 b5, .int .i64 b6]))) := agg_neq (xs := [.int .i64 a0, .int .i64 a1, .int .i64 a2, .int .i64 a3, .int .i64 a4, .int .i64 a5, .int .i64 a6]) (ys := [.int .i64 b0, .int .i64 b1, .int .i64 b2, .int .i64 b3, .int .i64 b4, .int .i64 b5, .int .i64 b6]) eqk30 (by decide) eqg30 rfl rfl K
@[simp] theorem eqlA30 (a0 b0 : Int) (a1 b1 : Int) (a2 b2 : Int) (a3 b3 : Int) (a4 b4 : Int) (a5 b5 : Int) (a6 b6 : Int) (K : Value → Prop) : aggBin Try.prog .eql 30 [.d (.s (.int .i64 a0)), .d (.s (.int .i64 a1)), .d (.s (.int .i64 a2)), .d (.s (.int .i64 a3)), .d (.s (.int .i64 a4)), .d (.s (.int .i64 a5)), .d (.s (.int .i64 a6))] [.d (.s (.int .i64 b0)), .d (.s (.int .i64 b1)), .d (.s (.int .i64 b2)), .d (.s (.int .i64 b3)), .d (.s (.int .i64 b4)), .d (.s (.int .i64 b5)), .d (.s (.int .i64 b6))] K = K (.bool ((eqVs [.int .i64 a0, .int .i64 a1, .int .i64 a2, .int .i64 a3, .int .i64 a4, .int .i64 a5, .int .i64 a6] [.int .i64 b0, .int .i64 b1, .int .i64 b2, .int .i64 b3, .int .i64 b4, .int .i64 b5, .int .i64 b6]))) := agg_eql (xs := [.int .i64 a0, .int .i64 a1, .int .i64 a2, .int .i64 a3, .int .i64 a4, .int .i64 a5, .int .i64 a6]) (ys := [.int .i64 b0, .int .i64 b1, .int .i64 b2, .int .i64 b3, .int .i64 b4, .int .i64 b5, .int .i64 b6]) eqk30 (by decide) eqg30 rfl rfl K
@[simp] theorem ze30 : zeroT Try.prog 30 = some [.d (.s (.int .i64 0)), .d (.s (.int .i64 0)), .d (.s (.int .i64 0)), .d (.s (.int .i64 0)), .d (.s (.int .i64 0)), .d (.s (.int .i64 0)), .d (.s (.int .i64 0))] := by kernel_rfl
@[simp] theorem fi30_0 : fieldT Try.prog 30 0 = some (0, 1, false) := by kernel_rfl
@[simp] theorem fi30_1 : fieldT Try.prog 30 1 = some (1, 1, false) := by kernel_rfl
@[simp] theorem fi30_2 : fieldT Try.prog 30 2 = some (2, 1, false) := by kernel_rfl
@[simp] theorem fi30_3 : fieldT Try.prog 30 3 = some (3, 1, false) := by kernel_rfl
@[simp] theorem fi30_4 : fieldT Try.prog 30 4 = some (4, 1, false) := by kernel_rfl
@[simp] theorem fi30_5 : fieldT Try.prog 30 5 = some (5, 1, false) := by kernel_rfl
@[simp] theorem fi30_6 : fieldT Try.prog 30 6 = some (6, 1, false) := by kernel_rfl
@[simp] theorem pl30 : placesT Try.prog 30 = some [(0, 1), (1, 1), (2, 1), (3, 1), (4, 1), (5, 1), (6, 1)] := by kernel_rfl
@[simp] theorem sz31 : szOf Try.prog 31 = some 10 := by kernel_rfl
@[simp] theorem ag31 : aggT Try.prog 31 = some true := by kernel_rfl
@[simp] theorem un31 : unitT Try.prog 31 = some 10 := by kernel_rfl
theorem kd31 : kindT Try.prog 12 31 = some [.int .i64, .int .i64, .int .i64, .int .i64, .int .i64, .int .i64, .int .i64, .int .i64, .int .i64, .int .i64] := by kernel_rfl
theorem eqk31 : eqT Try.prog 8 31 = some (true, [.int .i64, .int .i64, .int .i64, .int .i64, .int .i64, .int .i64, .int .i64, .int .i64, .int .i64, .int .i64]) := by kernel_rfl
theorem eqg31 : (Try.prog).eqGuardType (Try.prog).depth 31 = false := by kernel_rfl
@[simp] theorem neqA31 (a0 b0 : Int) (a1 b1 : Int) (a2 b2 : Int) (a3 b3 : Int) (a4 b4 : Int) (a5 b5 : Int) (a6 b6 : Int) (a7 b7 : Int) (a8 b8 : Int) (a9 b9 : Int) (K : Value → Prop) : aggBin Try.prog .neq 31 [.d (.s (.int .i64 a0)), .d (.s (.int .i64 a1)), .d (.s (.int .i64 a2)), .d (.s (.int .i64 a3)), .d (.s (.int .i64 a4)), .d (.s (.int .i64 a5)), .d (.s (.int .i64 a6)), .d (.s (.int .i64 a7)), .d (.s (.int .i64 a8)), .d (.s (.int .i64 a9))] [.d (.s (.int .i64 b0)), .d (.s (.int .i64 b1)), .d (.s (.int .i64 b2)), .d (.s (.int .i64 b3)), .d (.s (.int .i64 b4)), .d (.s (.int .i64 b5)), .d (.s (.int .i64 b6)), .d (.s (.int .i64 b7)), .d (.s (.int .i64 b8)), .d (.s (.int .i64 b9))] K = K (.bool (!(eqVs [.int .i64 a0, .int .i64 a1, .int .i64 a2, .int .i64 a3, .int .i64 a4, .int .i64 a5, .int .i64 a6, .int .i64 a7, .int .i64 a8, .int .i64 a9] [.int .i64 b0, .int .i64 b1, .int .i64 b2, .int .i64 b3, .int .i64 b4, .int .i64 b5, .int .i64 b6, .int .i64 b7, .int .i64 b8, .int .i64 b9]))) := agg_neq (xs := [.int .i64 a0, .int .i64 a1, .int .i64 a2, .int .i64 a3, .int .i64 a4, .int .i64 a5, .int .i64 a6, .int .i64 a7, .int .i64 a8, .int .i64 a9]) (ys := [.int .i64 b0, .int .i64 b1, .int .i64 b2, .int .i64 b3, .int .i64 b4, .int .i64 b5, .int .i64 b6, .int .i64 b7, .int .i64 b8, .int .i64 b9]) eqk31 (by decide) eqg31 rfl rfl K
@[simp] theorem eqlA31 (a0 b0 : Int) (a1 b1 : Int) (a2 b2 : Int) (a3 b3 : Int) (a4 b4 : Int) (a5 b5 : Int) (a6 b6 : Int) (a7 b7 : Int) (a8 b8 : Int) (a9 b9 : Int) (K : Value → Prop) : aggBin Try.prog .eql 31 [.d (.s (.int .i64 a0)), .d (.s (.int .i64 a1)), .d (.s (.int .i64 a2)), .d (.s (.int .i64 a3)), .d (.s (.int .i64 a4)), .d (.s (.int .i64 a5)), .d (.s (.int .i64 a6)), .d (.s (.int .i64 a7)), .d (.s (.int .i64 a8)), .d (.s (.int .i64 a9))] [.d (.s (.int .i64 b0)), .d (.s (.int .i64 b1)), .d (.s (.int .i64 b2)), .d (.s (.int .i64 b3)), .d (.s (.int .i64 b4)), .d (.s (.int .i64 b5)), .d (.s (.int .i64 b6)), .d (.s (.int .i64 b7)), .d (.s (.int .i64 b8)), .d (.s (.int .i64 b9))] K = K (.bool ((eqVs [.int .i64 a0, .int .i64 a1, .int .i64 a2, .int .i64 a3, .int .i64 a4, .int .i64 a5, .int .i64 a6, .int .i64 a7, .int .i64 a8, .int .i64 a9] [.int .i64 b0, .int .i64 b1, .int .i64 b2, .int .i64 b3, .int .i64 b4, .int .i64 b5, .int .i64 b6, .int .i64 b7, .int .i64 b8, .int .i64 b9]))) := agg_eql (xs := [.int .i64 a0, .int .i64 a1, .int .i64 a2, .int .i64 a3, .int .i64 a4, .int .i64 a5, .int .i64 a6, .int .i64 a7, .int .i64 a8, .int .i64 a9]) (ys := [.int .i64 b0, .int .i64 b1, .int .i64 b2, .int .i64 b3, .int .i64 b4, .int .i64 b5, .int .i64 b6, .int .i64 b7, .int .i64 b8, .int .i64 b9]) eqk31 (by decide) eqg31 rfl rfl K
@[simp] theorem ze31 : zeroT Try.prog 31 = some [.d (.s (.int .i64 0)), .d (.s (.int .i64 0)), .d (.s (.int .i64 0)), .d (.s (.int .i64 0)), .d (.s (.int .i64 0)), .d (.s (.int .i64 0)), .d (.s (.int .i64 0)), .d (.s (.int .i64 0)), .d (.s (.int .i64 0)), .d (.s (.int .i64 0))] := by kernel_rfl
@[simp] theorem fi31_0 : fieldT Try.prog 31 0 = some (0, 1, false) := by kernel_rfl
@[simp] theorem fi31_1 : fieldT Try.prog 31 1 = some (1, 7, true) := by kernel_rfl
@[simp] theorem fi31_2 : fieldT Try.prog 31 2 = some (8, 1, false) := by kernel_rfl
@[simp] theorem fi31_3 : fieldT Try.prog 31 3 = some (9, 1, false) := by kernel_rfl
@[simp] theorem pl31 : placesT Try.prog 31 = some [(0, 1), (1, 7), (8, 1), (9, 1)] := by kernel_rfl
@[simp] theorem sz32 : szOf Try.prog 32 = some 10 := by kernel_rfl
@[simp] theorem ag32 : aggT Try.prog 32 = some true := by kernel_rfl
@[simp] theorem un32 : unitT Try.prog 32 = some 10 := by kernel_rfl
theorem kd32 : kindT Try.prog 12 32 = some [.int .i64, .int .i64, .int .i64, .int .i64, .int .i64, .int .i64, .int .i64, .int .i64, .int .i64, .int .i64] := by kernel_rfl
theorem eqk32 : eqT Try.prog 8 32 = some (true, [.int .i64, .int .i64, .int .i64, .int .i64, .int .i64, .int .i64, .int .i64, .int .i64, .int .i64, .int .i64]) := by kernel_rfl
theorem eqg32 : (Try.prog).eqGuardType (Try.prog).depth 32 = false := by kernel_rfl
@[simp] theorem neqA32 (a0 b0 : Int) (a1 b1 : Int) (a2 b2 : Int) (a3 b3 : Int) (a4 b4 : Int) (a5 b5 : Int) (a6 b6 : Int) (a7 b7 : Int) (a8 b8 : Int) (a9 b9 : Int) (K : Value → Prop) : aggBin Try.prog .neq 32 [.d (.s (.int .i64 a0)), .d (.s (.int .i64 a1)), .d (.s (.int .i64 a2)), .d (.s (.int .i64 a3)), .d (.s (.int .i64 a4)), .d (.s (.int .i64 a5)), .d (.s (.int .i64 a6)), .d (.s (.int .i64 a7)), .d (.s (.int .i64 a8)), .d (.s (.int .i64 a9))] [.d (.s (.int .i64 b0)), .d (.s (.int .i64 b1)), .d (.s (.int .i64 b2)), .d (.s (.int .i64 b3)), .d (.s (.int .i64 b4)), .d (.s (.int .i64 b5)), .d (.s (.int .i64 b6)), .d (.s (.int .i64 b7)), .d (.s (.int .i64 b8)), .d (.s (.int .i64 b9))] K = K (.bool (!(eqVs [.int .i64 a0, .int .i64 a1, .int .i64 a2, .int .i64 a3, .int .i64 a4, .int .i64 a5, .int .i64 a6, .int .i64 a7, .int .i64 a8, .int .i64 a9] [.int .i64 b0, .int .i64 b1, .int .i64 b2, .int .i64 b3, .int .i64 b4, .int .i64 b5, .int .i64 b6, .int .i64 b7, .int .i64 b8, .int .i64 b9]))) := agg_neq (xs := [.int .i64 a0, .int .i64 a1, .int .i64 a2, .int .i64 a3, .int .i64 a4, .int .i64 a5, .int .i64 a6, .int .i64 a7, .int .i64 a8, .int .i64 a9]) (ys := [.int .i64 b0, .int .i64 b1, .int .i64 b2, .int .i64 b3, .int .i64 b4, .int .i64 b5, .int .i64 b6, .int .i64 b7, .int .i64 b8, .int .i64 b9]) eqk32 (by decide) eqg32 rfl rfl K
@[simp] theorem eqlA32 (a0 b0 : Int) (a1 b1 : Int) (a2 b2 : Int) (a3 b3 : Int) (a4 b4 : Int) (a5 b5 : Int) (a6 b6 : Int) (a7 b7 : Int) (a8 b8 : Int) (a9 b9 : Int) (K : Value → Prop) : aggBin Try.prog .eql 32 [.d (.s (.int .i64 a0)), .d (.s (.int .i64 a1)), .d (.s (.int .i64 a2)), .d (.s (.int .i64 a3)), .d (.s (.int .i64 a4)), .d (.s (.int .i64 a5)), .d (.s (.int .i64 a6)), .d (.s (.int .i64 a7)), .d (.s (.int .i64 a8)), .d (.s (.int .i64 a9))] [.d (.s (.int .i64 b0)), .d (.s (.int .i64 b1)), .d (.s (.int .i64 b2)), .d (.s (.int .i64 b3)), .d (.s (.int .i64 b4)), .d (.s (.int .i64 b5)), .d (.s (.int .i64 b6)), .d (.s (.int .i64 b7)), .d (.s (.int .i64 b8)), .d (.s (.int .i64 b9))] K = K (.bool ((eqVs [.int .i64 a0, .int .i64 a1, .int .i64 a2, .int .i64 a3, .int .i64 a4, .int .i64 a5, .int .i64 a6, .int .i64 a7, .int .i64 a8, .int .i64 a9] [.int .i64 b0, .int .i64 b1, .int .i64 b2, .int .i64 b3, .int .i64 b4, .int .i64 b5, .int .i64 b6, .int .i64 b7, .int .i64 b8, .int .i64 b9]))) := agg_eql (xs := [.int .i64 a0, .int .i64 a1, .int .i64 a2, .int .i64 a3, .int .i64 a4, .int .i64 a5, .int .i64 a6, .int .i64 a7, .int .i64 a8, .int .i64 a9]) (ys := [.int .i64 b0, .int .i64 b1, .int .i64 b2, .int .i64 b3, .int .i64 b4, .int .i64 b5, .int .i64 b6, .int .i64 b7, .int .i64 b8, .int .i64 b9]) eqk32 (by decide) eqg32 rfl rfl K
@[simp] theorem ze32 : zeroT Try.prog 32 = some [.d (.s (.int .i64 0)), .d (.s (.int .i64 0)), .d (.s (.int .i64 0)), .d (.s (.int .i64 0)), .d (.s (.int .i64 0)), .d (.s (.int .i64 0)), .d (.s (.int .i64 0)), .d (.s (.int .i64 0)), .d (.s (.int .i64 0)), .d (.s (.int .i64 0))] := by kernel_rfl
@[simp] theorem fi32_0 : fieldT Try.prog 32 0 = some (0, 1, false) := by kernel_rfl
@[simp] theorem fi32_1 : fieldT Try.prog 32 1 = some (1, 7, true) := by kernel_rfl
@[simp] theorem fi32_2 : fieldT Try.prog 32 2 = some (8, 1, false) := by kernel_rfl
@[simp] theorem fi32_3 : fieldT Try.prog 32 3 = some (9, 1, false) := by kernel_rfl
@[simp] theorem pl32 : placesT Try.prog 32 = some [(0, 1), (1, 7), (8, 1), (9, 1)] := by kernel_rfl
@[simp] theorem sz33 : szOf Try.prog 33 = some 11 := by kernel_rfl
@[simp] theorem ag33 : aggT Try.prog 33 = some true := by kernel_rfl
@[simp] theorem un33 : unitT Try.prog 33 = some 11 := by kernel_rfl
theorem kd33 : kindT Try.prog 12 33 = some [.int .i64, .int .i64, .int .i64, .int .i64, .int .i64, .int .i64, .int .i64, .int .i64, .int .i64, .int .i64, .int .i64] := by kernel_rfl
theorem eqk33 : eqT Try.prog 8 33 = some (true, [.int .i64, .int .i64, .int .i64, .int .i64, .int .i64, .int .i64, .int .i64, .int .i64, .int .i64, .int .i64, .int .i64]) := by kernel_rfl
theorem eqg33 : (Try.prog).eqGuardType (Try.prog).depth 33 = false := by kernel_rfl
@[simp] theorem neqA33 (a0 b0 : Int) (a1 b1 : Int) (a2 b2 : Int) (a3 b3 : Int) (a4 b4 : Int) (a5 b5 : Int) (a6 b6 : Int) (a7 b7 : Int) (a8 b8 : Int) (a9 b9 : Int) (a10 b10 : Int) (K : Value → Prop) : aggBin Try.prog .neq 33 [.d (.s (.int .i64 a0)), .d (.s (.int .i64 a1)), .d (.s (.int .i64 a2)), .d (.s (.int .i64 a3)), .d (.s (.int .i64 a4)), .d (.s (.int .i64 a5)), .d (.s (.int .i64 a6)), .d (.s (.int .i64 a7)), .d (.s (.int .i64 a8)), .d (.s (.int .i64 a9)), .d (.s (.int .i64 a10))] [.d (.s (.int .i64 b0)), .d (.s (.int .i64 b1)), .d (.s (.int .i64 b2)), .d (.s (.int .i64 b3)), .d (.s (.int .i64 b4)), .d (.s (.int .i64 b5)), .d (.s (.int .i64 b6)), .d (.s (.int .i64 b7)), .d (.s (.int .i64 b8)), .d (.s (.int .i64 b9)), .d (.s (.int .i64 b10))] K = K (.bool (!(eqVs [.int .i64 a0, .int .i64 a1, .int .i64 a2, .int .i64 a3, .int .i64 a4, .int .i64 a5, .int .i64 a6, .int .i64 a7, .int .i64 a8, .int .i64 a9, .int .i64 a10] [.int .i64 b0, .int .i64 b1, .int .i64 b2, .int .i64 b3, .int .i64 b4, .int .i64 b5, .int .i64 b6, .int .i64 b7, .int .i64 b8, .int .i64 b9, .int .i64 b10]))) := agg_neq (xs := [.int .i64 a0, .int .i64 a1, .int .i64 a2, .int .i64 a3, .int .i64 a4, .int .i64 a5, .int .i64 a6, .int .i64 a7, .int .i64 a8, .int .i64 a9, .int .i64 a10]) (ys := [.int .i64 b0, .int .i64 b1, .int .i64 b2, .int .i64 b3, .int .i64 b4, .int .i64 b5, .int .i64 b6, .int .i64 b7, .int .i64 b8, .int .i64 b9, .int .i64 b10]) eqk33 (by decide) eqg33 rfl rfl K
@[simp] theorem eqlA33 (a0 b0 : Int) (a1 b1 : Int) (a2 b2 : Int) (a3 b3 : Int) (a4 b4 : Int) (a5 b5 : Int) (a6 b6 : Int) (a7 b7 : Int) (a8 b8 : Int) (a9 b9 : Int) (a10 b10 : Int) (K : Value → Prop) : aggBin Try.prog .eql 33 [.d (.s (.int .i64 a0)), .d (.s (.int .i64 a1)), .d (.s (.int .i64 a2)), .d (.s (.int .i64 a3)), .d (.s (.int .i64 a4)), .d (.s (.int .i64 a5)), .d (.s (.int .i64 a6)), .d (.s (.int .i64 a7)), .d (.s (.int .i64 a8)), .d (.s (.int .i64 a9)), .d (.s (.int .i64 a10))] [.d (.s (.int .i64 b0)), .d (.s (.int .i64 b1)), .d (.s (.int .i64 b2)), .d (.s (.int .i64 b3)), .d (.s (.int .i64 b4)), .d (.s (.int .i64 b5)), .d (.s (.int .i64 b6)), .d (.s (.int .i64 b7)), .d (.s (.int .i64 b8)), .d (.s (.int .i64 b9)), .d (.s (.int .i64 b10))] K = K (.bool ((eqVs [.int .i64 a0, .int .i64 a1, .int .i64 a2, .int .i64 a3, .int .i64 a4, .int .i64 a5, .int .i64 a6, .int .i64 a7, .int .i64 a8, .int .i64 a9, .int .i64 a10] [.int .i64 b0, .int .i64 b1, .int .i64 b2, .int .i64 b3, .int .i64 b4, .int .i64 b5, .int .i64 b6, .int .i64 b7, .int .i64 b8, .int .i64 b9, .int .i64 b10]))) := agg_eql (xs := [.int .i64 a0, .int .i64 a1, .int .i64 a2, .int .i64 a3, .int .i64 a4, .int .i64 a5, .int .i64 a6, .int .i64 a7, .int .i64 a8, .int .i64 a9, .int .i64 a10]) (ys := [.int .i64 b0, .int .i64 b1, .int .i64 b2, .int .i64 b3, .int .i64 b4, .int .i64 b5, .int .i64 b6, .int .i64 b7, .int .i64 b8, .int .i64 b9, .int .i64 b10]) eqk33 (by decide) eqg33 rfl rfl K
@[simp] theorem ze33 : zeroT Try.prog 33 = some [.d (.s (.int .i64 0)), .d (.s (.int .i64 0)), .d (.s (.int .i64 0)), .d (.s (.int .i64 0)), .d (.s (.int .i64 0)), .d (.s (.int .i64 0)), .d (.s (.int .i64 0)), .d (.s (.int .i64 0)), .d (.s (.int .i64 0)), .d (.s (.int .i64 0)), .d (.s (.int .i64 0))] := by kernel_rfl
@[simp] theorem fi33_0 : fieldT Try.prog 33 0 = some (0, 1, false) := by kernel_rfl
@[simp] theorem fi33_1 : fieldT Try.prog 33 1 = some (1, 10, true) := by kernel_rfl
@[simp] theorem pl33 : placesT Try.prog 33 = some [(0, 1), (1, 10)] := by kernel_rfl
@[simp] theorem sz34 : szOf Try.prog 34 = some 11 := by kernel_rfl
@[simp] theorem ag34 : aggT Try.prog 34 = some true := by kernel_rfl
@[simp] theorem un34 : unitT Try.prog 34 = some 11 := by kernel_rfl
theorem kd34 : kindT Try.prog 12 34 = some [.int .i64, .int .i64, .int .i64, .int .i64, .int .i64, .int .i64, .int .i64, .int .i64, .int .i64, .int .i64, .int .i64] := by kernel_rfl
theorem eqk34 : eqT Try.prog 8 34 = some (true, [.int .i64, .int .i64, .int .i64, .int .i64, .int .i64, .int .i64, .int .i64, .int .i64, .int .i64, .int .i64, .int .i64]) := by kernel_rfl
theorem eqg34 : (Try.prog).eqGuardType (Try.prog).depth 34 = false := by kernel_rfl
@[simp] theorem neqA34 (a0 b0 : Int) (a1 b1 : Int) (a2 b2 : Int) (a3 b3 : Int) (a4 b4 : Int) (a5 b5 : Int) (a6 b6 : Int) (a7 b7 : Int) (a8 b8 : Int) (a9 b9 : Int) (a10 b10 : Int) (K : Value → Prop) : aggBin Try.prog .neq 34 [.d (.s (.int .i64 a0)), .d (.s (.int .i64 a1)), .d (.s (.int .i64 a2)), .d (.s (.int .i64 a3)), .d (.s (.int .i64 a4)), .d (.s (.int .i64 a5)), .d (.s (.int .i64 a6)), .d (.s (.int .i64 a7)), .d (.s (.int .i64 a8)), .d (.s (.int .i64 a9)), .d (.s (.int .i64 a10))] [.d (.s (.int .i64 b0)), .d (.s (.int .i64 b1)), .d (.s (.int .i64 b2)), .d (.s (.int .i64 b3)), .d (.s (.int .i64 b4)), .d (.s (.int .i64 b5)), .d (.s (.int .i64 b6)), .d (.s (.int .i64 b7)), .d (.s (.int .i64 b8)), .d (.s (.int .i64 b9)), .d (.s (.int .i64 b10))] K = K (.bool (!(eqVs [.int .i64 a0, .int .i64 a1, .int .i64 a2, .int .i64 a3, .int .i64 a4, .int .i64 a5, .int .i64 a6, .int .i64 a7, .int .i64 a8, .int .i64 a9, .int .i64 a10] [.int .i64 b0, .int .i64 b1, .int .i64 b2, .int .i64 b3, .int .i64 b4, .int .i64 b5, .int .i64 b6, .int .i64 b7, .int .i64 b8, .int .i64 b9, .int .i64 b10]))) := agg_neq (xs := [.int .i64 a0, .int .i64 a1, .int .i64 a2, .int .i64 a3, .int .i64 a4, .int .i64 a5, .int .i64 a6, .int .i64 a7, .int .i64 a8, .int .i64 a9, .int .i64 a10]) (ys := [.int .i64 b0, .int .i64 b1, .int .i64 b2, .int .i64 b3, .int .i64 b4, .int .i64 b5, .int .i64 b6, .int .i64 b7, .int .i64 b8, .int .i64 b9, .int .i64 b10]) eqk34 (by decide) eqg34 rfl rfl K
@[simp] theorem eqlA34 (a0 b0 : Int) (a1 b1 : Int) (a2 b2 : Int) (a3 b3 : Int) (a4 b4 : Int) (a5 b5 : Int) (a6 b6 : Int) (a7 b7 : Int) (a8 b8 : Int) (a9 b9 : Int) (a10 b10 : Int) (K : Value → Prop) : aggBin Try.prog .eql 34 [.d (.s (.int .i64 a0)), .d (.s (.int .i64 a1)), .d (.s (.int .i64 a2)), .d (.s (.int .i64 a3)), .d (.s (.int .i64 a4)), .d (.s (.int .i64 a5)), .d (.s (.int .i64 a6)), .d (.s (.int .i64 a7)), .d (.s (.int .i64 a8)), .d (.s (.int .i64 a9)), .d (.s (.int .i64 a10))] [.d (.s (.int .i64 b0)), .d (.s (.int .i64 b1)), .d (.s (.int .i64 b2)), .d (.s (.int .i64 b3)), .d (.s (.int .i64 b4)), .d (.s (.int .i64 b5)), .d (.s (.int .i64 b6)), .d (.s (.int .i64 b7)), .d (.s (.int .i64 b8)), .d (.s (.int .i64 b9)), .d (.s (.int .i64 b10))] K = K (.bool ((eqVs [.int .i64 a0, .int .i64 a1, .int .i64 a2, .int .i64 a3, .int .i64 a4, .int .i64 a5, .int .i64 a6, .int .i64 a7, .int .i64 a8, .int .i64 a9, .int .i64 a10] [.int .i64 b0, .int .i64 b1, .int .i64 b2, .int .i64 b3, .int .i64 b4, .int .i64 b5, .int .i64 b6, .int .i64 b7, .int .i64 b8, .int .i64 b9, .int .i64 b10]))) := agg_eql (xs := [.int .i64 a0, .int .i64 a1, .int .i64 a2, .int .i64 a3, .int .i64 a4, .int .i64 a5, .int .i64 a6, .int .i64 a7, .int .i64 a8, .int .i64 a9, .int .i64 a10]) (ys := [.int .i64 b0, .int .i64 b1, .int .i64 b2, .int .i64 b3, .int .i64 b4, .int .i64 b5, .int .i64 b6, .int .i64 b7, .int .i64 b8, .int .i64 b9, .int .i64 b10]) eqk34 (by decide) eqg34 rfl rfl K
@[simp] theorem ze34 : zeroT Try.prog 34 = some [.d (.s (.int .i64 0)), .d (.s (.int .i64 0)), .d (.s (.int .i64 0)), .d (.s (.int .i64 0)), .d (.s (.int .i64 0)), .d (.s (.int .i64 0)), .d (.s (.int .i64 0)), .d (.s (.int .i64 0)), .d (.s (.int .i64 0)), .d (.s (.int .i64 0)), .d (.s (.int .i64 0))] := by kernel_rfl
@[simp] theorem fi34_0 : fieldT Try.prog 34 0 = some (0, 1, false) := by kernel_rfl
@[simp] theorem fi34_1 : fieldT Try.prog 34 1 = some (1, 10, true) := by kernel_rfl
@[simp] theorem pl34 : placesT Try.prog 34 = some [(0, 1), (1, 10)] := by kernel_rfl
@[simp] theorem sz35 : szOf Try.prog 35 = some 1 := by kernel_rfl
@[simp] theorem ag35 : aggT Try.prog 35 = some false := by kernel_rfl
@[simp] theorem un35 : unitT Try.prog 35 = some 1 := by kernel_rfl
@[simp] theorem ze35 : zeroT Try.prog 35 = some [.d (.s .nilFunc)] := by kernel_rfl
@[simp] theorem sz36 : szOf Try.prog 36 = some 1 := by kernel_rfl
@[simp] theorem ag36 : aggT Try.prog 36 = some false := by kernel_rfl
@[simp] theorem un36 : unitT Try.prog 36 = some 1 := by kernel_rfl
@[simp] theorem ze36 : zeroT Try.prog 36 = some [.d (.s .nilFunc)] := by kernel_rfl
@[simp] theorem sz37 : szOf Try.prog 37 = some 2 := by kernel_rfl
@[simp] theorem ag37 : aggT Try.prog 37 = some true := by kernel_rfl
@[simp] theorem un37 : unitT Try.prog 37 = some 2 := by kernel_rfl
theorem kd37 : kindT Try.prog 12 37 = some [.int .i64, .int .i64] := by kernel_rfl
theorem eqk37 : eqT Try.prog 8 37 = some (true, [.int .i64, .int .i64]) := by kernel_rfl
theorem eqg37 : (Try.prog).eqGuardType (Try.prog).depth 37 = false := by kernel_rfl
@[simp] theorem neqA37 (a0 b0 : Int) (a1 b1 : Int) (K : Value → Prop) : aggBin Try.prog .neq 37 [.d (.s (.int .i64 a0)), .d (.s (.int .i64 a1))] [.d (.s (.int .i64 b0)), .d (.s (.int .i64 b1))] K = K (.bool (!(eqVs [.int .i64 a0, .int .i64 a1] [.int .i64 b0, .int .i64 b1]))) := agg_neq (xs := [.int .i64 a0, .int .i64 a1]) (ys := [.int .i64 b0, .int .i64 b1]) eqk37 (by decide) eqg37 rfl rfl K
@[simp] theorem eqlA37 (a0 b0 : Int) (a1 b1 : Int) (K : Value → Prop) : aggBin Try.prog .eql 37 [.d (.s (.int .i64 a0)), .d (.s (.int .i64 a1))] [.d (.s (.int .i64 b0)), .d (.s (.int .i64 b1))] K = K (.bool ((eqVs [.int .i64 a0, .int .i64 a1] [.int .i64 b0, .int .i64 b1]))) := agg_eql (xs := [.int .i64 a0, .int .i64 a1]) (ys := [.int .i64 b0, .int .i64 b1]) eqk37 (by decide) eqg37 rfl rfl K
@[simp] theorem ze37 : zeroT Try.prog 37 = some [.d (.s (.int .i64 0)), .d (.s (.int .i64 0))] := by kernel_rfl
@[simp] theorem fi37_0 : fieldT Try.prog 37 0 = some (0, 1, false) := by kernel_rfl
@[simp] theorem fi37_1 : fieldT Try.prog 37 1 = some (1, 1, false) := by kernel_rfl
@[simp] theorem pl37 : placesT Try.prog 37 = some [(0, 1), (1, 1)] := by kernel_rfl
@[simp] theorem sz38 : szOf Try.prog 38 = some 2 := by kernel_rfl
@[simp] theorem ag38 : aggT Try.prog 38 = some true := by kernel_rfl
@[simp] theorem un38 : unitT Try.prog 38 = some 2 := by kernel_rfl
theorem kd38 : kindT Try.prog 12 38 = some [.int .i64, .int .i64] := by kernel_rfl
theorem eqk38 : eqT Try.prog 8 38 = some (true, [.int .i64, .int .i64]) := by kernel_rfl
theorem eqg38 : (Try.prog).eqGuardType (Try.prog).depth 38 = false := by kernel_rfl
@[simp] theorem neqA38 (a0 b0 : Int) (a1 b1 : Int) (K : Value → Prop) : aggBin Try.prog .neq 38 [.d (.s (.int .i64 a0)), .d (.s (.int .i64 a1))] [.d (.s (.int .i64 b0)), .d (.s (.int .i64 b1))] K = K (.bool (!(eqVs [.int .i64 a0, .int .i64 a1] [.int .i64 b0, .int .i64 b1]))) := agg_neq (xs := [.int .i64 a0, .int .i64 a1]) (ys := [.int .i64 b0, .int .i64 b1]) eqk38 (by decide) eqg38 rfl rfl K
@[simp] theorem eqlA38 (a0 b0 : Int) (a1 b1 : Int) (K : Value → Prop) : aggBin Try.prog .eql 38 [.d (.s (.int .i64 a0)), .d (.s (.int .i64 a1))] [.d (.s (.int .i64 b0)), .d (.s (.int .i64 b1))] K = K (.bool ((eqVs [.int .i64 a0, .int .i64 a1] [.int .i64 b0, .int .i64 b1]))) := agg_eql (xs := [.int .i64 a0, .int .i64 a1]) (ys := [.int .i64 b0, .int .i64 b1]) eqk38 (by decide) eqg38 rfl rfl K
@[simp] theorem ze38 : zeroT Try.prog 38 = some [.d (.s (.int .i64 0)), .d (.s (.int .i64 0))] := by kernel_rfl
@[simp] theorem fi38_0 : fieldT Try.prog 38 0 = some (0, 1, false) := by kernel_rfl
@[simp] theorem fi38_1 : fieldT Try.prog 38 1 = some (1, 1, false) := by kernel_rfl
@[simp] theorem pl38 : placesT Try.prog 38 = some [(0, 1), (1, 1)] := by kernel_rfl
@[simp] theorem sz39 : szOf Try.prog 39 = some 2 := by kernel_rfl
@[simp] theorem ag39 : aggT Try.prog 39 = some true := by kernel_rfl
@[simp] theorem un39 : unitT Try.prog 39 = some 2 := by kernel_rfl
theorem kd39 : kindT Try.prog 12 39 = some [.int .i64, .int .i64] := by kernel_rfl
theorem eqk39 : eqT Try.prog 8 39 = some (true, [.int .i64, .int .i64]) := by kernel_rfl
theorem eqg39 : (Try.prog).eqGuardType (Try.prog).depth 39 = false := by kernel_rfl
@[simp] theorem neqA39 (a0 b0 : Int) (a1 b1 : Int) (K : Value → Prop) : aggBin Try.prog .neq 39 [.d (.s (.int .i64 a0)), .d (.s (.int .i64 a1))] [.d (.s (.int .i64 b0)), .d (.s (.int .i64 b1))] K = K (.bool (!(eqVs [.int .i64 a0, .int .i64 a1] [.int .i64 b0, .int .i64 b1]))) := agg_neq (xs := [.int .i64 a0, .int .i64 a1]) (ys := [.int .i64 b0, .int .i64 b1]) eqk39 (by decide) eqg39 rfl rfl K
@[simp] theorem eqlA39 (a0 b0 : Int) (a1 b1 : Int) (K : Value → Prop) : aggBin Try.prog .eql 39 [.d (.s (.int .i64 a0)), .d (.s (.int .i64 a1))] [.d (.s (.int .i64 b0)), .d (.s (.int .i64 b1))] K = K (.bool ((eqVs [.int .i64 a0, .int .i64 a1] [.int .i64 b0, .int .i64 b1]))) := agg_eql (xs := [.int .i64 a0, .int .i64 a1]) (ys := [.int .i64 b0, .int .i64 b1]) eqk39 (by decide) eqg39 rfl rfl K
@[simp] theorem ze39 : zeroT Try.prog 39 = some [.d (.s (.int .i64 0)), .d (.s (.int .i64 0))] := by kernel_rfl
@[simp] theorem fi39_0 : fieldT Try.prog 39 0 = some (0, 1, false) := by kernel_rfl
@[simp] theorem fi39_1 : fieldT Try.prog 39 1 = some (1, 1, false) := by kernel_rfl
@[simp] theorem pl39 : placesT Try.prog 39 = some [(0, 1), (1, 1)] := by kernel_rfl
@[simp] theorem sz40 : szOf Try.prog 40 = some 2 := by kernel_rfl
@[simp] theorem ag40 : aggT Try.prog 40 = some true := by kernel_rfl
@[simp] theorem un40 : unitT Try.prog 40 = some 2 := by kernel_rfl
theorem kd40 : kindT Try.prog 12 40 = some [.int .i64, .int .i64] := by kernel_rfl
theorem eqk40 : eqT Try.prog 8 40 = some (true, [.int .i64, .int .i64]) := by kernel_rfl
theorem eqg40 : (Try.prog).eqGuardType (Try.prog).depth 40 = false := by kernel_rfl
@[simp] theorem neqA40 (a0 b0 : Int) (a1 b1 : Int) (K : Value → Prop) : aggBin Try.prog .neq 40 [.d (.s (.int .i64 a0)), .d (.s (.int .i64 a1))] [.d (.s (.int .i64 b0)), .d (.s (.int .i64 b1))] K = K (.bool (!(eqVs [.int .i64 a0, .int .i64 a1] [.int .i64 b0, .int .i64 b1]))) := agg_neq (xs := [.int .i64 a0, .int .i64 a1]) (ys := [.int .i64 b0, .int .i64 b1]) eqk40 (by decide) eqg40 rfl rfl K
@[simp] theorem eqlA40 (a0 b0 : Int) (a1 b1 : Int) (K : Value → Prop) : aggBin Try.prog .eql 40 [.d (.s (.int .i64 a0)), .d (.s (.int .i64 a1))] [.d (.s (.int .i64 b0)), .d (.s (.int .i64 b1))] K = K (.bool ((eqVs [.int .i64 a0, .int .i64 a1] [.int .i64 b0, .int .i64 b1]))) := agg_eql (xs := [.int .i64 a0, .int .i64 a1]) (ys := [.int .i64 b0, .int .i64 b1]) eqk40 (by decide) eqg40 rfl rfl K
@[simp] theorem ze40 : zeroT Try.prog 40 = some [.d (.s (.int .i64 0)), .d (.s (.int .i64 0))] := by kernel_rfl
@[simp] theorem fi40_0 : fieldT Try.prog 40 0 = some (0, 1, false) := by kernel_rfl
@[simp] theorem fi40_1 : fieldT Try.prog 40 1 = some (1, 1, false) := by kernel_rfl
@[simp] theorem pl40 : placesT Try.prog 40 = some [(0, 1), (1, 1)] := by kernel_rfl
@[simp] theorem sz41 : szOf Try.prog 41 = some 1 := by kernel_rfl
@[simp] theorem ag41 : aggT Try.prog 41 = some false := by kernel_rfl
@[simp] theorem un41 : unitT Try.prog 41 = some 1 := by kernel_rfl
@[simp] theorem ze41 : zeroT Try.prog 41 = some [.d (.s .nilFunc)] := by kernel_rfl
@[simp] theorem sz42 : szOf Try.prog 42 = some 1 := by kernel_rfl
@[simp] theorem ag42 : aggT Try.prog 42 = some false := by kernel_rfl
@[simp] theorem un42 : unitT Try.prog 42 = some 1 := by kernel_rfl
@[simp] theorem ze42 : zeroT Try.prog 42 = some [.d (.s .nilFunc)] := by kernel_rfl
@[simp] theorem sz43 : szOf Try.prog 43 = some 1 := by kernel_rfl
@[simp] theorem ag43 : aggT Try.prog 43 = some false := by kernel_rfl
@[simp] theorem un43 : unitT Try.prog 43 = some 1 := by kernel_rfl
theorem kd43 : kindT Try.prog 12 43 = some [.slice [.int .i64]] := by kernel_rfl
@[simp] theorem sl43 : sliceT Try.prog 43 = some (2, 1, 8) := by kernel_rfl
@[simp] theorem ze43 : zeroT Try.prog 43 = some [.d .nil] := by kernel_rfl
@[simp] theorem sz44 : szOf Try.prog 44 = some 2 := by kernel_rfl
@[simp] theorem ag44 : aggT Try.prog 44 = some true := by kernel_rfl
@[simp] theorem un44 : unitT Try.prog 44 = some 2 := by kernel_rfl
theorem kd44 : kindT Try.prog 12 44 = some [.int .i64, .slice [.int .i64]] := by kernel_rfl
@[simp] theorem ze44 : zeroT Try.prog 44 = some [.d (.s (.int .i64 0)), .d .nil] := by kernel_rfl
@[simp] theorem fi44_0 : fieldT Try.prog 44 0 = some (0, 1, false) := by kernel_rfl
@[simp] theorem fi44_1 : fieldT Try.prog 44 1 = some (1, 1, false) := by kernel_rfl
@[simp] theorem pl44 : placesT Try.prog 44 = some [(0, 1), (1, 1)] := by kernel_rfl
@[simp] theorem sz45 : szOf Try.prog 45 = some 2 := by kernel_rfl
@[simp] theorem ag45 : aggT Try.prog 45 = some true := by kernel_rfl
@[simp] theorem un45 : unitT Try.prog 45 = some 2 := by kernel_rfl
theorem kd45 : kindT Try.prog 12 45 = some [.int .i64, .slice [.int .i64]] := by kernel_rfl
@[simp] theorem ze45 : zeroT Try.prog 45 = some [.d (.s (.int .i64 0)), .d .nil] := by kernel_rfl
@[simp] theorem fi45_0 : fieldT Try.prog 45 0 = some (0, 1, false) := by kernel_rfl
@[simp] theorem fi45_1 : fieldT Try.prog 45 1 = some (1, 1, false) := by kernel_rfl
@[simp] theorem pl45 : placesT Try.prog 45 = some [(0, 1), (1, 1)] := by kernel_rfl
@[simp] theorem sz46 : szOf Try.prog 46 = some 1 := by kernel_rfl
@[simp] theorem ag46 : aggT Try.prog 46 = some false := by kernel_rfl
@[simp] theorem un46 : unitT Try.prog 46 = some 1 := by kernel_rfl
@[simp] theorem ze46 : zeroT Try.prog 46 = some [.d (.s .nilFunc)] := by kernel_rfl
@[simp] theorem sz47 : szOf Try.prog 47 = some 1 := by kernel_rfl
@[simp] theorem ag47 : aggT Try.prog 47 = some false := by kernel_rfl
@[simp] theorem un47 : unitT Try.prog 47 = some 1 := by kernel_rfl
@[simp] theorem ze47 : zeroT Try.prog 47 = some [.d (.s .nilFunc)] := by kernel_rfl
@[simp] theorem sz48 : szOf Try.prog 48 = some 1 := by kernel_rfl
@[simp] theorem ag48 : aggT Try.prog 48 = some false := by kernel_rfl
@[simp] theorem un48 : unitT Try.prog 48 = some 1 := by kernel_rfl
@[simp] theorem ze48 : zeroT Try.prog 48 = some [.d (.s .nilFunc)] := by kernel_rfl
@[simp] theorem sz49 : szOf Try.prog 49 = some 8 := by kernel_rfl
@[simp] theorem ag49 : aggT Try.prog 49 = some true := by kernel_rfl
@[simp] theorem un49 : unitT Try.prog 49 = some 8 := by kernel_rfl
theorem kd49 : kindT Try.prog 12 49 = some [.int .i64, .int .i64, .int .i64, .int .i64, .int .i64, .int .i64, .int .i64, .int .i64] := by kernel_rfl
theorem eqk49 : eqT Try.prog 8 49 = some (true, [.int .i64, .int .i64, .int .i64, .int .i64, .int .i64, .int .i64, .int .i64, .int .i64]) := by kernel_rfl
theorem eqg49 : (Try.prog).eqGuardType (Try.prog).depth 49 = false := by kernel_rfl
@[simp] theorem neqA49 (a0 b0 : Int) (a1 b1 : Int) (a2 b2 : Int) (a3 b3 : Int) (a4 b4 : Int) (a5 b5 : Int) (a6 b6 : Int) (a7 b7 : Int) (K : Value → Prop) : aggBin Try.prog .neq 49 [.d (.s (.int .i64 a0)), .d (.s (.int .i64 a1)), .d (.s (.int .i64 a2)), .d (.s (.int .i64 a3)), .d (.s (.int .i64 a4)), .d (.s (.int .i64 a5)), .d (.s (.int .i64 a6)), .d (.s (.int .i64 a7))] [.d (.s (.int .i64 b0)), .d (.s (.int .i64 b1)), .d (.s (.int .i64 b2)), .d (.s (.int .i64 b3)), .d (.s (.int .i64 b4)), .d (.s (.int .i64 b5)), .d (.s (.int .i64 b6)), .d (.s (.int .i64 b7))] K = K (.bool (!(eqVs [.int .i64 a0, .int .i64 a1, .int .i64 a2, .int .i64 a3, .int .i64 a4, .int .i64 a5, .int .i64 a6, .int .i64 a7] [.int .i64 b0, .int .i64 b1, .int .i64 b2, .int .i64 b3, .int .i64 b4, .int .i64 b5, .int .i64 b6, .int .i64 b7]))) := agg_neq (xs := [.int .i64 a0, .int .i64 a1, .int .i64 a2, .int .i64 a3, .int .i64 a4, .int .i64 a5, .int .i64 a6, .int .i64 a7]) (ys := [.int .i64 b0, .int .i64 b1, .int .i64 b2, .int .i64 b3, .int .i64 b4, .int .i64 b5, .int .i64 b6, .int .i64 b7]) eqk49 (by decide) eqg49 rfl rfl K
@[simp] theorem eqlA49 (a0 b0 : Int) (a1 b1 : Int) (a2 b2 : Int) (a3 b3 : Int) (a4 b4 : Int) (a5 b5 : Int) (a6 b6 : Int) (a7 b7 : Int) (K : Value → Prop) : aggBin Try.prog .eql 49 [.d (.s (.int .i64 a0)), .d (.s (.int .i64 a1)), .d (.s (.int .i64 a2)), .d (.s (.int .i64 a3)), .d (.s (.int .i64 a4)), .d (.s (.int .i64 a5)), .d (.s (.int .i64 a6)), .d (.s (.int .i64 a7))] [.d (.s (.int .i64 b0)), .d (.s (.int .i64 b1)), .d (.s (.int .i64 b2)), .d (.s (.int .i64 b3)), .d (.s (.int .i64 b4)), .d (.s (.int .i64 b5)), .d (.s (.int .i64 b6)), .d (.s (.int .i64 b7))] K = K (.bool ((eqVs [.int .i64 a0, .int .i64 a1, .int .i64 a2, .int .i64 a3, .int .i64 a4, .int .i64 a5, .int .i64 a6, .int .i64 a7] [.int .i64 b0, .int .i64 b1, .int .i64 b2, .int .i64 b3, .int .i64 b4, .int .i64 b5, .int .i64 b6, .int .i64 b7]))) := agg_eql (xs := [.int .i64 a0, .int .i64 a1, .int .i64 a2, .int .i64 a3, .int .i64 a4, .int .i64 a5, .int .i64 a6, .int .i64 a7]) (ys := [.int .i64 b0, .int .i64 b1, .int .i64 b2, .int .i64 b3, .int .i64 b4, .int .i64 b5, .int .i64 b6, .int .i64 b7]) eqk49 (by decide) eqg49 rfl rfl K
@[simp] theorem ze49 : zeroT Try.prog 49 = some [.d (.s (.int .i64 0)), .d (.s (.int .i64 0)), .d (.s (.int .i64 0)), .d (.s (.int .i64 0)), .d (.s (.int .i64 0)), .d (.s (.int .i64 0)), .d (.s (.int .i64 0)), .d (.s (.int .i64 0))] := by kernel_rfl
@[simp] theorem fi49_0 : fieldT Try.prog 49 0 = some (0, 1, false) := by kernel_rfl
@[simp] theorem fi49_1 : fieldT Try.prog 49 1 = some (1, 7, true) := by kernel_rfl
@[simp] theorem pl49 : placesT Try.prog 49 = some [(0, 1), (1, 7)] := by kernel_rfl
@[simp] theorem sz50 : szOf Try.prog 50 = some 8 := by kernel_rfl
@[simp] theorem ag50 : aggT Try.prog 50 = some true := by kernel_rfl
@[simp] theorem un50 : unitT Try.prog 50 = some 8 := by kernel_rfl
theorem kd50 : kindT Try.prog 12 50 = some [.int .i64, .int .i64, .int .i64, .int .i64, .int .i64, .int .i64, .int .i64, .int .i64] := by kernel_rfl
theorem eqk50 : eqT Try.prog 8 50 = some (true, [.int .i64, .int .i64, .int .i64, .int .i64, .int .i64, .int .i64, .int .i64, .int .i64]) := by kernel_rfl
theorem eqg50 : (Try.prog).eqGuardType (Try.prog).depth 50 = false := by kernel_rfl
@[simp] theorem neqA50 (a0 b0 : Int) (a1 b1 : Int) (a2 b2 : Int) (a3 b3 : Int) (a4 b4 : Int) (a5 b5 : Int) (a6 b6 : Int) (a7 b7 : Int) (K : Value → Prop) : aggBin Try.prog .neq 50 [.d (.s (.int .i64 a0)), .d (.s (.int .i64 a1)), .d (.s (.int .i64 a2)), .d (.s (.int .i64 a3)), .d (.s (.int .i64 a4)), .d (.s (.int .i64 a5)), .d (.s (.int .i64 a6)), .d (.s (.int .i64 a7))] [.d (.s (.int .i64 b0)), .d (.s (.int .i64 b1)), .d (.s (.int .i64 b2)), .d (.s (.int .i64 b3)), .d (.s (.int .i64 b4)), .d (.s (.int .i64 b5)), .d (.s (.int .i64 b6)), .d (.s (.int .i64 b7))] K = K (.bool (!(eqVs [.int .i64 a0, .int .i64 a1, .int .i64 a2, .int .i64 a3, .int .i64 a4, .int .i64 a5, .int .i64 a6, .int .i64 a7] [.int .i64 b0, .int .i64 b1, .int .i64 b2, .int .i64 b3, .int .i64 b4, .int .i64 b5, .int .i64 b6, .int .i64 b7]))) := agg_neq (xs := [.int .i64 a0, .int .i64 a1, .int .i64 a2, .int .i64 a3, .int .i64 a4, .int .i64 a5, .int .i64 a6, .int .i64 a7]) (ys := [.int .i64 b0, .int .i64 b1, .int .i64 b2, .int .i64 b3, .int .i64 b4, .int .i64 b5, .int .i64 b6, .int .i64 b7]) eqk50 (by decide) eqg50 rfl rfl K
@[simp] theorem eqlA50 (a0 b0 : Int) (a1 b1 : Int) (a2 b2 : Int) (a3 b3 : Int) (a4 b4 : Int) (a5 b5 : Int) (a6 b6 : Int) (a7 b7 : Int) (K : Value → Prop) : aggBin Try.prog .eql 50 [.d (.s (.int .i64 a0)), .d (.s (.int .i64 a1)), .d (.s (.int .i64 a2)), .d (.s (.int .i64 a3)), .d (.s (.int .i64 a4)), .d (.s (.int .i64 a5)), .d (.s (.int .i64 a6)), .d (.s (.int .i64 a7))] [.d (.s (.int .i64 b0)), .d (.s (.int .i64 b1)), .d (.s (.int .i64 b2)), .d (.s (.int .i64 b3)), .d (.s (.int .i64 b4)), .d (.s (.int .i64 b5)), .d (.s (.int .i64 b6)), .d (.s (.int .i64 b7))] K = K (.bool ((eqVs [.int .i64 a0, .int .i64 a1, .int .i64 a2, .int .i64 a3, .int .i64 a4, .int .i64 a5, .int .i64 a6, .int .i64 a7] [.int .i64 b0, .int .i64 b1, .int .i64 b2, .int .i64 b3, .int .i64 b4, .int .i64 b5, .int .i64 b6, .int .i64 b7]))) := agg_eql (xs := [.int .i64 a0, .int .i64 a1, .int .i64 a2, .int .i64 a3, .int .i64 a4, .int .i64 a5, .int .i64 a6, .int .i64 a7]) (ys := [.int .i64 b0, .int .i64 b1, .int .i64 b2, .int .i64 b3, .int .i64 b4, .int .i64 b5, .int .i64 b6, .int .i64 b7]) eqk50 (by decide) eqg50 rfl rfl K
@[simp] theorem ze50 : zeroT Try.prog 50 = some [.d (.s (.int .i64 0)), .d (.s (.int .i64 0)), .d (.s (.int .i64 0)), .d (.s (.int .i64 0)), .d (.s (.int .i64 0)), .d (.s (.int .i64 0)), .d (.s (.int .i64 0)), .d (.s (.int .i64 0))] := by kernel_rfl
@[simp] theorem fi50_0 : fieldT Try.prog 50 0 = some (0, 1, false) := by kernel_rfl
@[simp] theorem fi50_1 : fieldT Try.prog 50 1 = some (1, 7, true) := by kernel_rfl
@[simp] theorem pl50 : placesT Try.prog 50 = some [(0, 1), (1, 7)] := by kernel_rfl
@[simp] theorem sz51 : szOf Try.prog 51 = some 1 := by kernel_rfl
@[simp] theorem ag51 : aggT Try.prog 51 = some false := by kernel_rfl
@[simp] theorem un51 : unitT Try.prog 51 = some 1 := by kernel_rfl
@[simp] theorem ze51 : zeroT Try.prog 51 = some [.d (.s .nilFunc)] := by kernel_rfl
@[simp] theorem sz52 : szOf Try.prog 52 = some 1 := by kernel_rfl
@[simp] theorem ag52 : aggT Try.prog 52 = some false := by kernel_rfl
@[simp] theorem un52 : unitT Try.prog 52 = some 1 := by kernel_rfl
@[simp] theorem ze52 : zeroT Try.prog 52 = some [.d (.s .nilFunc)] := by kernel_rfl
@[simp] theorem sz53 : szOf Try.prog 53 = some 1 := by kernel_rfl
@[simp] theorem ag53 : aggT Try.prog 53 = some false := by kernel_rfl
@[simp] theorem un53 : unitT Try.prog 53 = some 1 := by kernel_rfl
@[simp] theorem ze53 : zeroT Try.prog 53 = some [.d (.s .nilFunc)] := by kernel_rfl
@[simp] theorem sz54 : szOf Try.prog 54 = some 1 := by kernel_rfl
@[simp] theorem ag54 : aggT Try.prog 54 = some false := by kernel_rfl
@[simp] theorem un54 : unitT Try.prog 54 = some 1 := by kernel_rfl
@[simp] theorem ze54 : zeroT Try.prog 54 = some [.d (.s .nilFunc)] := by kernel_rfl
@[simp] theorem sz55 : szOf Try.prog 55 = some 1 := by kernel_rfl
@[simp] theorem ag55 : aggT Try.prog 55 = some false := by kernel_rfl
@[simp] theorem un55 : unitT Try.prog 55 = some 1 := by kernel_rfl
@[simp] theorem ze55 : zeroT Try.prog 55 = some [.d (.s .nilFunc)] := by kernel_rfl
@[simp] theorem sz56 : szOf Try.prog 56 = some 1 := by kernel_rfl
@[simp] theorem ag56 : aggT Try.prog 56 = some false := by kernel_rfl
@[simp] theorem un56 : unitT Try.prog 56 = some 1 := by kernel_rfl
@[simp] theorem ze56 : zeroT Try.prog 56 = some [.d (.s .nilFunc)] := by kernel_rfl
@[simp] theorem sz57 : szOf Try.prog 57 = some 1 := by kernel_rfl
@[simp] theorem ag57 : aggT Try.prog 57 = some false := by kernel_rfl
@[simp] theorem un57 : unitT Try.prog 57 = some 1 := by kernel_rfl
@[simp] theorem ze57 : zeroT Try.prog 57 = some [.d (.s .nilFunc)] := by kernel_rfl
@[simp] theorem sz58 : szOf Try.prog 58 = some 1 := by kernel_rfl
@[simp] theorem ag58 : aggT Try.prog 58 = some false := by kernel_rfl
@[simp] theorem un58 : unitT Try.prog 58 = some 1 := by kernel_rfl
@[simp] theorem ze58 : zeroT Try.prog 58 = some [.d (.s .nilFunc)] := by kernel_rfl
@[simp] theorem sz59 : szOf Try.prog 59 = some 1 := by kernel_rfl
@[simp] theorem ag59 : aggT Try.prog 59 = some false := by kernel_rfl
@[simp] theorem un59 : unitT Try.prog 59 = some 1 := by kernel_rfl
@[simp] theorem ze59 : zeroT Try.prog 59 = some [.d (.s .nilFunc)] := by kernel_rfl
@[simp] theorem sz60 : szOf Try.prog 60 = some 1 := by kernel_rfl
@[simp] theorem ag60 : aggT Try.prog 60 = some false := by kernel_rfl
@[simp] theorem un60 : unitT Try.prog 60 = some 1 := by kernel_rfl
@[simp] theorem sz61 : szOf Try.prog 61 = some 1 := by kernel_rfl
@[simp] theorem ag61 : aggT Try.prog 61 = some false := by kernel_rfl
@[simp] theorem un61 : unitT Try.prog 61 = some 1 := by kernel_rfl
@[simp] theorem ze61 : zeroT Try.prog 61 = some [.d (.s .nilFunc)] := by kernel_rfl
@[simp] theorem sz62 : szOf Try.prog 62 = some 1 := by kernel_rfl
@[simp] theorem ag62 : aggT Try.prog 62 = some false := by kernel_rfl
@[simp] theorem un62 : unitT Try.prog 62 = some 1 := by kernel_rfl
@[simp] theorem ze62 : zeroT Try.prog 62 = some [.d (.s (.pointer none))] := by kernel_rfl
@[simp] theorem sz63 : szOf Try.prog 63 = some 1 := by kernel_rfl
@[simp] theorem ag63 : aggT Try.prog 63 = some false := by kernel_rfl
@[simp] theorem un63 : unitT Try.prog 63 = some 1 := by kernel_rfl
@[simp] theorem ze63 : zeroT Try.prog 63 = some [.d (.s .nilFunc)] := by kernel_rfl
@[simp] theorem sz64 : szOf Try.prog 64 = some 1 := by kernel_rfl
@[simp] theorem ag64 : aggT Try.prog 64 = some false := by kernel_rfl
@[simp] theorem un64 : unitT Try.prog 64 = some 1 := by kernel_rfl
@[simp] theorem ze64 : zeroT Try.prog 64 = some [.d (.s .nilFunc)] := by kernel_rfl
@[simp] theorem sz65 : szOf Try.prog 65 = some 1 := by kernel_rfl
@[simp] theorem ag65 : aggT Try.prog 65 = some false := by kernel_rfl
@[simp] theorem un65 : unitT Try.prog 65 = some 1 := by kernel_rfl
@[simp] theorem ze65 : zeroT Try.prog 65 = some [.d (.s .nilFunc)] := by kernel_rfl
@[simp] theorem sz66 : szOf Try.prog 66 = some 1 := by kernel_rfl
@[simp] theorem ag66 : aggT Try.prog 66 = some false := by kernel_rfl
@[simp] theorem un66 : unitT Try.prog 66 = some 1 := by kernel_rfl
@[simp] theorem ze66 : zeroT Try.prog 66 = some [.d (.s .nilFunc)] := by kernel_rfl
@[simp] theorem sz67 : szOf Try.prog 67 = some 1 := by kernel_rfl
@[simp] theorem ag67 : aggT Try.prog 67 = some false := by kernel_rfl
@[simp] theorem un67 : unitT Try.prog 67 = some 1 := by kernel_rfl
@[simp] theorem ze67 : zeroT Try.prog 67 = some [.d (.s .nilFunc)] := by kernel_rfl
@[simp] theorem sz68 : szOf Try.prog 68 = some 1 := by kernel_rfl
@[simp] theorem ag68 : aggT Try.prog 68 = some false := by kernel_rfl
@[simp] theorem un68 : unitT Try.prog 68 = some 1 := by kernel_rfl
@[simp] theorem ze68 : zeroT Try.prog 68 = some [.d (.s .nilFunc)] := by kernel_rfl
@[simp] theorem sz69 : szOf Try.prog 69 = some 1 := by kernel_rfl
@[simp] theorem ag69 : aggT Try.prog 69 = some false := by kernel_rfl
@[simp] theorem un69 : unitT Try.prog 69 = some 1 := by kernel_rfl
@[simp] theorem ze69 : zeroT Try.prog 69 = some [.d (.s .nilFunc)] := by kernel_rfl
@[simp] theorem sz70 : szOf Try.prog 70 = some 1 := by kernel_rfl
@[simp] theorem ag70 : aggT Try.prog 70 = some false := by kernel_rfl
@[simp] theorem un70 : unitT Try.prog 70 = some 1 := by kernel_rfl
@[simp] theorem ze70 : zeroT Try.prog 70 = some [.d (.s .nilFunc)] := by kernel_rfl
@[simp] theorem sz71 : szOf Try.prog 71 = some 1 := by kernel_rfl
@[simp] theorem ag71 : aggT Try.prog 71 = some false := by kernel_rfl
@[simp] theorem un71 : unitT Try.prog 71 = some 1 := by kernel_rfl
@[simp] theorem ze71 : zeroT Try.prog 71 = some [.d (.s .nilFunc)] := by kernel_rfl
@[simp] theorem sz72 : szOf Try.prog 72 = some 1 := by kernel_rfl
@[simp] theorem ag72 : aggT Try.prog 72 = some false := by kernel_rfl
@[simp] theorem un72 : unitT Try.prog 72 = some 1 := by kernel_rfl
@[simp] theorem ze72 : zeroT Try.prog 72 = some [.d (.s .nilFunc)] := by kernel_rfl
@[simp] theorem sz73 : szOf Try.prog 73 = some 3 := by kernel_rfl
@[simp] theorem ag73 : aggT Try.prog 73 = some true := by kernel_rfl
@[simp] theorem un73 : unitT Try.prog 73 = some 3 := by kernel_rfl
theorem kd73 : kindT Try.prog 12 73 = some [.int .i64, .int .i64, .int .i64] := by kernel_rfl
theorem eqk73 : eqT Try.prog 8 73 = some (true, [.int .i64, .int .i64, .int .i64]) := by kernel_rfl
theorem eqg73 : (Try.prog).eqGuardType (Try.prog).depth 73 = false := by kernel_rfl
@[simp] theorem neqA73 (a0 b0 : Int) (a1 b1 : Int) (a2 b2 : Int) (K : Value → Prop) : aggBin Try.prog .neq 73 [.d (.s (.int .i64 a0)), .d (.s (.int .i64 a1)), .d (.s (.int .i64 a2))] [.d (.s (.int .i64 b0)), .d (.s (.int .i64 b1)), .d (.s (.int .i64 b2))] K = K (.bool (!(eqVs [.int .i64 a0, .int .i64 a1, .int .i64 a2] [.int .i64 b0, .int .i64 b1, .int .i64 b2]))) := agg_neq (xs := [.int .i64 a0, .int .i64 a1, .int .i64 a2]) (ys := [.int .i64 b0, .int .i64 b1, .int .i64 b2]) eqk73 (by decide) eqg73 rfl rfl K
@[simp] theorem eqlA73 (a0 b0 : Int) (a1 b1 : Int) (a2 b2 : Int) (K : Value → Prop) : aggBin Try.prog .eql 73 [.d (.s (.int .i64 a0)), .d (.s (.int .i64 a1)), .d (.s (.int .i64 a2))] [.d (.s (.int .i64 b0)), .d (.s (.int .i64 b1)), .d (.s (.int .i64 b2))] K = K (.bool ((eqVs [.int .i64 a0, .int .i64 a1, .int .i64 a2] [.int .i64 b0, .int .i64 b1, .int .i64 b2]))) := agg_eql (xs := [.int .i64 a0, .int .i64 a1, .int .i64 a2]) (ys := [.int .i64 b0, .int .i64 b1, .int .i64 b2]) eqk73 (by decide) eqg73 rfl rfl K
@[simp] theorem ze73 : zeroT Try.prog 73 = some [.d (.s (.int .i64 0)), .d (.s (.int .i64 0)), .d (.s (.int .i64 0))] := by kernel_rfl
@[simp] theorem fi73_0 : fieldT Try.prog 73 0 = some (0, 1, false) := by kernel_rfl
@[simp] theorem fi73_1 : fieldT Try.prog 73 1 = some (1, 1, false) := by kernel_rfl
@[simp] theorem fi73_2 : fieldT Try.prog 73 2 = some (2, 1, false) := by kernel_rfl
@[simp] theorem pl73 : placesT Try.prog 73 = some [(0, 1), (1, 1), (2, 1)] := by kernel_rfl
@[simp] theorem sz74 : szOf Try.prog 74 = some 3 := by kernel_rfl
@[simp] theorem ag74 : aggT Try.prog 74 = some true := by kernel_rfl
@[simp] theorem un74 : unitT Try.prog 74 = some 3 := by kernel_rfl
theorem kd74 : kindT Try.prog 12 74 = some [.int .i64, .int .i64, .int .i64] := by kernel_rfl
theorem eqk74 : eqT Try.prog 8 74 = some (true, [.int .i64, .int .i64, .int .i64]) := by kernel_rfl
theorem eqg74 : (Try.prog).eqGuardType (Try.prog).depth 74 = false := by kernel_rfl
@[simp] theorem neqA74 (a0 b0 : Int) (a1 b1 : Int) (a2 b2 : Int) (K : Value → Prop) : aggBin Try.prog .neq 74 [.d (.s (.int .i64 a0)), .d (.s (.int .i64 a1)), .d (.s (.int .i64 a2))] [.d (.s (.int .i64 b0)), .d (.s (.int .i64 b1)), .d (.s (.int .i64 b2))] K = K (.bool (!(eqVs [.int .i64 a0, .int .i64 a1, .int .i64 a2] [.int .i64 b0, .int .i64 b1, .int .i64 b2]))) := agg_neq (xs := [.int .i64 a0, .int .i64 a1, .int .i64 a2]) (ys := [.int .i64 b0, .int .i64 b1, .int .i64 b2]) eqk74 (by decide) eqg74 rfl rfl K
@[simp] theorem eqlA74 (a0 b0 : Int) (a1 b1 : Int) (a2 b2 : Int) (K : Value → Prop) : aggBin Try.prog .eql 74 [.d (.s (.int .i64 a0)), .d (.s (.int .i64 a1)), .d (.s (.int .i64 a2))] [.d (.s (.int .i64 b0)), .d (.s (.int .i64 b1)), .d (.s (.int .i64 b2))] K = K (.bool ((eqVs [.int .i64 a0, .int .i64 a1, .int .i64 a2] [.int .i64 b0, .int .i64 b1, .int .i64 b2]))) := agg_eql (xs := [.int .i64 a0, .int .i64 a1, .int .i64 a2]) (ys := [.int .i64 b0, .int .i64 b1, .int .i64 b2]) eqk74 (by decide) eqg74 rfl rfl K
@[simp] theorem ze74 : zeroT Try.prog 74 = some [.d (.s (.int .i64 0)), .d (.s (.int .i64 0)), .d (.s (.int .i64 0))] := by kernel_rfl
@[simp] theorem fi74_0 : fieldT Try.prog 74 0 = some (0, 1, false) := by kernel_rfl
@[simp] theorem fi74_1 : fieldT Try.prog 74 1 = some (1, 1, false) := by kernel_rfl
@[simp] theorem fi74_2 : fieldT Try.prog 74 2 = some (2, 1, false) := by kernel_rfl
@[simp] theorem pl74 : placesT Try.prog 74 = some [(0, 1), (1, 1), (2, 1)] := by kernel_rfl
@[simp] theorem sz75 : szOf Try.prog 75 = some 1 := by kernel_rfl
@[simp] theorem ag75 : aggT Try.prog 75 = some false := by kernel_rfl
@[simp] theorem un75 : unitT Try.prog 75 = some 1 := by kernel_rfl
@[simp] theorem ze75 : zeroT Try.prog 75 = some [.d (.s (.pointer none))] := by kernel_rfl
@[simp] theorem sz76 : szOf Try.prog 76 = some 1 := by kernel_rfl
@[simp] theorem ag76 : aggT Try.prog 76 = some false := by kernel_rfl
@[simp] theorem un76 : unitT Try.prog 76 = some 1 := by kernel_rfl
@[simp] theorem ze76 : zeroT Try.prog 76 = some [.d (.s .nilFunc)] := by kernel_rfl
@[simp] theorem sz77 : szOf Try.prog 77 = some 1 := by kernel_rfl
@[simp] theorem ag77 : aggT Try.prog 77 = some false := by kernel_rfl
@[simp] theorem un77 : unitT Try.prog 77 = some 1 := by kernel_rfl
@[simp] theorem ze77 : zeroT Try.prog 77 = some [.d (.s .nilFunc)] := by kernel_rfl
@[simp] theorem sz78 : szOf Try.prog 78 = some 1 := by kernel_rfl
@[simp] theorem ag78 : aggT Try.prog 78 = some false := by kernel_rfl
@[simp] theorem un78 : unitT Try.prog 78 = some 1 := by kernel_rfl
@[simp] theorem ze78 : zeroT Try.prog 78 = some [.d (.s .nilFunc)] := by kernel_rfl
@[simp] theorem sz79 : szOf Try.prog 79 = some 1 := by kernel_rfl
@[simp] theorem ag79 : aggT Try.prog 79 = some false := by kernel_rfl
@[simp] theorem un79 : unitT Try.prog 79 = some 1 := by kernel_rfl
@[simp] theorem ze79 : zeroT Try.prog 79 = some [.d (.s .nilFunc)] := by kernel_rfl
@[simp] theorem sz80 : szOf Try.prog 80 = some 1 := by kernel_rfl
@[simp] theorem ag80 : aggT Try.prog 80 = some false := by kernel_rfl
@[simp] theorem un80 : unitT Try.prog 80 = some 1 := by kernel_rfl
@[simp] theorem ze80 : zeroT Try.prog 80 = some [.d (.s .nilFunc)] := by kernel_rfl
@[simp] theorem sz81 : szOf Try.prog 81 = some 1 := by kernel_rfl
@[simp] theorem ag81 : aggT Try.prog 81 = some false := by kernel_rfl
@[simp] theorem un81 : unitT Try.prog 81 = some 1 := by kernel_rfl
@[simp] theorem ze81 : zeroT Try.prog 81 = some [.d (.s .nilFunc)] := by kernel_rfl
@[simp] theorem sz82 : szOf Try.prog 82 = some 1 := by kernel_rfl
@[simp] theorem ag82 : aggT Try.prog 82 = some false := by kernel_rfl
@[simp] theorem un82 : unitT Try.prog 82 = some 1 := by kernel_rfl
@[simp] theorem ze82 : zeroT Try.prog 82 = some [.d (.s .nilFunc)] := by kernel_rfl
@[simp] theorem sz83 : szOf Try.prog 83 = some 1 := by kernel_rfl
@[simp] theorem ag83 : aggT Try.prog 83 = some false := by kernel_rfl
@[simp] theorem un83 : unitT Try.prog 83 = some 1 := by kernel_rfl
@[simp] theorem ze83 : zeroT Try.prog 83 = some [.d (.s .nilFunc)] := by kernel_rfl
@[simp] theorem sz84 : szOf Try.prog 84 = some 1 := by kernel_rfl
@[simp] theorem ag84 : aggT Try.prog 84 = some false := by kernel_rfl
@[simp] theorem un84 : unitT Try.prog 84 = some 1 := by kernel_rfl
@[simp] theorem ze84 : zeroT Try.prog 84 = some [.d (.s .nilFunc)] := by kernel_rfl
@[simp] theorem sz85 : szOf Try.prog 85 = some 1 := by kernel_rfl
@[simp] theorem ag85 : aggT Try.prog 85 = some false := by kernel_rfl
@[simp] theorem un85 : unitT Try.prog 85 = some 1 := by kernel_rfl
@[simp] theorem ze85 : zeroT Try.prog 85 = some [.d (.s .nilFunc)] := by kernel_rfl
@[simp] theorem sz86 : szOf Try.prog 86 = some 1 := by kernel_rfl
@[simp] theorem ag86 : aggT Try.prog 86 = some false := by kernel_rfl
@[simp] theorem un86 : unitT Try.prog 86 = some 1 := by kernel_rfl
@[simp] theorem sz87 : szOf Try.prog 87 = some 1 := by kernel_rfl
@[simp] theorem ag87 : aggT Try.prog 87 = some false := by kernel_rfl
@[simp] theorem un87 : unitT Try.prog 87 = some 1 := by kernel_rfl
@[simp] theorem ze87 : zeroT Try.prog 87 = some [.d (.s .nilFunc)] := by kernel_rfl
@[simp] theorem sz88 : szOf Try.prog 88 = some 1 := by kernel_rfl
@[simp] theorem ag88 : aggT Try.prog 88 = some false := by kernel_rfl
@[simp] theorem un88 : unitT Try.prog 88 = some 1 := by kernel_rfl
@[simp] theorem ze88 : zeroT Try.prog 88 = some [.d (.s .nilFunc)] := by kernel_rfl
@[simp] theorem sz89 : szOf Try.prog 89 = some 1 := by kernel_rfl
@[simp] theorem ag89 : aggT Try.prog 89 = some false := by kernel_rfl
@[simp] theorem un89 : unitT Try.prog 89 = some 1 := by kernel_rfl
@[simp] theorem ze89 : zeroT Try.prog 89 = some [.d (.s .nilFunc)] := by kernel_rfl
@[simp] theorem sz90 : szOf Try.prog 90 = some 1 := by kernel_rfl
@[simp] theorem ag90 : aggT Try.prog 90 = some false := by kernel_rfl
@[simp] theorem un90 : unitT Try.prog 90 = some 1 := by kernel_rfl
@[simp] theorem ze90 : zeroT Try.prog 90 = some [.d (.s .nilFunc)] := by kernel_rfl
@[simp] theorem sz91 : szOf Try.prog 91 = some 1 := by kernel_rfl
@[simp] theorem ag91 : aggT Try.prog 91 = some false := by kernel_rfl
@[simp] theorem un91 : unitT Try.prog 91 = some 1 := by kernel_rfl
theorem kd91 : kindT Try.prog 12 91 = some [.slice [.int .i64, .int .i64, .int .i64]] := by kernel_rfl
@[simp] theorem sl91 : sliceT Try.prog 91 = some (74, 3, 24) := by kernel_rfl
@[simp] theorem ze91 : zeroT Try.prog 91 = some [.d .nil] := by kernel_rfl
@[simp] theorem sz92 : szOf Try.prog 92 = some 2 := by kernel_rfl
@[simp] theorem ag92 : aggT Try.prog 92 = some true := by kernel_rfl
@[simp] theorem un92 : unitT Try.prog 92 = some 2 := by kernel_rfl
theorem kd92 : kindT Try.prog 12 92 = some [.slice [.int .u8], .int .i64] := by kernel_rfl
@[simp] theorem ze92 : zeroT Try.prog 92 = some [.d .nil, .d (.s (.int .i64 0))] := by kernel_rfl
@[simp] theorem fi92_0 : fieldT Try.prog 92 0 = some (0, 1, false) := by kernel_rfl
@[simp] theorem fi92_1 : fieldT Try.prog 92 1 = some (1, 1, false) := by kernel_rfl
@[simp] theorem pl92 : placesT Try.prog 92 = some [(0, 1), (1, 1)] := by kernel_rfl
@[simp] theorem sz93 : szOf Try.prog 93 = some 2 := by kernel_rfl
@[simp] theorem ag93 : aggT Try.prog 93 = some true := by kernel_rfl
@[simp] theorem un93 : unitT Try.prog 93 = some 2 := by kernel_rfl
theorem kd93 : kindT Try.prog 12 93 = some [.slice [.int .u8], .int .i64] := by kernel_rfl
@[simp] theorem ze93 : zeroT Try.prog 93 = some [.d .nil, .d (.s (.int .i64 0))] := by kernel_rfl
@[simp] theorem fi93_0 : fieldT Try.prog 93 0 = some (0, 1, false) := by kernel_rfl
@[simp] theorem fi93_1 : fieldT Try.prog 93 1 = some (1, 1, false) := by kernel_rfl
@[simp] theorem pl93 : placesT Try.prog 93 = some [(0, 1), (1, 1)] := by kernel_rfl
@[simp] theorem sz94 : szOf Try.prog 94 = some 1 := by kernel_rfl
@[simp] theorem ag94 : aggT Try.prog 94 = some false := by kernel_rfl
@[simp] theorem un94 : unitT Try.prog 94 = some 1 := by kernel_rfl
@[simp] theorem ze94 : zeroT Try.prog 94 = some [.d (.s .nilFunc)] := by kernel_rfl
@[simp] theorem sz95 : szOf Try.prog 95 = some 1 := by kernel_rfl
@[simp] theorem ag95 : aggT Try.prog 95 = some false := by kernel_rfl
@[simp] theorem un95 : unitT Try.prog 95 = some 1 := by kernel_rfl
@[simp] theorem ze95 : zeroT Try.prog 95 = some [.d (.s .nilFunc)] := by kernel_rfl
@[simp] theorem sz96 : szOf Try.prog 96 = some 1 := by kernel_rfl
@[simp] theorem ag96 : aggT Try.prog 96 = some false := by kernel_rfl
@[simp] theorem un96 : unitT Try.prog 96 = some 1 := by kernel_rfl
@[simp] theorem sz97 : szOf Try.prog 97 = some 1 := by kernel_rfl
@[simp] theorem ag97 : aggT Try.prog 97 = some false := by kernel_rfl
@[simp] theorem un97 : unitT Try.prog 97 = some 1 := by kernel_rfl
@[simp] theorem mpT97 : mapT Try.prog 97 = some (38, 30) := by kernel_rfl
@[simp] theorem ze97 : zeroT Try.prog 97 = some [.d (.s (.map none))] := by kernel_rfl
@[simp] theorem sz98 : szOf Try.prog 98 = some 1 := by kernel_rfl
@[simp] theorem ag98 : aggT Try.prog 98 = some false := by kernel_rfl
@[simp] theorem un98 : unitT Try.prog 98 = some 1 := by kernel_rfl
@[simp] theorem ze98 : zeroT Try.prog 98 = some [.d (.s .nilFunc)] := by kernel_rfl
@[simp] theorem sz99 : szOf Try.prog 99 = some 1 := by kernel_rfl
@[simp] theorem ag99 : aggT Try.prog 99 = some false := by kernel_rfl
@[simp] theorem un99 : unitT Try.prog 99 = some 1 := by kernel_rfl
@[simp] theorem ze99 : zeroT Try.prog 99 = some [.d (.s .nilFunc)] := by kernel_rfl
@[simp] theorem sz100 : szOf Try.prog 100 = some 1 := by kernel_rfl
@[simp] theorem ag100 : aggT Try.prog 100 = some false := by kernel_rfl
@[simp] theorem un100 : unitT Try.prog 100 = some 1 := by kernel_rfl
@[simp] theorem ze100 : zeroT Try.prog 100 = some [.d (.s .nilFunc)] := by kernel_rfl
@[simp] theorem sz101 : szOf Try.prog 101 = some 1 := by kernel_rfl
@[simp] theorem ag101 : aggT Try.prog 101 = some false := by kernel_rfl
@[simp] theorem un101 : unitT Try.prog 101 = some 1 := by kernel_rfl
theorem kd101 : kindT Try.prog 12 101 = some [.slice [.int .i64, .bool, .int .i64, .int .i64, .int .i64, .int .i64, .int .i64, .int .i64, .int .i64]] := by kernel_rfl
@[simp] theorem sl101 : sliceT Try.prog 101 = some (116, 9, 72) := by kernel_rfl
@[simp] theorem ze101 : zeroT Try.prog 101 = some [.d .nil] := by kernel_rfl
@[simp] theorem sz102 : szOf Try.prog 102 = some 3 := by kernel_rfl
@[simp] theorem ag102 : aggT Try.prog 102 = some true := by kernel_rfl
@[simp] theorem un102 : unitT Try.prog 102 = some 3 := by kernel_rfl
theorem kd102 : kindT Try.prog 12 102 = some [.int .i64, .slice [.int .i64, .int .i64, .int .i64, .int .i64, .int .i64, .int .i64, .int .i64], .slice [.int .i64, .bool, .int .i64, .int .i64, .int .i64, .int .i64, .int .i64, .int .i64, .int .i64]] := by kernel_rfl
@[simp] theorem ze102 : zeroT Try.prog 102 = some [.d (.s (.int .i64 0)), .d .nil, .d .nil] := by kernel_rfl
@[simp] theorem fi102_0 : fieldT Try.prog 102 0 = some (0, 1, false) := by kernel_rfl
@[simp] theorem fi102_1 : fieldT Try.prog 102 1 = some (1, 1, false) := by kernel_rfl
@[simp] theorem fi102_2 : fieldT Try.prog 102 2 = some (2, 1, false) := by kernel_rfl
@[simp] theorem pl102 : placesT Try.prog 102 = some [(0, 1), (1, 1), (2, 1)] := by kernel_rfl
@[simp] theorem sz103 : szOf Try.prog 103 = some 3 := by kernel_rfl
@[simp] theorem ag103 : aggT Try.prog 103 = some true := by kernel_rfl
@[simp] theorem un103 : unitT Try.prog 103 = some 3 := by kernel_rfl
theorem kd103 : kindT Try.prog 12 103 = some [.int .i64, .slice [.int .i64, .int .i64, .int .i64, .int .i64, .int .i64, .int .i64, .int .i64], .slice [.int .i64, .bool, .int .i64, .int .i64, .int .i64, .int .i64, .int .i64, .int .i64, .int .i64]] := by kernel_rfl
@[simp] theorem ze103 : zeroT Try.prog 103 = some [.d (.s (.int .i64 0)), .d .nil, .d .nil] := by kernel_rfl
@[simp] theorem fi103_0 : fieldT Try.prog 103 0 = some (0, 1, false) := by kernel_rfl
@[simp] theorem fi103_1 : fieldT Try.prog 103 1 = some (1, 1, false) := by kernel_rfl
@[simp] theorem fi103_2 : fieldT Try.prog 103 2 = some (2, 1, false) := by kernel_rfl
@[simp] theorem pl103 : placesT Try.prog 103 = some [(0, 1), (1, 1), (2, 1)] := by kernel_rfl
@[simp] theorem sz104 : szOf Try.prog 104 = some 1 := by kernel_rfl
@[simp] theorem ag104 : aggT Try.prog 104 = some false := by kernel_rfl
@[simp] theorem un104 : unitT Try.prog 104 = some 1 := by kernel_rfl
@[simp] theorem ze104 : zeroT Try.prog 104 = some [.d (.s .nilFunc)] := by kernel_rfl
@[simp] theorem sz105 : szOf Try.prog 105 = some 1 := by kernel_rfl
@[simp] theorem ag105 : aggT Try.prog 105 = some false := by kernel_rfl
@[simp] theorem un105 : unitT Try.prog 105 = some 1 := by kernel_rfl
@[simp] theorem ze105 : zeroT Try.prog 105 = some [.d (.s .nilFunc)] := by kernel_rfl
@[simp] theorem sz106 : szOf Try.prog 106 = some 1 := by kernel_rfl
@[simp] theorem ag106 : aggT Try.prog 106 = some false := by kernel_rfl
@[simp] theorem un106 : unitT Try.prog 106 = some 1 := by kernel_rfl
@[simp] theorem ze106 : zeroT Try.prog 106 = some [.d (.s (.pointer none))] := by kernel_rfl
@[simp] theorem sz107 : szOf Try.prog 107 = some 1 := by kernel_rfl
@[simp] theorem ag107 : aggT Try.prog 107 = some false := by kernel_rfl
@[simp] theorem un107 : unitT Try.prog 107 = some 1 := by kernel_rfl
@[simp] theorem ze107 : zeroT Try.prog 107 = some [.d (.s .nilFunc)] := by kernel_rfl
@[simp] theorem sz108 : szOf Try.prog 108 = some 1 := by kernel_rfl
@[simp] theorem ag108 : aggT Try.prog 108 = some false := by kernel_rfl
@[simp] theorem un108 : unitT Try.prog 108 = some 1 := by kernel_rfl
@[simp] theorem ze108 : zeroT Try.prog 108 = some [.d (.s .nilFunc)] := by kernel_rfl
@[simp] theorem sz109 : szOf Try.prog 109 = some 1 := by kernel_rfl
@[simp] theorem ag109 : aggT Try.prog 109 = some false := by kernel_rfl
@[simp] theorem un109 : unitT Try.prog 109 = some 1 := by kernel_rfl
@[simp] theorem ze109 : zeroT Try.prog 109 = some [.d (.s (.pointer none))] := by kernel_rfl
@[simp] theorem sz110 : szOf Try.prog 110 = some 1 := by kernel_rfl
@[simp] theorem ag110 : aggT Try.prog 110 = some false := by kernel_rfl
@[simp] theorem un110 : unitT Try.prog 110 = some 1 := by kernel_rfl
@[simp] theorem ze110 : zeroT Try.prog 110 = some [.d (.s .nilFunc)] := by kernel_rfl
@[simp] theorem sz111 : szOf Try.prog 111 = some 1 := by kernel_rfl
@[simp] theorem ag111 : aggT Try.prog 111 = some false := by kernel_rfl
@[simp] theorem un111 : unitT Try.prog 111 = some 1 := by kernel_rfl
@[simp] theorem ze111 : zeroT Try.prog 111 = some [.d (.s .nilFunc)] := by kernel_rfl
@[simp] theorem sz112 : szOf Try.prog 112 = some 1 := by kernel_rfl
@[simp] theorem ag112 : aggT Try.prog 112 = some false := by kernel_rfl
@[simp] theorem un112 : unitT Try.prog 112 = some 1 := by kernel_rfl
@[simp] theorem ze112 : zeroT Try.prog 112 = some [.d (.s .nilFunc)] := by kernel_rfl
@[simp] theorem sz113 : szOf Try.prog 113 = some 1 := by kernel_rfl
@[simp] theorem ag113 : aggT Try.prog 113 = some false := by kernel_rfl
@[simp] theorem un113 : unitT Try.prog 113 = some 1 := by kernel_rfl
@[simp] theorem ze113 : zeroT Try.prog 113 = some [.d (.s .nilFunc)] := by kernel_rfl
@[simp] theorem sz114 : szOf Try.prog 114 = some 1 := by kernel_rfl
@[simp] theorem ag114 : aggT Try.prog 114 = some false := by kernel_rfl
@[simp] theorem un114 : unitT Try.prog 114 = some 1 := by kernel_rfl
@[simp] theorem ze114 : zeroT Try.prog 114 = some [.d (.s .nilFunc)] := by kernel_rfl
@[simp] theorem sz115 : szOf Try.prog 115 = some 9 := by kernel_rfl
@[simp] theorem ag115 : aggT Try.prog 115 = some true := by kernel_rfl
@[simp] theorem un115 : unitT Try.prog 115 = some 9 := by kernel_rfl
theorem kd115 : kindT Try.prog 12 115 = some [.int .i64, .bool, .int .i64, .int .i64, .int .i64, .int .i64, .int .i64, .int .i64, .int .i64] := by kernel_rfl
theorem eqk115 : eqT Try.prog 8 115 = some (true, [.int .i64, .bool, .int .i64, .int .i64, .int .i64, .int .i64, .int .i64, .int .i64, .int .i64]) := by kernel_rfl
theorem eqg115 : (Try.prog).eqGuardType (Try.prog).depth 115 = false := by kernel_rfl
@[simp] theorem neqA115 (a0 b0 : Int) (a1 b1 : Bool) (a2 b2 : Int) (a3 b3 : Int) (a4 b4 : Int) (a5 b5 : Int) (a6 b6 : Int) (a7 b7 : Int) (a8 b8 : Int) (K : Value → Prop) : aggBin Try.prog .neq 115 [.d (.s (.int .i64 a0)), .d (.s (.bool a1)), .d (.s (.int .i64 a2)), .d (.s (.int .i64 a3)), .d (.s (.int .i64 a4)), .d (.s (.int .i64 a5)), .d (.s (.int .i64 a6)), .d (.s (.int .i64 a7)), .d (.s (.int .i64 a8))] [.d (.s (.int .i64 b0)), .d (.s (.bool b1)), .d (.s (.int .i64 b2)), .d (.s (.int .i64 b3)), .d (.s (.int .i64 b4)), .d (.s (.int .i64 b5)), .d (.s (.int .i64 b6)), .d (.s (.int .i64 b7)), .d (.s (.int .i64 b8))] K = K (.bool (!(eqVs [.int .i64 a0, .bool a1, .int .i64 a2, .int .i64 a3, .int .i64 a4, .int .i64 a5, .int .i64 a6, .int .i64 a7, .int .i64 a8] [.int .i64 b0, .bool b1, .int .i64 b2, .int .i64 b3, .int .i64 b4, .int .i64 b5, .int .i64 b6, .int .i64 b7, .int .i64 b8]))) := agg_neq (xs := [.int .i64 a0, .bool a1, .int .i64 a2, .int .i64 a3, .int .i64 a4, .int .i64 a5, .int .i64 a6, .int .i64 a7, .int .i64 a8]) (ys := [.int .i64 b0, .bool b1, .int .i64 b2, .int .i64 b3, .int .i64 b4, .int .i64 b5, .int .i64 b6, .int .i64 b7, .int .i64 b8]) eqk115 (by decide) eqg115 rfl rfl K
@[simp] theorem eqlA115 (a0 b0 : Int) (a1 b1 : Bool) (a2 b2 : Int) (a3 b3 : Int) (a4 b4 : Int) (a5 b5 : Int) (a6 b6 : Int) (a7 b7 : Int) (a8 b8 : Int) (K : Value → Prop) : aggBin Try.prog .eql 115 [.d (.s (.int .i64 a0)), .d (.s (.bool a1)), .d (.s (.int .i64 a2)), .d (.s (.int .i64 a3)), .d (.s (.int .i64 a4)), .d (.s (.int .i64 a5)), .d (.s (.int .i64 a6)), .d (.s (.int .i64 a7)), .d (.s (.int .i64 a8))] [.d (.s (.int .i64 b0)), .d (.s (.bool b1)), .d (.s (.int .i64 b2)), .d (.s (.int .i64 b3)), .d (.s (.int .i64 b4)), .d (.s (.int .i64 b5)), .d (.s (.int .i64 b6)), .d (.s (.int .i64 b7)), .d (.s (.int .i64 b8))] K = K (.bool ((eqVs [.int .i64 a0, .bool a1, .int .i64 a2, .int .i64 a3, .int .i64 a4, .int .i64 a5, .int .i64 a6, .int .i64 a7, .int .i64 a8] [.int .i64 b0, .bool b1, .int .i64 b2, .int .i64 b3, .int .i64 b4, .int .i64 b5, .int .i64 b6, .int .i64 b7, .int .i64 b8]))) := agg_eql (xs := [.int .i64 a0, .bool a1, .int .i64 a2, .int .i64 a3, .int .i64 a4, .int .i64 a5, .int .i64 a6, .int .i64 a7, .int .i64 a8]) (ys := [.int .i64 b0, .bool b1, .int .i64 b2, .int .i64 b3, .int .i64 b4, .int .i64 b5, .int .i64 b6, .int .i64 b7, .int .i64 b8]) eqk115 (by decide) eqg115 rfl rfl K
@[simp] theorem ze115 : zeroT Try.prog 115 = some [.d (.s (.int .i64 0)), .d (.s (.bool false)), .d (.s (.int .i64 0)), .d (.s (.int .i64 0)), .d (.s (.int .i64 0)), .d (.s (.int .i64 0)), .d (.s (.int .i64 0)), .d (.s (.int .i64 0)), .d (.s (.int .i64 0))] := by kernel_rfl
@[simp] theorem fi115_0 : fieldT Try.prog 115 0 = some (0, 1, false) := by kernel_rfl
@[simp] theorem fi115_1 : fieldT Try.prog 115 1 = some (1, 1, false) := by kernel_rfl
@[simp] theorem fi115_2 : fieldT Try.prog 115 2 = some (2, 7, true) := by kernel_rfl
@[simp] theorem pl115 : placesT Try.prog 115 = some [(0, 1), (1, 1), (2, 7)] := by kernel_rfl
@[simp] theorem sz116 : szOf Try.prog 116 = some 9 := by kernel_rfl
@[simp] theorem ag116 : aggT Try.prog 116 = some true := by kernel_rfl
@[simp] theorem un116 : unitT Try.prog 116 = some 9 := by kernel_rfl
theorem kd116 : kindT Try.prog 12 116 = some [.int .i64, .bool, .int .i64, .int .i64, .int .i64, .int .i64, .int .i64, .int .i64, .int .i64] := by kernel_rfl
theorem eqk116 : eqT Try.prog 8 116 = some (true, [.int .i64, .bool, .int .i64, .int .i64, .int .i64, .int .i64, .int .i64, .int .i64, .int .i64]) := by kernel_rfl
theorem eqg116 : (Try.prog).eqGuardType (Try.prog).depth 116 = false := by kernel_rfl
@[simp] theorem neqA116 (a0 b0 : Int) (a1 b1 : Bool) (a2 b2 : Int) (a3 b3 : Int) (a4 b4 : Int) (a5 b5 : Int) (a6 b6 : Int) (a7 b7 : Int) (a8 b8 : Int) (K : Value → Prop) : aggBin Try.prog .neq 116 [.d (.s (.int .i64 a0)), .d (.s (.bool a1)), .d (.s (.int .i64 a2)), .d (.s (.int .i64 a3)), .d (.s (.int .i64 a4)), .d (.s (.int .i64 a5)), .d (.s (.int .i64 a6)), .d (.s (.int .i64 a7)), .d (.s (.int .i64 a8))] [.d (.s (.int .i64 b0)), .d (.s (.bool b1)), .d (.s (.int .i64 b2)), .d (.s (.int .i64 b3)), .d (.s (.int .i64 b4)), .d (.s (.int .i64 b5)), .d (.s (.int .i64 b6)), .d (.s (.int .i64 b7)), .d (.s (.int .i64 b8))] K = K (.bool (!(eqVs [.int .i64 a0, .bool a1, .int .i64 a2, .int .i64 a3, .int .i64 a4, .int .i64 a5, .int .i64 a6, .int .i64 a7, .int .i64 a8] [.int .i64 b0, .bool b1, .int .i64 b2, .int .i64 b3, .int .i64 b4, .int .i64 b5, .int .i64 b6, .int .i64 b7, .int .i64 b8]))) := agg_neq (xs := [.int .i64 a0, .bool a1, .int .i64 a2, .int .i64 a3, .int .i64 a4, .int .i64 a5, .int .i64 a6, .int .i64 a7, .int .i64 a8]) (ys := [.int .i64 b0, .bool b1, .int .i64 b2, .int .i64 b3, .int .i64 b4, .int .i64 b5, .int .i64 b6, .int .i64 b7, .int .i64 b8]) eqk116 (by decide) eqg116 rfl rfl K
@[simp] theorem eqlA116 (a0 b0 : Int) (a1 b1 : Bool) (a2 b2 : Int) (a3 b3 : Int) (a4 b4 : Int) (a5 b5 : Int) (a6 b6 : Int) (a7 b7 : Int) (a8 b8 : Int) (K : Value → Prop) : aggBin Try.prog .eql 116 [.d (.s (.int .i64 a0)), .d (.s (.bool a1)), .d (.s (.int .i64 a2)), .d (.s (.int .i64 a3)), .d (.s (.int .i64 a4)), .d (.s (.int .i64 a5)), .d (.s (.int .i64 a6)), .d (.s (.int .i64 a7)), .d (.s (.int .i64 a8))] [.d (.s (.int .i64 b0)), .d (.s (.bool b1)), .d (.s (.int .i64 b2)), .d (.s (.int .i64 b3)), .d (.s (.int .i64 b4)), .d (.s (.int .i64 b5)), .d (.s (.int .i64 b6)), .d (.s (.int .i64 b7)), .d (.s (.int .i64 b8))] K = K (.bool ((eqVs [.int .i64 a0, .bool a1, .int .i64 a2, .int .i64 a3, .int .i64 a4, .int .i64 a5, .int .i64 a6, .int .i64 a7, .int .i64 a8] [.int .i64 b0, .bool b1, .int .i64 b2, .int .i64 b3, .int .i64 b4, .int .i64 b5, .int .i64 b6, .int .i64 b7, .int .i64 b8]))) := agg_eql (xs := [.int .i64 a0, .bool a1, .int .i64 a2, .int .i64 a3, .int .i64 a4, .int .i64 a5, .int .i64 a6, .int .i64 a7, .int .i64 a8]) (ys := [.int .i64 b0, .bool b1, .int .i64 b2, .int .i64 b3, .int .i64 b4, .int .i64 b5, .int .i64 b6, .int .i64 b7, .int .i64 b8]) eqk116 (by decide) eqg116 rfl rfl K
@[simp] theorem ze116 : zeroT Try.prog 116 = some [.d (.s (.int .i64 0)), .d (.s (.bool false)), .d (.s (.int .i64 0)), .d (.s (.int .i64 0)), .d (.s (.int .i64 0)), .d (.s (.int .i64 0)), .d (.s (.int .i64 0)), .d (.s (.int .i64 0)), .d (.s (.int .i64 0))] := by kernel_rfl
@[simp] theorem fi116_0 : fieldT Try.prog 116 0 = some (0, 1, false) := by kernel_rfl
@[simp] theorem fi116_1 : fieldT Try.prog 116 1 = some (1, 1, false) := by kernel_rfl
@[simp] theorem fi116_2 : fieldT Try.prog 116 2 = some (2, 7, true) := by kernel_rfl
@[simp] theorem pl116 : placesT Try.prog 116 = some [(0, 1), (1, 1), (2, 7)] := by kernel_rfl
@[simp] theorem sz117 : szOf Try.prog 117 = some 1 := by kernel_rfl
@[simp] theorem ag117 : aggT Try.prog 117 = some false := by kernel_rfl
@[simp] theorem un117 : unitT Try.prog 117 = some 1 := by kernel_rfl
@[simp] theorem ze117 : zeroT Try.prog 117 = some [.d (.s .nilFunc)] := by kernel_rfl
@[simp] theorem sz118 : szOf Try.prog 118 = some 1 := by kernel_rfl
@[simp] theorem ag118 : aggT Try.prog 118 = some false := by kernel_rfl
@[simp] theorem un118 : unitT Try.prog 118 = some 1 := by kernel_rfl
@[simp] theorem ze118 : zeroT Try.prog 118 = some [.d (.s (.pointer none))] := by kernel_rfl
@[simp] theorem sz119 : szOf Try.prog 119 = some 1 := by kernel_rfl
@[simp] theorem ag119 : aggT Try.prog 119 = some false := by kernel_rfl
@[simp] theorem un119 : unitT Try.prog 119 = some 1 := by kernel_rfl
@[simp] theorem ze119 : zeroT Try.prog 119 = some [.d (.s .nilFunc)] := by kernel_rfl
@[simp] theorem sz120 : szOf Try.prog 120 = some 8 := by kernel_rfl
@[simp] theorem ag120 : aggT Try.prog 120 = some true := by kernel_rfl
@[simp] theorem un120 : unitT Try.prog 120 = some 8 := by kernel_rfl
theorem kd120 : kindT Try.prog 12 120 = some [.bool, .int .i64, .int .i64, .int .i64, .int .i64, .int .i64, .int .i64, .int .i64] := by kernel_rfl
theorem eqk120 : eqT Try.prog 8 120 = some (true, [.bool, .int .i64, .int .i64, .int .i64, .int .i64, .int .i64, .int .i64, .int .i64]) := by kernel_rfl
theorem eqg120 : (Try.prog).eqGuardType (Try.prog).depth 120 = false := by kernel_rfl
@[simp] theorem neqA120 (a0 b0 : Bool) (a1 b1 : Int) (a2 b2 : Int) (a3 b3 : Int) (a4 b4 : Int) (a5 b5 : Int) (a6 b6 : Int) (a7 b7 : Int) (K : Value → Prop) : aggBin Try.prog .neq 120 [.d (.s (.bool a0)), .d (.s (.int .i64 a1)), .d (.s (.int .i64 a2)), .d (.s (.int .i64 a3)), .d (.s (.int .i64 a4)), .d (.s (.int .i64 a5)), .d (.s (.int .i64 a6)), .d (.s (.int .i64 a7))] [.d (.s (.bool b0)), .d (.s (.int .i64 b1)), .d (.s (.int .i64 b2)), .d (.s (.int .i64 b3)), .d (.s (.int .i64 b4)), .d (.s (.int .i64 b5)), .d (.s (.int .i64 b6)), .d (.s (.int .i64 b7))] K = K (.bool (!(eqVs [.bool a0, .int .i64 a1, .int .i64 a2, .int .i64 a3, .int .i64 a4, .int .i64 a5, .int .i64 a6, .int .i64 a7] [.bool b0, .int .i64 b1, .int .i64 b2, .int .i64 b3, .int .i64 b4, .int .i64 b5, .int .i64 b6, .int .i64 b7]))) := agg_neq (xs := [.bool a0, .int .i64 a1, .int .i64 a2, .int .i64 a3, .int .i64 a4, .int .i64 a5, .int .i64 a6, .int .i64 a7]) (ys := [.bool b0, .int .i64 b1, .int .i64 b2, .int .i64 b3, .int .i64 b4, .int .i64 b5, .int .i64 b6, .int .i64 b7]) eqk120 (by decide) eqg120 rfl rfl K
@[simp] theorem eqlA120 (a0 b0 : Bool) (a1 b1 : Int) (a2 b2 : Int) (a3 b3 : Int) (a4 b4 : Int) (a5 b5 : Int) (a6 b6 : Int) (a7 b7 : Int) (K : Value → Prop) : aggBin Try.prog .eql 120 [.d (.s (.bool a0)), .d (.s (.int .i64 a1)), .d (.s (.int .i64 a2)), .d (.s (.int .i64 a3)), .d (.s (.int .i64 a4)), .d (.s (.int .i64 a5)), .d (.s (.int .i64 a6)), .d (.s (.int .i64 a7))] [.d (.s (.bool b0)), .d (.s (.int .i64 b1)), .d (.s (.int .i64 b2)), .d (.s (.int .i64 b3)), .d (.s (.int .i64 b4)), .d (.s (.int .i64 b5)), .d (.s (.int .i64 b6)), .d (.s (.int .i64 b7))] K = K (.bool ((eqVs [.bool a0, .int .i64 a1, .int .i64 a2, .int .i64 a3, .int .i64 a4, .int .i64 a5, .int .i64 a6, .int .i64 a7] [.bool b0, .int .i64 b1, .int .i64 b2, .int .i64 b3, .int .i64 b4, .int .i64 b5, .int .i64 b6, .int .i64 b7]))) := agg_eql (xs := [.bool a0, .int .i64 a1, .int .i64 a2, .int .i64 a3, .int .i64 a4, .int .i64 a5, .int .i64 a6, .int .i64 a7]) (ys := [.bool b0, .int .i64 b1, .int .i64 b2, .int .i64 b3, .int .i64 b4, .int .i64 b5, .int .i64 b6, .int .i64 b7]) eqk120 (by decide) eqg120 rfl rfl K
@[simp] theorem ze120 : zeroT Try.prog 120 = some [.d (.s (.bool false)), .d (.s (.int .i64 0)), .d (.s (.int .i64 0)), .d (.s (.int .i64 0)), .d (.s (.int .i64 0)), .d (.s (.int .i64 0)), .d (.s (.int .i64 0)), .d (.s (.int .i64 0))] := by kernel_rfl
@[simp] theorem fi120_0 : fieldT Try.prog 120 0 = some (0, 1, false) := by kernel_rfl
@[simp] theorem fi120_1 : fieldT Try.prog 120 1 = some (1, 7, true) := by kernel_rfl
@[simp] theorem pl120 : placesT Try.prog 120 = some [(0, 1), (1, 7)] := by kernel_rfl
@[simp] theorem sz121 : szOf Try.prog 121 = some 8 := by kernel_rfl
@[simp] theorem ag121 : aggT Try.prog 121 = some true := by kernel_rfl
@[simp] theorem un121 : unitT Try.prog 121 = some 8 := by kernel_rfl
theorem kd121 : kindT Try.prog 12 121 = some [.bool, .int .i64, .int .i64, .int .i64, .int .i64, .int .i64, .int .i64, .int .i64] := by kernel_rfl
theorem eqk121 : eqT Try.prog 8 121 = some (true, [.bool, .int .i64, .int .i64, .int .i64, .int .i64, .int .i64, .int .i64, .int .i64]) := by kernel_rfl
theorem eqg121 : (Try.prog).eqGuardType (Try.prog).depth 121 = false := by kernel_rfl
@[simp] theorem neqA121 (a0 b0 : Bool) (a1 b1 : Int) (a2 b2 : Int) (a3 b3 : Int) (a4 b4 : Int) (a5 b5 : Int) (a6 b6 : Int) (a7 b7 : Int) (K : Value → Prop) : aggBin Try.prog .neq 121 [.d (.s (.bool a0)), .d (.s (.int .i64 a1)), .d (.s (.int .i64 a2)), .d (.s (.int .i64 a3)), .d (.s (.int .i64 a4)), .d (.s (.int .i64 a5)), .d (.s (.int .i64 a6)), .d (.s (.int .i64 a7))] [.d (.s (.bool b0)), .d (.s (.int .i64 b1)), .d (.s (.int .i64 b2)), .d (.s (.int .i64 b3)), .d (.s (.int .i64 b4)), .d (.s (.int .i64 b5)), .d (.s (.int .i64 b6)), .d (.s (.int .i64 b7))] K = K (.bool (!(eqVs [.bool a0, .int .i64 a1, .int .i64 a2, .int .i64 a3, .int .i64 a4, .int .i64 a5, .int .i64 a6, .int .i64 a7] [.bool b0, .int .i64 b1, .int .i64 b2, .int .i64 b3, .int .i64 b4, .int .i64 b5, .int .i64 b6, .int .i64 b7]))) := agg_neq (xs := [.bool a0, .int .i64 a1, .int .i64 a2, .int .i64 a3, .int .i64 a4, .int .i64 a5, .int .i64 a6, .int .i64 a7]) (ys := [.bool b0, .int .i64 b1, .int .i64 b2, .int .i64 b3, .int .i64 b4, .int .i64 b5, .int .i64 b6, .int .i64 b7]) eqk121 (by decide) eqg121 rfl rfl K
@[simp] theorem eqlA121 (a0 b0 : Bool) (a1 b1 : Int) (a2 b2 : Int) (a3 b3 : Int) (a4 b4 : Int) (a5 b5 : Int) (a6 b6 : Int) (a7 b7 : Int) (K : Value → Prop) : aggBin Try.prog .eql 121 [.d (.s (.bool a0)), .d (.s (.int .i64 a1)), .d (.s (.int .i64 a2)), .d (.s (.int .i64 a3)), .d (.s (.int .i64 a4)), .d (.s (.int .i64 a5)), .d (.s (.int .i64 a6)), .d (.s (.int .i64 a7))] [.d (.s (.bool b0)), .d (.s (.int .i64 b1)), .d (.s (.int .i64 b2)), .d (.s (.int .i64 b3)), .d (.s (.int .i64 b4)), .d (.s (.int .i64 b5)), .d (.s (.int .i64 b6)), .d (.s (.int .i64 b7))] K = K (.bool ((eqVs [.bool a0, .int .i64 a1, .int .i64 a2, .int .i64 a3, .int .i64 a4, .int .i64 a5, .int .i64 a6, .int .i64 a7] [.bool b0, .int .i64 b1, .int .i64 b2, .int .i64 b3, .int .i64 b4, .int .i64 b5, .int .i64 b6, .int .i64 b7]))) := agg_eql (xs := [.bool a0, .int .i64 a1, .int .i64 a2, .int .i64 a3, .int .i64 a4, .int .i64 a5, .int .i64 a6, .int .i64 a7]) (ys := [.bool b0, .int .i64 b1, .int .i64 b2, .int .i64 b3, .int .i64 b4, .int .i64 b5, .int .i64 b6, .int .i64 b7]) eqk121 (by decide) eqg121 rfl rfl K
@[simp] theorem ze121 : zeroT Try.prog 121 = some [.d (.s (.bool false)), .d (.s (.int .i64 0)), .d (.s (.int .i64 0)), .d (.s (.int .i64 0)), .d (.s (.int .i64 0)), .d (.s (.int .i64 0)), .d (.s (.int .i64 0)), .d (.s (.int .i64 0))] := by kernel_rfl
@[simp] theorem fi121_0 : fieldT Try.prog 121 0 = some (0, 1, false) := by kernel_rfl
@[simp] theorem fi121_1 : fieldT Try.prog 121 1 = some (1, 7, true) := by kernel_rfl
@[simp] theorem pl121 : placesT Try.prog 121 = some [(0, 1), (1, 7)] := by kernel_rfl
@[simp] theorem sz122 : szOf Try.prog 122 = some 1 := by kernel_rfl
@[simp] theorem ag122 : aggT Try.prog 122 = some false := by kernel_rfl
@[simp] theorem un122 : unitT Try.prog 122 = some 1 := by kernel_rfl
@[simp] theorem ze122 : zeroT Try.prog 122 = some [.d (.s .nilFunc)] := by kernel_rfl
@[simp] theorem sz123 : szOf Try.prog 123 = some 1 := by kernel_rfl
@[simp] theorem ag123 : aggT Try.prog 123 = some false := by kernel_rfl
@[simp] theorem un123 : unitT Try.prog 123 = some 1 := by kernel_rfl
@[simp] theorem ze123 : zeroT Try.prog 123 = some [.d (.s (.pointer none))] := by kernel_rfl
@[simp] theorem sz124 : szOf Try.prog 124 = some 1 := by kernel_rfl
@[simp] theorem ag124 : aggT Try.prog 124 = some false := by kernel_rfl
@[simp] theorem un124 : unitT Try.prog 124 = some 1 := by kernel_rfl
theorem kd124 : kindT Try.prog 12 124 = some [.slice [.int .i64]] := by kernel_rfl
@[simp] theorem sl124 : sliceT Try.prog 124 = some (3, 1, 8) := by kernel_rfl
@[simp] theorem ze124 : zeroT Try.prog 124 = some [.d .nil] := by kernel_rfl
@[simp] theorem sz125 : szOf Try.prog 125 = some 1 := by kernel_rfl
@[simp] theorem ag125 : aggT Try.prog 125 = some false := by kernel_rfl
@[simp] theorem un125 : unitT Try.prog 125 = some 1 := by kernel_rfl
@[simp] theorem ze125 : zeroT Try.prog 125 = some [.d (.s .nilFunc)] := by kernel_rfl
@[simp] theorem sz126 : szOf Try.prog 126 = some 4 := by kernel_rfl
@[simp] theorem ag126 : aggT Try.prog 126 = some true := by kernel_rfl
@[simp] theorem un126 : unitT Try.prog 126 = some 4 := by kernel_rfl
theorem kd126 : kindT Try.prog 12 126 = some [.int .i64, .int .i64, .slice [.int .i64, .int .i64, .int .i64, .int .i64, .int .i64, .int .i64, .int .i64], .slice [.int .i64, .bool, .int .i64, .int .i64, .int .i64, .int .i64, .int .i64, .int .i64, .int .i64]] := by kernel_rfl
@[simp] theorem ze126 : zeroT Try.prog 126 = some [.d (.s (.int .i64 0)), .d (.s (.int .i64 0)), .d .nil, .d .nil] := by kernel_rfl
@[simp] theorem fi126_0 : fieldT Try.prog 126 0 = some (0, 1, false) := by kernel_rfl
@[simp] theorem fi126_1 : fieldT Try.prog 126 1 = some (1, 3, true) := by kernel_rfl
@[simp] theorem pl126 : placesT Try.prog 126 = some [(0, 1), (1, 3)] := by kernel_rfl
@[simp] theorem sz127 : szOf Try.prog 127 = some 4 := by kernel_rfl
@[simp] theorem ag127 : aggT Try.prog 127 = some true := by kernel_rfl
@[simp] theorem un127 : unitT Try.prog 127 = some 4 := by kernel_rfl
theorem kd127 : kindT Try.prog 12 127 = some [.int .i64, .int .i64, .slice [.int .i64, .int .i64, .int .i64, .int .i64, .int .i64, .int .i64, .int .i64], .slice [.int .i64, .bool, .int .i64, .int .i64, .int .i64, .int .i64, .int .i64, .int .i64, .int .i64]] := by kernel_rfl
@[simp] theorem ze127 : zeroT Try.prog 127 = some [.d (.s (.int .i64 0)), .d (.s (.int .i64 0)), .d .nil, .d .nil] := by kernel_rfl
@[simp] theorem fi127_0 : fieldT Try.prog 127 0 = some (0, 1, false) := by kernel_rfl
@[simp] theorem fi127_1 : fieldT Try.prog 127 1 = some (1, 3, true) := by kernel_rfl
@[simp] theorem pl127 : placesT Try.prog 127 = some [(0, 1), (1, 3)] := by kernel_rfl
@[simp] theorem sz128 : szOf Try.prog 128 = some 1 := by kernel_rfl
@[simp] theorem ag128 : aggT Try.prog 128 = some false := by kernel_rfl
@[simp] theorem un128 : unitT Try.prog 128 = some 1 := by kernel_rfl
@[simp] theorem ze128 : zeroT Try.prog 128 = some [.d (.s .nilFunc)] := by kernel_rfl
@[simp] theorem sz129 : szOf Try.prog 129 = some 1 := by kernel_rfl
@[simp] theorem ag129 : aggT Try.prog 129 = some false := by kernel_rfl
@[simp] theorem un129 : unitT Try.prog 129 = some 1 := by kernel_rfl
theorem kd129 : kindT Try.prog 12 129 = some [.slice [.int .i64, .int .i64, .int .i64, .int .i64, .int .i64, .int .i64, .int .i64, .int .i64, .int .i64, .int .i64]] := by kernel_rfl
@[simp] theorem sl129 : sliceT Try.prog 129 = some (32, 10, 80) := by kernel_rfl
@[simp] theorem ze129 : zeroT Try.prog 129 = some [.d .nil] := by kernel_rfl
@[simp] theorem sz130 : szOf Try.prog 130 = some 1 := by kernel_rfl
@[simp] theorem ag130 : aggT Try.prog 130 = some false := by kernel_rfl
@[simp] theorem un130 : unitT Try.prog 130 = some 1 := by kernel_rfl
@[simp] theorem ze130 : zeroT Try.prog 130 = some [.d (.s .nilFunc)] := by kernel_rfl
@[simp] theorem sz131 : szOf Try.prog 131 = some 1 := by kernel_rfl
@[simp] theorem ag131 : aggT Try.prog 131 = some false := by kernel_rfl
@[simp] theorem un131 : unitT Try.prog 131 = some 1 := by kernel_rfl
@[simp] theorem ze131 : zeroT Try.prog 131 = some [.d (.s .nilFunc)] := by kernel_rfl
@[simp] theorem sz132 : szOf Try.prog 132 = some 1 := by kernel_rfl
@[simp] theorem ag132 : aggT Try.prog 132 = some false := by kernel_rfl
@[simp] theorem un132 : unitT Try.prog 132 = some 1 := by kernel_rfl
@[simp] theorem ze132 : zeroT Try.prog 132 = some [.d (.s .nilFunc)] := by kernel_rfl
@[simp] theorem sz133 : szOf Try.prog 133 = some 4 := by kernel_rfl
@[simp] theorem ag133 : aggT Try.prog 133 = some true := by kernel_rfl
@[simp] theorem un133 : unitT Try.prog 133 = some 4 := by kernel_rfl
@[simp] theorem ze133 : zeroT Try.prog 133 = some [.d (.s (.pointer none)), .d (.s (.pointer none)), .d (.s (.pointer none)), .d (.s (.string ByteArray.empty))] := by kernel_rfl
@[simp] theorem fi133_0 : fieldT Try.prog 133 0 = some (0, 1, false) := by kernel_rfl
@[simp] theorem fi133_1 : fieldT Try.prog 133 1 = some (1, 1, false) := by kernel_rfl
@[simp] theorem fi133_2 : fieldT Try.prog 133 2 = some (2, 1, false) := by kernel_rfl
@[simp] theorem fi133_3 : fieldT Try.prog 133 3 = some (3, 1, false) := by kernel_rfl
@[simp] theorem pl133 : placesT Try.prog 133 = some [(0, 1), (1, 1), (2, 1), (3, 1)] := by kernel_rfl
@[simp] theorem sz134 : szOf Try.prog 134 = some 4 := by kernel_rfl
@[simp] theorem ag134 : aggT Try.prog 134 = some true := by kernel_rfl
@[simp] theorem un134 : unitT Try.prog 134 = some 4 := by kernel_rfl
@[simp] theorem ze134 : zeroT Try.prog 134 = some [.d (.s (.pointer none)), .d (.s (.pointer none)), .d (.s (.pointer none)), .d (.s (.string ByteArray.empty))] := by kernel_rfl
@[simp] theorem fi134_0 : fieldT Try.prog 134 0 = some (0, 1, false) := by kernel_rfl
@[simp] theorem fi134_1 : fieldT Try.prog 134 1 = some (1, 1, false) := by kernel_rfl
@[simp] theorem fi134_2 : fieldT Try.prog 134 2 = some (2, 1, false) := by kernel_rfl
@[simp] theorem fi134_3 : fieldT Try.prog 134 3 = some (3, 1, false) := by kernel_rfl
@[simp] theorem pl134 : placesT Try.prog 134 = some [(0, 1), (1, 1), (2, 1), (3, 1)] := by kernel_rfl
@[simp] theorem sz135 : szOf Try.prog 135 = some 0 := by kernel_rfl
@[simp] theorem ag135 : aggT Try.prog 135 = some true := by kernel_rfl
@[simp] theorem un135 : unitT Try.prog 135 = some 1 := by kernel_rfl
@[simp] theorem pl135 : placesT Try.prog 135 = some [] := by kernel_rfl
@[simp] theorem ar135 : arrT Try.prog 135 = some (0, 16, 1) := by kernel_rfl
@[simp] theorem sl135 : sliceT Try.prog 135 = none := by kernel_rfl
@[simp] theorem ze135 : zeroT Try.prog 135 = some [] := by kernel_rfl
@[simp] theorem sz136 : szOf Try.prog 136 = some 0 := by kernel_rfl
@[simp] theorem ag136 : aggT Try.prog 136 = some true := by kernel_rfl
@[simp] theorem un136 : unitT Try.prog 136 = some 0 := by kernel_rfl
@[simp] theorem ze136 : zeroT Try.prog 136 = some [] := by kernel_rfl
@[simp] theorem fi136_0 : fieldT Try.prog 136 0 = some (0, 0, true) := by kernel_rfl
@[simp] theorem pl136 : placesT Try.prog 136 = some [(0, 0)] := by kernel_rfl
@[simp] theorem sz137 : szOf Try.prog 137 = some 0 := by kernel_rfl
@[simp] theorem ag137 : aggT Try.prog 137 = some true := by kernel_rfl
@[simp] theorem un137 : unitT Try.prog 137 = some 0 := by kernel_rfl
@[simp] theorem ze137 : zeroT Try.prog 137 = some [] := by kernel_rfl
@[simp] theorem fi137_0 : fieldT Try.prog 137 0 = some (0, 0, true) := by kernel_rfl
@[simp] theorem pl137 : placesT Try.prog 137 = some [(0, 0)] := by kernel_rfl
@[simp] theorem sz138 : szOf Try.prog 138 = some 1 := by kernel_rfl
@[simp] theorem ag138 : aggT Try.prog 138 = some false := by kernel_rfl
@[simp] theorem un138 : unitT Try.prog 138 = some 1 := by kernel_rfl
@[simp] theorem ze138 : zeroT Try.prog 138 = some [.d (.s .nilFunc)] := by kernel_rfl
@[simp] theorem sz139 : szOf Try.prog 139 = some 1 := by kernel_rfl
@[simp] theorem ag139 : aggT Try.prog 139 = some false := by kernel_rfl
@[simp] theorem un139 : unitT Try.prog 139 = some 1 := by kernel_rfl
theorem kd139 : kindT Try.prog 12 139 = some [.int .u32] := by kernel_rfl
@[simp] theorem ze139 : zeroT Try.prog 139 = some [.d (.s (.int .u32 0))] := by kernel_rfl
@[simp] theorem sz140 : szOf Try.prog 140 = some 1 := by kernel_rfl
@[simp] theorem ag140 : aggT Try.prog 140 = some false := by kernel_rfl
@[simp] theorem un140 : unitT Try.prog 140 = some 1 := by kernel_rfl
theorem kd140 : kindT Try.prog 12 140 = some [.int .u8] := by kernel_rfl
@[simp] theorem ze140 : zeroT Try.prog 140 = some [.d (.s (.int .u8 0))] := by kernel_rfl
@[simp] theorem sz141 : szOf Try.prog 141 = some 1 := by kernel_rfl
@[simp] theorem ag141 : aggT Try.prog 141 = some false := by kernel_rfl
@[simp] theorem un141 : unitT Try.prog 141 = some 1 := by kernel_rfl
theorem kd141 : kindT Try.prog 12 141 = some [.int .u8] := by kernel_rfl
@[simp] theorem ze141 : zeroT Try.prog 141 = some [.d (.s (.int .u8 0))] := by kernel_rfl
@[simp] theorem sz142 : szOf Try.prog 142 = some 1 := by kernel_rfl
@[simp] theorem ag142 : aggT Try.prog 142 = some false := by kernel_rfl
@[simp] theorem un142 : unitT Try.prog 142 = some 1 := by kernel_rfl
@[simp] theorem ze142 : zeroT Try.prog 142 = some [.d (.s .nilFunc)] := by kernel_rfl
@[simp] theorem sz143 : szOf Try.prog 143 = some 1 := by kernel_rfl
@[simp] theorem ag143 : aggT Try.prog 143 = some false := by kernel_rfl
@[simp] theorem un143 : unitT Try.prog 143 = some 1 := by kernel_rfl
@[simp] theorem ze143 : zeroT Try.prog 143 = some [.d (.s (.pointer none))] := by kernel_rfl
@[simp] theorem sz144 : szOf Try.prog 144 = some 1 := by kernel_rfl
@[simp] theorem ag144 : aggT Try.prog 144 = some false := by kernel_rfl
@[simp] theorem un144 : unitT Try.prog 144 = some 1 := by kernel_rfl
theorem kd144 : kindT Try.prog 12 144 = some [.int .i32] := by kernel_rfl
@[simp] theorem ze144 : zeroT Try.prog 144 = some [.d (.s (.int .i32 0))] := by kernel_rfl
@[simp] theorem sz145 : szOf Try.prog 145 = some 1 := by kernel_rfl
@[simp] theorem ag145 : aggT Try.prog 145 = some false := by kernel_rfl
@[simp] theorem un145 : unitT Try.prog 145 = some 1 := by kernel_rfl
theorem kd145 : kindT Try.prog 12 145 = some [.int .i32] := by kernel_rfl
@[simp] theorem ze145 : zeroT Try.prog 145 = some [.d (.s (.int .i32 0))] := by kernel_rfl
@[simp] theorem sz146 : szOf Try.prog 146 = some 11 := by kernel_rfl
@[simp] theorem ag146 : aggT Try.prog 146 = some true := by kernel_rfl
@[simp] theorem un146 : unitT Try.prog 146 = some 11 := by kernel_rfl
@[simp] theorem ze146 : zeroT Try.prog 146 = some [.d (.s (.int .u64 0)), .d (.s (.int .u64 0)), .d (.s (.int .u32 0)), .d (.s (.int .u8 0)), .d (.s (.int .u8 0)), .d (.s (.int .u8 0)), .d (.s (.int .u8 0)), .d (.s .nilFunc), .d (.s (.pointer none)), .d (.s (.int .i32 0)), .d (.s (.int .i32 0))] := by kernel_rfl
@[simp] theorem fi146_0 : fieldT Try.prog 146 0 = some (0, 1, false) := by kernel_rfl
@[simp] theorem fi146_1 : fieldT Try.prog 146 1 = some (1, 1, false) := by kernel_rfl
@[simp] theorem fi146_2 : fieldT Try.prog 146 2 = some (2, 1, false) := by kernel_rfl
@[simp] theorem fi146_3 : fieldT Try.prog 146 3 = some (3, 1, false) := by kernel_rfl
@[simp] theorem fi146_4 : fieldT Try.prog 146 4 = some (4, 1, false) := by kernel_rfl
@[simp] theorem fi146_5 : fieldT Try.prog 146 5 = some (5, 1, false) := by kernel_rfl
@[simp] theorem fi146_6 : fieldT Try.prog 146 6 = some (6, 1, false) := by kernel_rfl
@[simp] theorem fi146_7 : fieldT Try.prog 146 7 = some (7, 1, false) := by kernel_rfl
@[simp] theorem fi146_8 : fieldT Try.prog 146 8 = some (8, 1, false) := by kernel_rfl
@[simp] theorem fi146_9 : fieldT Try.prog 146 9 = some (9, 1, false) := by kernel_rfl
@[simp] theorem fi146_10 : fieldT Try.prog 146 10 = some (10, 1, false) := by kernel_rfl
@[simp] theorem pl146 : placesT Try.prog 146 = some [(0, 1), (1, 1), (2, 1), (3, 1), (4, 1), (5, 1), (6, 1), (7, 1), (8, 1), (9, 1), (10, 1)] := by kernel_rfl
@[simp] theorem sz147 : szOf Try.prog 147 = some 11 := by kernel_rfl
@[simp] theorem ag147 : aggT Try.prog 147 = some true := by kernel_rfl
@[simp] theorem un147 : unitT Try.prog 147 = some 11 := by kernel_rfl
@[simp] theorem ze147 : zeroT Try.prog 147 = some [.d (.s (.int .u64 0)), .d (.s (.int .u64 0)), .d (.s (.int .u32 0)), .d (.s (.int .u8 0)), .d (.s (.int .u8 0)), .d (.s (.int .u8 0)), .d (.s (.int .u8 0)), .d (.s .nilFunc), .d (.s (.pointer none)), .d (.s (.int .i32 0)), .d (.s (.int .i32 0))] := by kernel_rfl
@[simp] theorem fi147_0 : fieldT Try.prog 147 0 = some (0, 1, false) := by kernel_rfl
@[simp] theorem fi147_1 : fieldT Try.prog 147 1 = some (1, 1, false) := by kernel_rfl
@[simp] theorem fi147_2 : fieldT Try.prog 147 2 = some (2, 1, false) := by kernel_rfl
@[simp] theorem fi147_3 : fieldT Try.prog 147 3 = some (3, 1, false) := by kernel_rfl
@[simp] theorem fi147_4 : fieldT Try.prog 147 4 = some (4, 1, false) := by kernel_rfl
@[simp] theorem fi147_5 : fieldT Try.prog 147 5 = some (5, 1, false) := by kernel_rfl
@[simp] theorem fi147_6 : fieldT Try.prog 147 6 = some (6, 1, false) := by kernel_rfl
@[simp] theorem fi147_7 : fieldT Try.prog 147 7 = some (7, 1, false) := by kernel_rfl
@[simp] theorem fi147_8 : fieldT Try.prog 147 8 = some (8, 1, false) := by kernel_rfl
@[simp] theorem fi147_9 : fieldT Try.prog 147 9 = some (9, 1, false) := by kernel_rfl
@[simp] theorem fi147_10 : fieldT Try.prog 147 10 = some (10, 1, false) := by kernel_rfl
@[simp] theorem pl147 : placesT Try.prog 147 = some [(0, 1), (1, 1), (2, 1), (3, 1), (4, 1), (5, 1), (6, 1), (7, 1), (8, 1), (9, 1), (10, 1)] := by kernel_rfl
@[simp] theorem sz148 : szOf Try.prog 148 = some 1 := by kernel_rfl
@[simp] theorem ag148 : aggT Try.prog 148 = some false := by kernel_rfl
@[simp] theorem un148 : unitT Try.prog 148 = some 1 := by kernel_rfl
@[simp] theorem ze148 : zeroT Try.prog 148 = some [.d (.s (.pointer none))] := by kernel_rfl
@[simp] theorem ca2 : callable Try.prog 2 = true := by kernel_rfl
@[simp] theorem ca3 : callable Try.prog 3 = true := by kernel_rfl
@[simp] theorem ca4 : callable Try.prog 4 = true := by kernel_rfl
@[simp] theorem ca5 : callable Try.prog 5 = true := by kernel_rfl
@[simp] theorem ca6 : callable Try.prog 6 = true := by kernel_rfl
@[simp] theorem ca7 : callable Try.prog 7 = true := by kernel_rfl
@[simp] theorem ca8 : callable Try.prog 8 = true := by kernel_rfl
@[simp] theorem ca9 : callable Try.prog 9 = true := by kernel_rfl
@[simp] theorem ca10 : callable Try.prog 10 = true := by kernel_rfl
@[simp] theorem ca11 : callable Try.prog 11 = true := by kernel_rfl
@[simp] theorem ca12 : callable Try.prog 12 = true := by kernel_rfl
@[simp] theorem ca13 : callable Try.prog 13 = true := by kernel_rfl
@[simp] theorem ca14 : callable Try.prog 14 = true := by kernel_rfl
@[simp] theorem ca15 : callable Try.prog 15 = true := by kernel_rfl
@[simp] theorem ca16 : callable Try.prog 16 = true := by kernel_rfl
@[simp] theorem ca17 : callable Try.prog 17 = true := by kernel_rfl
@[simp] theorem ca18 : callable Try.prog 18 = true := by kernel_rfl
@[simp] theorem ca19 : callable Try.prog 19 = true := by kernel_rfl
@[simp] theorem ca20 : callable Try.prog 20 = true := by kernel_rfl
@[simp] theorem ca21 : callable Try.prog 21 = true := by kernel_rfl
@[simp] theorem ca22 : callable Try.prog 22 = true := by kernel_rfl
@[simp] theorem ca23 : callable Try.prog 23 = true := by kernel_rfl
@[simp] theorem ca24 : callable Try.prog 24 = true := by kernel_rfl
@[simp] theorem ca25 : callable Try.prog 25 = true := by kernel_rfl
@[simp] theorem ca26 : callable Try.prog 26 = true := by kernel_rfl
@[simp] theorem ca27 : callable Try.prog 27 = true := by kernel_rfl
@[simp] theorem ca28 : callable Try.prog 28 = true := by kernel_rfl
@[simp] theorem ca29 : callable Try.prog 29 = true := by kernel_rfl
@[simp] theorem ca30 : callable Try.prog 30 = true := by kernel_rfl
@[simp] theorem ca31 : callable Try.prog 31 = true := by kernel_rfl
@[simp] theorem ca32 : callable Try.prog 32 = true := by kernel_rfl
@[simp] theorem ca33 : callable Try.prog 33 = true := by kernel_rfl
@[simp] theorem ca34 : callable Try.prog 34 = true := by kernel_rfl
@[simp] theorem ca35 : callable Try.prog 35 = true := by kernel_rfl
@[simp] theorem ca36 : callable Try.prog 36 = true := by kernel_rfl
@[simp] theorem ca37 : callable Try.prog 37 = true := by kernel_rfl
@[simp] theorem ca38 : callable Try.prog 38 = true := by kernel_rfl
@[simp] theorem ca39 : callable Try.prog 39 = true := by kernel_rfl
@[simp] theorem ca40 : callable Try.prog 40 = true := by kernel_rfl
@[simp] theorem ca41 : callable Try.prog 41 = true := by kernel_rfl
@[simp] theorem ca42 : callable Try.prog 42 = true := by kernel_rfl
@[simp] theorem ca43 : callable Try.prog 43 = true := by kernel_rfl
@[simp] theorem ca44 : callable Try.prog 44 = true := by kernel_rfl
@[simp] theorem ca45 : callable Try.prog 45 = true := by kernel_rfl
@[simp] theorem ca46 : callable Try.prog 46 = true := by kernel_rfl
@[simp] theorem ca47 : callable Try.prog 47 = true := by kernel_rfl
@[simp] theorem ca48 : callable Try.prog 48 = true := by kernel_rfl
@[simp] theorem ca49 : callable Try.prog 49 = true := by kernel_rfl
@[simp] theorem ca50 : callable Try.prog 50 = true := by kernel_rfl
@[simp] theorem ca51 : callable Try.prog 51 = true := by kernel_rfl
@[simp] theorem ca52 : callable Try.prog 52 = true := by kernel_rfl
@[simp] theorem ca53 : callable Try.prog 53 = true := by kernel_rfl
@[simp] theorem ca54 : callable Try.prog 54 = true := by kernel_rfl
@[simp] theorem ca55 : callable Try.prog 55 = true := by kernel_rfl
@[simp] theorem ca56 : callable Try.prog 56 = true := by kernel_rfl
@[simp] theorem ca57 : callable Try.prog 57 = true := by kernel_rfl
@[simp] theorem ca58 : callable Try.prog 58 = true := by kernel_rfl
@[simp] theorem ca59 : callable Try.prog 59 = true := by kernel_rfl
@[simp] theorem ca60 : callable Try.prog 60 = true := by kernel_rfl
@[simp] theorem ca61 : callable Try.prog 61 = true := by kernel_rfl
@[simp] theorem ca62 : callable Try.prog 62 = true := by kernel_rfl
@[simp] theorem ca63 : callable Try.prog 63 = true := by kernel_rfl
@[simp] theorem ca64 : callable Try.prog 64 = true := by kernel_rfl
@[simp] theorem ca65 : callable Try.prog 65 = true := by kernel_rfl
@[simp] theorem ca66 : callable Try.prog 66 = true := by kernel_rfl
@[simp] theorem ca67 : callable Try.prog 67 = true := by kernel_rfl
@[simp] theorem ca68 : callable Try.prog 68 = true := by kernel_rfl
@[simp] theorem ca69 : callable Try.prog 69 = true := by kernel_rfl
@[simp] theorem ca70 : callable Try.prog 70 = true := by kernel_rfl
@[simp] theorem ca71 : callable Try.prog 71 = true := by kernel_rfl
@[simp] theorem ca72 : callable Try.prog 72 = true := by kernel_rfl
@[simp] theorem ca73 : callable Try.prog 73 = true := by kernel_rfl
@[simp] theorem ca74 : callable Try.prog 74 = true := by kernel_rfl
@[simp] theorem ca75 : callable Try.prog 75 = true := by kernel_rfl
@[simp] theorem ca76 : callable Try.prog 76 = true := by kernel_rfl
@[simp] theorem ca77 : callable Try.prog 77 = true := by kernel_rfl
@[simp] theorem ca78 : callable Try.prog 78 = true := by kernel_rfl
@[simp] theorem ca79 : callable Try.prog 79 = true := by kernel_rfl
@[simp] theorem ca80 : callable Try.prog 80 = true := by kernel_rfl
@[simp] theorem ca81 : callable Try.prog 81 = true := by kernel_rfl
@[simp] theorem ca82 : callable Try.prog 82 = true := by kernel_rfl
@[simp] theorem ca83 : callable Try.prog 83 = true := by kernel_rfl
@[simp] theorem ca84 : callable Try.prog 84 = true := by kernel_rfl
@[simp] theorem ca85 : callable Try.prog 85 = true := by kernel_rfl
@[simp] theorem ca86 : callable Try.prog 86 = true := by kernel_rfl
@[simp] theorem ca87 : callable Try.prog 87 = true := by kernel_rfl
@[simp] theorem ca88 : callable Try.prog 88 = true := by kernel_rfl
@[simp] theorem ca89 : callable Try.prog 89 = true := by kernel_rfl
@[simp] theorem ca90 : callable Try.prog 90 = true := by kernel_rfl
@[simp] theorem ca91 : callable Try.prog 91 = true := by kernel_rfl
@[simp] theorem ca92 : callable Try.prog 92 = true := by kernel_rfl
@[simp] theorem ca93 : callable Try.prog 93 = true := by kernel_rfl
@[simp] theorem ca94 : callable Try.prog 94 = true := by kernel_rfl
@[simp] theorem ca95 : callable Try.prog 95 = true := by kernel_rfl
@[simp] theorem ca96 : callable Try.prog 96 = true := by kernel_rfl
@[simp] theorem ca97 : callable Try.prog 97 = true := by kernel_rfl
@[simp] theorem ca98 : callable Try.prog 98 = true := by kernel_rfl
@[simp] theorem ca99 : callable Try.prog 99 = true := by kernel_rfl
@[simp] theorem ca100 : callable Try.prog 100 = true := by kernel_rfl
@[simp] theorem ca101 : callable Try.prog 101 = true := by kernel_rfl
theorem mixed : Try.prog.follows .mixedOrders = true := by kernel_rfl
end Go.Proofs.Ytiogdfliailenaa
