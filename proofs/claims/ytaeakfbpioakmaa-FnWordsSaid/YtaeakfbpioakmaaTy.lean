/- Closed facts on the types and functions of the translation. -/
import Derived.Test.YtaeakfbpioakmaaProg
import Derived.KernelRfl
import Derived.Test.YtaeakfbpioakmaaAbs20
namespace Go.Proofs.Ytaeakfbpioakmaa
open Go Go.Abs Go.Proofs
@[simp] theorem sz0 : szOf Try.prog 0 = some 1 := by kernel_rfl
@[simp] theorem ag0 : aggT Try.prog 0 = some false := by kernel_rfl
@[simp] theorem sz1 : szOf Try.prog 1 = some 1 := by kernel_rfl
@[simp] theorem ag1 : aggT Try.prog 1 = some false := by kernel_rfl
@[simp] theorem ze1 : zeroT Try.prog 1 = some [.d (.s .nilFunc)] := by kernel_rfl
@[simp] theorem sz2 : szOf Try.prog 2 = some 1 := by kernel_rfl
@[simp] theorem ag2 : aggT Try.prog 2 = some false := by kernel_rfl
@[simp] theorem ze2 : zeroT Try.prog 2 = some [.d (.s (.int .i64 0))] := by kernel_rfl
@[simp] theorem sz3 : szOf Try.prog 3 = some 1 := by kernel_rfl
@[simp] theorem ag3 : aggT Try.prog 3 = some false := by kernel_rfl
@[simp] theorem ze3 : zeroT Try.prog 3 = some [.d (.s (.int .i64 0))] := by kernel_rfl
@[simp] theorem sz4 : szOf Try.prog 4 = some 1 := by kernel_rfl
@[simp] theorem ag4 : aggT Try.prog 4 = some false := by kernel_rfl
@[simp] theorem ze4 : zeroT Try.prog 4 = some [.d (.s (.bool false))] := by kernel_rfl
@[simp] theorem sz5 : szOf Try.prog 5 = some 1 := by kernel_rfl
@[simp] theorem ag5 : aggT Try.prog 5 = some false := by kernel_rfl
@[simp] theorem ze5 : zeroT Try.prog 5 = some [.d (.s (.int .u8 0))] := by kernel_rfl
@[simp] theorem sz6 : szOf Try.prog 6 = some 1 := by kernel_rfl
@[simp] theorem ag6 : aggT Try.prog 6 = some false := by kernel_rfl
@[simp] theorem ze6 : zeroT Try.prog 6 = some [.d (.s (.int .u8 0))] := by kernel_rfl
@[simp] theorem sz7 : szOf Try.prog 7 = some 4 := by kernel_rfl
@[simp] theorem ag7 : aggT Try.prog 7 = some true := by kernel_rfl
@[simp] theorem ze7 : zeroT Try.prog 7 = some [.d (.s (.int .i64 0)), .d (.s (.int .i64 0)), .d (.s (.bool false)), .d (.s (.int .u8 0))] := by kernel_rfl
@[simp] theorem fi7_0 : fieldT Try.prog 7 0 = some (0, 1, false) := by kernel_rfl
@[simp] theorem fi7_1 : fieldT Try.prog 7 1 = some (1, 1, false) := by kernel_rfl
@[simp] theorem fi7_2 : fieldT Try.prog 7 2 = some (2, 1, false) := by kernel_rfl
@[simp] theorem fi7_3 : fieldT Try.prog 7 3 = some (3, 1, false) := by kernel_rfl
@[simp] theorem pl7 : placesT Try.prog 7 = some [(0, 1), (1, 1), (2, 1), (3, 1)] := by kernel_rfl
@[simp] theorem sz8 : szOf Try.prog 8 = some 4 := by kernel_rfl
@[simp] theorem ag8 : aggT Try.prog 8 = some true := by kernel_rfl
@[simp] theorem ze8 : zeroT Try.prog 8 = some [.d (.s (.int .i64 0)), .d (.s (.int .i64 0)), .d (.s (.bool false)), .d (.s (.int .u8 0))] := by kernel_rfl
@[simp] theorem fi8_0 : fieldT Try.prog 8 0 = some (0, 1, false) := by kernel_rfl
@[simp] theorem fi8_1 : fieldT Try.prog 8 1 = some (1, 1, false) := by kernel_rfl
@[simp] theorem fi8_2 : fieldT Try.prog 8 2 = some (2, 1, false) := by kernel_rfl
@[simp] theorem fi8_3 : fieldT Try.prog 8 3 = some (3, 1, false) := by kernel_rfl
@[simp] theorem pl8 : placesT Try.prog 8 = some [(0, 1), (1, 1), (2, 1), (3, 1)] := by kernel_rfl
@[simp] theorem sz9 : szOf Try.prog 9 = some 1 := by kernel_rfl
@[simp] theorem ag9 : aggT Try.prog 9 = some false := by kernel_rfl
@[simp] theorem ze9 : zeroT Try.prog 9 = some [.d (.s (.string ByteArray.empty))] := by kernel_rfl
@[simp] theorem sz10 : szOf Try.prog 10 = some 1 := by kernel_rfl
@[simp] theorem ag10 : aggT Try.prog 10 = some false := by kernel_rfl
@[simp] theorem ze10 : zeroT Try.prog 10 = some [.d (.s (.string ByteArray.empty))] := by kernel_rfl
@[simp] theorem sz11 : szOf Try.prog 11 = some 1 := by kernel_rfl
@[simp] theorem ag11 : aggT Try.prog 11 = some false := by kernel_rfl
@[simp] theorem ze11 : zeroT Try.prog 11 = some [.d (.s (.string ByteArray.empty))] := by kernel_rfl
@[simp] theorem sz12 : szOf Try.prog 12 = some 1 := by kernel_rfl
@[simp] theorem ag12 : aggT Try.prog 12 = some false := by kernel_rfl
@[simp] theorem ze12 : zeroT Try.prog 12 = some [.d (.s (.int .u64 0))] := by kernel_rfl
@[simp] theorem sz13 : szOf Try.prog 13 = some 2 := by kernel_rfl
@[simp] theorem ag13 : aggT Try.prog 13 = some true := by kernel_rfl
@[simp] theorem ze13 : zeroT Try.prog 13 = some [.d (.s (.string ByteArray.empty)), .d (.s (.int .u64 0))] := by kernel_rfl
@[simp] theorem fi13_0 : fieldT Try.prog 13 0 = some (0, 1, false) := by kernel_rfl
@[simp] theorem fi13_1 : fieldT Try.prog 13 1 = some (1, 1, false) := by kernel_rfl
@[simp] theorem pl13 : placesT Try.prog 13 = some [(0, 1), (1, 1)] := by kernel_rfl
@[simp] theorem sz14 : szOf Try.prog 14 = some 2 := by kernel_rfl
@[simp] theorem ag14 : aggT Try.prog 14 = some true := by kernel_rfl
@[simp] theorem ze14 : zeroT Try.prog 14 = some [.d (.s (.string ByteArray.empty)), .d (.s (.int .u64 0))] := by kernel_rfl
@[simp] theorem fi14_0 : fieldT Try.prog 14 0 = some (0, 1, false) := by kernel_rfl
@[simp] theorem fi14_1 : fieldT Try.prog 14 1 = some (1, 1, false) := by kernel_rfl
@[simp] theorem pl14 : placesT Try.prog 14 = some [(0, 1), (1, 1)] := by kernel_rfl
@[simp] theorem sz15 : szOf Try.prog 15 = some 1 := by kernel_rfl
@[simp] theorem ag15 : aggT Try.prog 15 = some false := by kernel_rfl
@[simp] theorem ze15 : zeroT Try.prog 15 = some [.d (.s (.pointer none))] := by kernel_rfl
@[simp] theorem sz16 : szOf Try.prog 16 = some 1 := by kernel_rfl
@[simp] theorem ag16 : aggT Try.prog 16 = some false := by kernel_rfl
@[simp] theorem ze16 : zeroT Try.prog 16 = some [.d (.s (.pointer none))] := by kernel_rfl
@[simp] theorem sz17 : szOf Try.prog 17 = some 1 := by kernel_rfl
@[simp] theorem ag17 : aggT Try.prog 17 = some false := by kernel_rfl
@[simp] theorem ze17 : zeroT Try.prog 17 = some [.d (.s (.pointer none))] := by kernel_rfl
@[simp] theorem sz18 : szOf Try.prog 18 = some 1 := by kernel_rfl
@[simp] theorem ag18 : aggT Try.prog 18 = some true := by kernel_rfl
@[simp] theorem ze18 : zeroT Try.prog 18 = some [.d (.s (.pointer none))] := by kernel_rfl
@[simp] theorem fi18_0 : fieldT Try.prog 18 0 = some (0, 1, false) := by kernel_rfl
@[simp] theorem pl18 : placesT Try.prog 18 = some [(0, 1)] := by kernel_rfl
@[simp] theorem sz19 : szOf Try.prog 19 = some 1 := by kernel_rfl
@[simp] theorem ag19 : aggT Try.prog 19 = some true := by kernel_rfl
@[simp] theorem ze19 : zeroT Try.prog 19 = some [.d (.s (.pointer none))] := by kernel_rfl
@[simp] theorem fi19_0 : fieldT Try.prog 19 0 = some (0, 1, false) := by kernel_rfl
@[simp] theorem pl19 : placesT Try.prog 19 = some [(0, 1)] := by kernel_rfl
@[simp] theorem sz20 : szOf Try.prog 20 = some 1 := by kernel_rfl
@[simp] theorem ag20 : aggT Try.prog 20 = some false := by kernel_rfl
@[simp] theorem ze20 : zeroT Try.prog 20 = some [.d (.s .nilIface)] := by kernel_rfl
@[simp] theorem sz21 : szOf Try.prog 21 = some 1 := by kernel_rfl
@[simp] theorem ag21 : aggT Try.prog 21 = some false := by kernel_rfl
@[simp] theorem ze21 : zeroT Try.prog 21 = some [.d (.s (.int .i32 0))] := by kernel_rfl
@[simp] theorem sz22 : szOf Try.prog 22 = some 1 := by kernel_rfl
@[simp] theorem ag22 : aggT Try.prog 22 = some false := by kernel_rfl
@[simp] theorem sl22 : sliceT Try.prog 22 = some (5, 1, 1) := by kernel_rfl
@[simp] theorem ze22 : zeroT Try.prog 22 = some [.d .nil] := by kernel_rfl
@[simp] theorem sz23 : szOf Try.prog 23 = some 1 := by kernel_rfl
@[simp] theorem ag23 : aggT Try.prog 23 = some false := by kernel_rfl
@[simp] theorem ze23 : zeroT Try.prog 23 = some [.d (.s .nilFunc)] := by kernel_rfl
@[simp] theorem sz24 : szOf Try.prog 24 = some 1 := by kernel_rfl
@[simp] theorem ag24 : aggT Try.prog 24 = some false := by kernel_rfl
@[simp] theorem sz25 : szOf Try.prog 25 = some 1 := by kernel_rfl
@[simp] theorem ag25 : aggT Try.prog 25 = some false := by kernel_rfl
@[simp] theorem ze25 : zeroT Try.prog 25 = some [.d (.s .nilFunc)] := by kernel_rfl
@[simp] theorem sz26 : szOf Try.prog 26 = some 2 := by kernel_rfl
@[simp] theorem ag26 : aggT Try.prog 26 = some true := by kernel_rfl
@[simp] theorem ze26 : zeroT Try.prog 26 = some [.d (.s (.int .i64 0)), .d .nil] := by kernel_rfl
@[simp] theorem fi26_0 : fieldT Try.prog 26 0 = some (0, 1, false) := by kernel_rfl
@[simp] theorem fi26_1 : fieldT Try.prog 26 1 = some (1, 1, false) := by kernel_rfl
@[simp] theorem pl26 : placesT Try.prog 26 = some [(0, 1), (1, 1)] := by kernel_rfl
@[simp] theorem sz27 : szOf Try.prog 27 = some 2 := by kernel_rfl
@[simp] theorem ag27 : aggT Try.prog 27 = some true := by kernel_rfl
@[simp] theorem ze27 : zeroT Try.prog 27 = some [.d (.s (.int .i64 0)), .d .nil] := by kernel_rfl
@[simp] theorem fi27_0 : fieldT Try.prog 27 0 = some (0, 1, false) := by kernel_rfl
@[simp] theorem fi27_1 : fieldT Try.prog 27 1 = some (1, 1, false) := by kernel_rfl
@[simp] theorem pl27 : placesT Try.prog 27 = some [(0, 1), (1, 1)] := by kernel_rfl
@[simp] theorem sz28 : szOf Try.prog 28 = some 1 := by kernel_rfl
@[simp] theorem ag28 : aggT Try.prog 28 = some false := by kernel_rfl
@[simp] theorem ze28 : zeroT Try.prog 28 = some [.d (.s .nilFunc)] := by kernel_rfl
@[simp] theorem sz29 : szOf Try.prog 29 = some 1 := by kernel_rfl
@[simp] theorem ag29 : aggT Try.prog 29 = some false := by kernel_rfl
@[simp] theorem sz30 : szOf Try.prog 30 = some 1 := by kernel_rfl
@[simp] theorem ag30 : aggT Try.prog 30 = some false := by kernel_rfl
@[simp] theorem ze30 : zeroT Try.prog 30 = some [.d (.s .nilFunc)] := by kernel_rfl
@[simp] theorem sz31 : szOf Try.prog 31 = some 2 := by kernel_rfl
@[simp] theorem ag31 : aggT Try.prog 31 = some true := by kernel_rfl
@[simp] theorem ze31 : zeroT Try.prog 31 = some [.d (.s (.int .i64 0)), .d (.s (.int .i64 0))] := by kernel_rfl
@[simp] theorem fi31_0 : fieldT Try.prog 31 0 = some (0, 1, false) := by kernel_rfl
@[simp] theorem fi31_1 : fieldT Try.prog 31 1 = some (1, 1, false) := by kernel_rfl
@[simp] theorem pl31 : placesT Try.prog 31 = some [(0, 1), (1, 1)] := by kernel_rfl
@[simp] theorem sz32 : szOf Try.prog 32 = some 2 := by kernel_rfl
@[simp] theorem ag32 : aggT Try.prog 32 = some true := by kernel_rfl
@[simp] theorem ze32 : zeroT Try.prog 32 = some [.d (.s (.int .i64 0)), .d (.s (.int .i64 0))] := by kernel_rfl
@[simp] theorem fi32_0 : fieldT Try.prog 32 0 = some (0, 1, false) := by kernel_rfl
@[simp] theorem fi32_1 : fieldT Try.prog 32 1 = some (1, 1, false) := by kernel_rfl
@[simp] theorem pl32 : placesT Try.prog 32 = some [(0, 1), (1, 1)] := by kernel_rfl
@[simp] theorem sz33 : szOf Try.prog 33 = some 1 := by kernel_rfl
@[simp] theorem ag33 : aggT Try.prog 33 = some false := by kernel_rfl
@[simp] theorem ze33 : zeroT Try.prog 33 = some [.d (.s .nilFunc)] := by kernel_rfl
@[simp] theorem sz34 : szOf Try.prog 34 = some 1 := by kernel_rfl
@[simp] theorem ag34 : aggT Try.prog 34 = some false := by kernel_rfl
@[simp] theorem sz35 : szOf Try.prog 35 = some 1 := by kernel_rfl
@[simp] theorem ag35 : aggT Try.prog 35 = some false := by kernel_rfl
@[simp] theorem ze35 : zeroT Try.prog 35 = some [.d (.s .nilFunc)] := by kernel_rfl
@[simp] theorem sz36 : szOf Try.prog 36 = some 1 := by kernel_rfl
@[simp] theorem ag36 : aggT Try.prog 36 = some false := by kernel_rfl
@[simp] theorem ze36 : zeroT Try.prog 36 = some [.d (.s .nilFunc)] := by kernel_rfl
@[simp] theorem sz37 : szOf Try.prog 37 = some 1 := by kernel_rfl
@[simp] theorem ag37 : aggT Try.prog 37 = some false := by kernel_rfl
@[simp] theorem ze37 : zeroT Try.prog 37 = some [.d (.s .nilFunc)] := by kernel_rfl
@[simp] theorem sz38 : szOf Try.prog 38 = some 1 := by kernel_rfl
@[simp] theorem ag38 : aggT Try.prog 38 = some false := by kernel_rfl
@[simp] theorem sl38 : sliceT Try.prog 38 = some (22, 1, 24) := by kernel_rfl
@[simp] theorem ze38 : zeroT Try.prog 38 = some [.d .nil] := by kernel_rfl
@[simp] theorem sz39 : szOf Try.prog 39 = some 3 := by kernel_rfl
@[simp] theorem ag39 : aggT Try.prog 39 = some true := by kernel_rfl
@[simp] theorem ze39 : zeroT Try.prog 39 = some [.d (.s (.int .i64 0)), .d .nil, .d (.s (.int .i64 0))] := by kernel_rfl
@[simp] theorem fi39_0 : fieldT Try.prog 39 0 = some (0, 1, false) := by kernel_rfl
@[simp] theorem fi39_1 : fieldT Try.prog 39 1 = some (1, 1, false) := by kernel_rfl
@[simp] theorem fi39_2 : fieldT Try.prog 39 2 = some (2, 1, false) := by kernel_rfl
@[simp] theorem pl39 : placesT Try.prog 39 = some [(0, 1), (1, 1), (2, 1)] := by kernel_rfl
@[simp] theorem sz40 : szOf Try.prog 40 = some 3 := by kernel_rfl
@[simp] theorem ag40 : aggT Try.prog 40 = some true := by kernel_rfl
@[simp] theorem ze40 : zeroT Try.prog 40 = some [.d (.s (.int .i64 0)), .d .nil, .d (.s (.int .i64 0))] := by kernel_rfl
@[simp] theorem fi40_0 : fieldT Try.prog 40 0 = some (0, 1, false) := by kernel_rfl
@[simp] theorem fi40_1 : fieldT Try.prog 40 1 = some (1, 1, false) := by kernel_rfl
@[simp] theorem fi40_2 : fieldT Try.prog 40 2 = some (2, 1, false) := by kernel_rfl
@[simp] theorem pl40 : placesT Try.prog 40 = some [(0, 1), (1, 1), (2, 1)] := by kernel_rfl
@[simp] theorem sz41 : szOf Try.prog 41 = some 1 := by kernel_rfl
@[simp] theorem ag41 : aggT Try.prog 41 = some false := by kernel_rfl
@[simp] theorem ze41 : zeroT Try.prog 41 = some [.d (.s .nilFunc)] := by kernel_rfl
@[simp] theorem sz42 : szOf Try.prog 42 = some 1 := by kernel_rfl
@[simp] theorem ag42 : aggT Try.prog 42 = some false := by kernel_rfl
@[simp] theorem ze42 : zeroT Try.prog 42 = some [.d (.s .nilFunc)] := by kernel_rfl
@[simp] theorem sz43 : szOf Try.prog 43 = some 1 := by kernel_rfl
@[simp] theorem ag43 : aggT Try.prog 43 = some false := by kernel_rfl
@[simp] theorem ze43 : zeroT Try.prog 43 = some [.d (.s .nilFunc)] := by kernel_rfl
@[simp] theorem sz44 : szOf Try.prog 44 = some 1 := by kernel_rfl
@[simp] theorem ag44 : aggT Try.prog 44 = some false := by kernel_rfl
@[simp] theorem ze44 : zeroT Try.prog 44 = some [.d (.s .nilFunc)] := by kernel_rfl
@[simp] theorem sz45 : szOf Try.prog 45 = some 1 := by kernel_rfl
@[simp] theorem ag45 : aggT Try.prog 45 = some false := by kernel_rfl
@[simp] theorem sz46 : szOf Try.prog 46 = some 1 := by kernel_rfl
@[simp] theorem ag46 : aggT Try.prog 46 = some false := by kernel_rfl
@[simp] theorem ze46 : zeroT Try.prog 46 = some [.d (.s .nilFunc)] := by kernel_rfl
@[simp] theorem sz47 : szOf Try.prog 47 = some 1 := by kernel_rfl
@[simp] theorem ag47 : aggT Try.prog 47 = some false := by kernel_rfl
@[simp] theorem ze47 : zeroT Try.prog 47 = some [.d (.s .nilFunc)] := by kernel_rfl
@[simp] theorem sz48 : szOf Try.prog 48 = some 1 := by kernel_rfl
@[simp] theorem ag48 : aggT Try.prog 48 = some false := by kernel_rfl
@[simp] theorem ze48 : zeroT Try.prog 48 = some [.d (.s .nilFunc)] := by kernel_rfl
@[simp] theorem sz49 : szOf Try.prog 49 = some 1 := by kernel_rfl
@[simp] theorem ag49 : aggT Try.prog 49 = some false := by kernel_rfl
@[simp] theorem ze49 : zeroT Try.prog 49 = some [.d (.s .nilFunc)] := by kernel_rfl
@[simp] theorem sz50 : szOf Try.prog 50 = some 1 := by kernel_rfl
@[simp] theorem ag50 : aggT Try.prog 50 = some false := by kernel_rfl
@[simp] theorem ze50 : zeroT Try.prog 50 = some [.d (.s .nilFunc)] := by kernel_rfl
@[simp] theorem sz51 : szOf Try.prog 51 = some 1 := by kernel_rfl
@[simp] theorem ag51 : aggT Try.prog 51 = some false := by kernel_rfl
@[simp] theorem ze51 : zeroT Try.prog 51 = some [.d (.s .nilFunc)] := by kernel_rfl
@[simp] theorem sz52 : szOf Try.prog 52 = some 1 := by kernel_rfl
@[simp] theorem ag52 : aggT Try.prog 52 = some false := by kernel_rfl
@[simp] theorem ze52 : zeroT Try.prog 52 = some [.d (.s .nilFunc)] := by kernel_rfl
@[simp] theorem sz53 : szOf Try.prog 53 = some 1 := by kernel_rfl
@[simp] theorem ag53 : aggT Try.prog 53 = some false := by kernel_rfl
@[simp] theorem ze53 : zeroT Try.prog 53 = some [.d (.s .nilFunc)] := by kernel_rfl
@[simp] theorem sz54 : szOf Try.prog 54 = some 1 := by kernel_rfl
@[simp] theorem ag54 : aggT Try.prog 54 = some false := by kernel_rfl
@[simp] theorem ze54 : zeroT Try.prog 54 = some [.d (.s .nilFunc)] := by kernel_rfl
@[simp] theorem sz55 : szOf Try.prog 55 = some 1 := by kernel_rfl
@[simp] theorem ag55 : aggT Try.prog 55 = some false := by kernel_rfl
@[simp] theorem ze55 : zeroT Try.prog 55 = some [.d (.s .nilFunc)] := by kernel_rfl
@[simp] theorem sz56 : szOf Try.prog 56 = some 1 := by kernel_rfl
@[simp] theorem ag56 : aggT Try.prog 56 = some false := by kernel_rfl
@[simp] theorem ze56 : zeroT Try.prog 56 = some [.d (.s .nilFunc)] := by kernel_rfl
@[simp] theorem sz57 : szOf Try.prog 57 = some 1 := by kernel_rfl
@[simp] theorem ag57 : aggT Try.prog 57 = some false := by kernel_rfl
@[simp] theorem ze57 : zeroT Try.prog 57 = some [.d (.s (.pointer none))] := by kernel_rfl
@[simp] theorem sz58 : szOf Try.prog 58 = some 1 := by kernel_rfl
@[simp] theorem ag58 : aggT Try.prog 58 = some false := by kernel_rfl
@[simp] theorem ze58 : zeroT Try.prog 58 = some [.d (.s .nilFunc)] := by kernel_rfl
@[simp] theorem sz59 : szOf Try.prog 59 = some 1 := by kernel_rfl
@[simp] theorem ag59 : aggT Try.prog 59 = some false := by kernel_rfl
@[simp] theorem ze59 : zeroT Try.prog 59 = some [.d (.s .nilFunc)] := by kernel_rfl
@[simp] theorem sz60 : szOf Try.prog 60 = some 1 := by kernel_rfl
@[simp] theorem ag60 : aggT Try.prog 60 = some false := by kernel_rfl
@[simp] theorem ze60 : zeroT Try.prog 60 = some [.d (.s .nilFunc)] := by kernel_rfl
@[simp] theorem sz61 : szOf Try.prog 61 = some 1 := by kernel_rfl
@[simp] theorem ag61 : aggT Try.prog 61 = some false := by kernel_rfl
@[simp] theorem ze61 : zeroT Try.prog 61 = some [.d (.s .nilFunc)] := by kernel_rfl
@[simp] theorem sz62 : szOf Try.prog 62 = some 3 := by kernel_rfl
@[simp] theorem ag62 : aggT Try.prog 62 = some true := by kernel_rfl
@[simp] theorem ze62 : zeroT Try.prog 62 = some [.d (.s (.int .i64 0)), .d (.s (.int .i64 0)), .d (.s (.int .i64 0))] := by kernel_rfl
@[simp] theorem fi62_0 : fieldT Try.prog 62 0 = some (0, 1, false) := by kernel_rfl
@[simp] theorem fi62_1 : fieldT Try.prog 62 1 = some (1, 1, false) := by kernel_rfl
@[simp] theorem fi62_2 : fieldT Try.prog 62 2 = some (2, 1, false) := by kernel_rfl
@[simp] theorem pl62 : placesT Try.prog 62 = some [(0, 1), (1, 1), (2, 1)] := by kernel_rfl
@[simp] theorem sz63 : szOf Try.prog 63 = some 3 := by kernel_rfl
@[simp] theorem ag63 : aggT Try.prog 63 = some true := by kernel_rfl
@[simp] theorem ze63 : zeroT Try.prog 63 = some [.d (.s (.int .i64 0)), .d (.s (.int .i64 0)), .d (.s (.int .i64 0))] := by kernel_rfl
@[simp] theorem fi63_0 : fieldT Try.prog 63 0 = some (0, 1, false) := by kernel_rfl
@[simp] theorem fi63_1 : fieldT Try.prog 63 1 = some (1, 1, false) := by kernel_rfl
@[simp] theorem fi63_2 : fieldT Try.prog 63 2 = some (2, 1, false) := by kernel_rfl
@[simp] theorem pl63 : placesT Try.prog 63 = some [(0, 1), (1, 1), (2, 1)] := by kernel_rfl
@[simp] theorem sz64 : szOf Try.prog 64 = some 1 := by kernel_rfl
@[simp] theorem ag64 : aggT Try.prog 64 = some false := by kernel_rfl
@[simp] theorem ze64 : zeroT Try.prog 64 = some [.d (.s (.int .u64 0))] := by kernel_rfl
@[simp] theorem sz65 : szOf Try.prog 65 = some 1 := by kernel_rfl
@[simp] theorem ag65 : aggT Try.prog 65 = some false := by kernel_rfl
@[simp] theorem ze65 : zeroT Try.prog 65 = some [.d (.s .nilFunc)] := by kernel_rfl
@[simp] theorem sz66 : szOf Try.prog 66 = some 1 := by kernel_rfl
@[simp] theorem ag66 : aggT Try.prog 66 = some false := by kernel_rfl
@[simp] theorem ze66 : zeroT Try.prog 66 = some [.d (.s .nilFunc)] := by kernel_rfl
@[simp] theorem sz67 : szOf Try.prog 67 = some 1 := by kernel_rfl
@[simp] theorem ag67 : aggT Try.prog 67 = some false := by kernel_rfl
@[simp] theorem ze67 : zeroT Try.prog 67 = some [.d (.s .nilFunc)] := by kernel_rfl
@[simp] theorem sz68 : szOf Try.prog 68 = some 1 := by kernel_rfl
@[simp] theorem ag68 : aggT Try.prog 68 = some false := by kernel_rfl
@[simp] theorem ze68 : zeroT Try.prog 68 = some [.d (.s .nilFunc)] := by kernel_rfl
@[simp] theorem sz69 : szOf Try.prog 69 = some 1 := by kernel_rfl
@[simp] theorem ag69 : aggT Try.prog 69 = some false := by kernel_rfl
@[simp] theorem ze69 : zeroT Try.prog 69 = some [.d (.s .nilFunc)] := by kernel_rfl
@[simp] theorem sz70 : szOf Try.prog 70 = some 1 := by kernel_rfl
@[simp] theorem ag70 : aggT Try.prog 70 = some false := by kernel_rfl
@[simp] theorem ze70 : zeroT Try.prog 70 = some [.d (.s .nilFunc)] := by kernel_rfl
@[simp] theorem sz71 : szOf Try.prog 71 = some 1 := by kernel_rfl
@[simp] theorem ag71 : aggT Try.prog 71 = some false := by kernel_rfl
@[simp] theorem sz72 : szOf Try.prog 72 = some 1 := by kernel_rfl
@[simp] theorem ag72 : aggT Try.prog 72 = some false := by kernel_rfl
@[simp] theorem ze72 : zeroT Try.prog 72 = some [.d (.s .nilFunc)] := by kernel_rfl
@[simp] theorem sz73 : szOf Try.prog 73 = some 1 := by kernel_rfl
@[simp] theorem ag73 : aggT Try.prog 73 = some false := by kernel_rfl
@[simp] theorem sz74 : szOf Try.prog 74 = some 1 := by kernel_rfl
@[simp] theorem ag74 : aggT Try.prog 74 = some false := by kernel_rfl
@[simp] theorem ze74 : zeroT Try.prog 74 = some [.d (.s .nilFunc)] := by kernel_rfl
@[simp] theorem sz75 : szOf Try.prog 75 = some 1 := by kernel_rfl
@[simp] theorem ag75 : aggT Try.prog 75 = some false := by kernel_rfl
@[simp] theorem ze75 : zeroT Try.prog 75 = some [.d (.s .nilFunc)] := by kernel_rfl
@[simp] theorem sz76 : szOf Try.prog 76 = some 1 := by kernel_rfl
@[simp] theorem ag76 : aggT Try.prog 76 = some false := by kernel_rfl
@[simp] theorem ze76 : zeroT Try.prog 76 = some [.d (.s .nilFunc)] := by kernel_rfl
@[simp] theorem sz77 : szOf Try.prog 77 = some 1 := by kernel_rfl
@[simp] theorem ag77 : aggT Try.prog 77 = some false := by kernel_rfl
@[simp] theorem ze77 : zeroT Try.prog 77 = some [.d (.s .nilFunc)] := by kernel_rfl
@[simp] theorem sz78 : szOf Try.prog 78 = some 1 := by kernel_rfl
@[simp] theorem ag78 : aggT Try.prog 78 = some false := by kernel_rfl
@[simp] theorem ze78 : zeroT Try.prog 78 = some [.d (.s .nilFunc)] := by kernel_rfl
@[simp] theorem sz79 : szOf Try.prog 79 = some 1 := by kernel_rfl
@[simp] theorem ag79 : aggT Try.prog 79 = some false := by kernel_rfl
@[simp] theorem ze79 : zeroT Try.prog 79 = some [.d (.s .nilFunc)] := by kernel_rfl
@[simp] theorem sz80 : szOf Try.prog 80 = some 1 := by kernel_rfl
@[simp] theorem ag80 : aggT Try.prog 80 = some false := by kernel_rfl
@[simp] theorem ze80 : zeroT Try.prog 80 = some [.d (.s .nilFunc)] := by kernel_rfl
@[simp] theorem sz81 : szOf Try.prog 81 = some 2 := by kernel_rfl
@[simp] theorem ag81 : aggT Try.prog 81 = some true := by kernel_rfl
@[simp] theorem ze81 : zeroT Try.prog 81 = some [.d .nil, .d (.s (.int .i64 0))] := by kernel_rfl
@[simp] theorem fi81_0 : fieldT Try.prog 81 0 = some (0, 1, false) := by kernel_rfl
@[simp] theorem fi81_1 : fieldT Try.prog 81 1 = some (1, 1, false) := by kernel_rfl
@[simp] theorem pl81 : placesT Try.prog 81 = some [(0, 1), (1, 1)] := by kernel_rfl
@[simp] theorem sz82 : szOf Try.prog 82 = some 2 := by kernel_rfl
@[simp] theorem ag82 : aggT Try.prog 82 = some true := by kernel_rfl
@[simp] theorem ze82 : zeroT Try.prog 82 = some [.d .nil, .d (.s (.int .i64 0))] := by kernel_rfl
@[simp] theorem fi82_0 : fieldT Try.prog 82 0 = some (0, 1, false) := by kernel_rfl
@[simp] theorem fi82_1 : fieldT Try.prog 82 1 = some (1, 1, false) := by kernel_rfl
@[simp] theorem pl82 : placesT Try.prog 82 = some [(0, 1), (1, 1)] := by kernel_rfl
@[simp] theorem sz83 : szOf Try.prog 83 = some 1 := by kernel_rfl
@[simp] theorem ag83 : aggT Try.prog 83 = some false := by kernel_rfl
@[simp] theorem sl83 : sliceT Try.prog 83 = some (2, 1, 8) := by kernel_rfl
@[simp] theorem ze83 : zeroT Try.prog 83 = some [.d .nil] := by kernel_rfl
@[simp] theorem sz84 : szOf Try.prog 84 = some 1 := by kernel_rfl
@[simp] theorem ag84 : aggT Try.prog 84 = some false := by kernel_rfl
@[simp] theorem sl84 : sliceT Try.prog 84 = some (63, 3, 24) := by kernel_rfl
@[simp] theorem ze84 : zeroT Try.prog 84 = some [.d .nil] := by kernel_rfl
@[simp] theorem sz85 : szOf Try.prog 85 = some 1 := by kernel_rfl
@[simp] theorem ag85 : aggT Try.prog 85 = some false := by kernel_rfl
@[simp] theorem ze85 : zeroT Try.prog 85 = some [.d (.s .nilFunc)] := by kernel_rfl
@[simp] theorem sz86 : szOf Try.prog 86 = some 1 := by kernel_rfl
@[simp] theorem ag86 : aggT Try.prog 86 = some false := by kernel_rfl
@[simp] theorem ze86 : zeroT Try.prog 86 = some [.d (.s .nilFunc)] := by kernel_rfl
@[simp] theorem sz87 : szOf Try.prog 87 = some 4 := by kernel_rfl
@[simp] theorem ag87 : aggT Try.prog 87 = some true := by kernel_rfl
@[simp] theorem ze87 : zeroT Try.prog 87 = some [.d (.s (.pointer none)), .d (.s (.pointer none)), .d (.s (.pointer none)), .d (.s (.string ByteArray.empty))] := by kernel_rfl
@[simp] theorem fi87_0 : fieldT Try.prog 87 0 = some (0, 1, false) := by kernel_rfl
@[simp] theorem fi87_1 : fieldT Try.prog 87 1 = some (1, 1, false) := by kernel_rfl
@[simp] theorem fi87_2 : fieldT Try.prog 87 2 = some (2, 1, false) := by kernel_rfl
@[simp] theorem fi87_3 : fieldT Try.prog 87 3 = some (3, 1, false) := by kernel_rfl
@[simp] theorem pl87 : placesT Try.prog 87 = some [(0, 1), (1, 1), (2, 1), (3, 1)] := by kernel_rfl
@[simp] theorem sz88 : szOf Try.prog 88 = some 4 := by kernel_rfl
@[simp] theorem ag88 : aggT Try.prog 88 = some true := by kernel_rfl
@[simp] theorem ze88 : zeroT Try.prog 88 = some [.d (.s (.pointer none)), .d (.s (.pointer none)), .d (.s (.pointer none)), .d (.s (.string ByteArray.empty))] := by kernel_rfl
@[simp] theorem fi88_0 : fieldT Try.prog 88 0 = some (0, 1, false) := by kernel_rfl
@[simp] theorem fi88_1 : fieldT Try.prog 88 1 = some (1, 1, false) := by kernel_rfl
@[simp] theorem fi88_2 : fieldT Try.prog 88 2 = some (2, 1, false) := by kernel_rfl
@[simp] theorem fi88_3 : fieldT Try.prog 88 3 = some (3, 1, false) := by kernel_rfl
@[simp] theorem pl88 : placesT Try.prog 88 = some [(0, 1), (1, 1), (2, 1), (3, 1)] := by kernel_rfl
@[simp] theorem sz89 : szOf Try.prog 89 = some 0 := by kernel_rfl
@[simp] theorem ag89 : aggT Try.prog 89 = some true := by kernel_rfl
@[simp] theorem ze89 : zeroT Try.prog 89 = some [] := by kernel_rfl
@[simp] theorem sz90 : szOf Try.prog 90 = some 0 := by kernel_rfl
@[simp] theorem ag90 : aggT Try.prog 90 = some true := by kernel_rfl
@[simp] theorem ze90 : zeroT Try.prog 90 = some [] := by kernel_rfl
@[simp] theorem fi90_0 : fieldT Try.prog 90 0 = some (0, 0, true) := by kernel_rfl
@[simp] theorem pl90 : placesT Try.prog 90 = some [(0, 0)] := by kernel_rfl
@[simp] theorem sz91 : szOf Try.prog 91 = some 0 := by kernel_rfl
@[simp] theorem ag91 : aggT Try.prog 91 = some true := by kernel_rfl
@[simp] theorem ze91 : zeroT Try.prog 91 = some [] := by kernel_rfl
@[simp] theorem fi91_0 : fieldT Try.prog 91 0 = some (0, 0, true) := by kernel_rfl
@[simp] theorem pl91 : placesT Try.prog 91 = some [(0, 0)] := by kernel_rfl
@[simp] theorem sz92 : szOf Try.prog 92 = some 1 := by kernel_rfl
@[simp] theorem ag92 : aggT Try.prog 92 = some false := by kernel_rfl
@[simp] theorem ze92 : zeroT Try.prog 92 = some [.d (.s .nilFunc)] := by kernel_rfl
@[simp] theorem sz93 : szOf Try.prog 93 = some 1 := by kernel_rfl
@[simp] theorem ag93 : aggT Try.prog 93 = some false := by kernel_rfl
@[simp] theorem ze93 : zeroT Try.prog 93 = some [.d (.s (.int .u32 0))] := by kernel_rfl
@[simp] theorem sz94 : szOf Try.prog 94 = some 1 := by kernel_rfl
@[simp] theorem ag94 : aggT Try.prog 94 = some false := by kernel_rfl
@[simp] theorem ze94 : zeroT Try.prog 94 = some [.d (.s (.int .u8 0))] := by kernel_rfl
@[simp] theorem sz95 : szOf Try.prog 95 = some 1 := by kernel_rfl
@[simp] theorem ag95 : aggT Try.prog 95 = some false := by kernel_rfl
@[simp] theorem ze95 : zeroT Try.prog 95 = some [.d (.s (.int .u8 0))] := by kernel_rfl
@[simp] theorem sz96 : szOf Try.prog 96 = some 1 := by kernel_rfl
@[simp] theorem ag96 : aggT Try.prog 96 = some false := by kernel_rfl
@[simp] theorem ze96 : zeroT Try.prog 96 = some [.d (.s .nilFunc)] := by kernel_rfl
@[simp] theorem sz97 : szOf Try.prog 97 = some 1 := by kernel_rfl
@[simp] theorem ag97 : aggT Try.prog 97 = some false := by kernel_rfl
@[simp] theorem ze97 : zeroT Try.prog 97 = some [.d (.s (.pointer none))] := by kernel_rfl
@[simp] theorem sz98 : szOf Try.prog 98 = some 1 := by kernel_rfl
@[simp] theorem ag98 : aggT Try.prog 98 = some false := by kernel_rfl
@[simp] theorem ze98 : zeroT Try.prog 98 = some [.d (.s (.int .i32 0))] := by kernel_rfl
@[simp] theorem sz99 : szOf Try.prog 99 = some 1 := by kernel_rfl
@[simp] theorem ag99 : aggT Try.prog 99 = some false := by kernel_rfl
@[simp] theorem ze99 : zeroT Try.prog 99 = some [.d (.s (.int .i32 0))] := by kernel_rfl
@[simp] theorem sz100 : szOf Try.prog 100 = some 11 := by kernel_rfl
@[simp] theorem ag100 : aggT Try.prog 100 = some true := by kernel_rfl
@[simp] theorem ze100 : zeroT Try.prog 100 = some [.d (.s (.int .u64 0)), .d (.s (.int .u64 0)), .d (.s (.int .u32 0)), .d (.s (.int .u8 0)), .d (.s (.int .u8 0)), .d (.s (.int .u8 0)), .d (.s (.int .u8 0)), .d (.s .nilFunc), .d (.s (.pointer none)), .d (.s (.int .i32 0)), .d (.s (.int .i32 0))] := by kernel_rfl
@[simp] theorem fi100_0 : fieldT Try.prog 100 0 = some (0, 1, false) := by kernel_rfl
@[simp] theorem fi100_1 : fieldT Try.prog 100 1 = some (1, 1, false) := by kernel_rfl
@[simp] theorem fi100_2 : fieldT Try.prog 100 2 = some (2, 1, false) := by kernel_rfl
@[simp] theorem fi100_3 : fieldT Try.prog 100 3 = some (3, 1, false) := by kernel_rfl
@[simp] theorem fi100_4 : fieldT Try.prog 100 4 = some (4, 1, false) := by kernel_rfl
@[simp] theorem fi100_5 : fieldT Try.prog 100 5 = some (5, 1, false) := by kernel_rfl
@[simp] theorem fi100_6 : fieldT Try.prog 100 6 = some (6, 1, false) := by kernel_rfl
@[simp] theorem fi100_7 : fieldT Try.prog 100 7 = some (7, 1, false) := by kernel_rfl
@[simp] theorem fi100_8 : fieldT Try.prog 100 8 = some (8, 1, false) := by kernel_rfl
@[simp] theorem fi100_9 : fieldT Try.prog 100 9 = some (9, 1, false) := by kernel_rfl
@[simp] theorem fi100_10 : fieldT Try.prog 100 10 = some (10, 1, false) := by kernel_rfl
@[simp] theorem pl100 : placesT Try.prog 100 = some [(0, 1), (1, 1), (2, 1), (3, 1), (4, 1), (5, 1), (6, 1), (7, 1), (8, 1), (9, 1), (10, 1)] := by kernel_rfl
@[simp] theorem sz101 : szOf Try.prog 101 = some 11 := by kernel_rfl
@[simp] theorem ag101 : aggT Try.prog 101 = some true := by kernel_rfl
@[simp] theorem ze101 : zeroT Try.prog 101 = some [.d (.s (.int .u64 0)), .d (.s (.int .u64 0)), .d (.s (.int .u32 0)), .d (.s (.int .u8 0)), .d (.s (.int .u8 0)), .d (.s (.int .u8 0)), .d (.s (.int .u8 0)), .d (.s .nilFunc), .d (.s (.pointer none)), .d (.s (.int .i32 0)), .d (.s (.int .i32 0))] := by kernel_rfl
@[simp] theorem fi101_0 : fieldT Try.prog 101 0 = some (0, 1, false) := by kernel_rfl
@[simp] theorem fi101_1 : fieldT Try.prog 101 1 = some (1, 1, false) := by kernel_rfl
@[simp] theorem fi101_2 : fieldT Try.prog 101 2 = some (2, 1, false) := by kernel_rfl
@[simp] theorem fi101_3 : fieldT Try.prog 101 3 = some (3, 1, false) := by kernel_rfl
@[simp] theorem fi101_4 : fieldT Try.prog 101 4 = some (4, 1, false) := by kernel_rfl
@[simp] theorem fi101_5 : fieldT Try.prog 101 5 = some (5, 1, false) := by kernel_rfl
@[simp] theorem fi101_6 : fieldT Try.prog 101 6 = some (6, 1, false) := by kernel_rfl
@[simp] theorem fi101_7 : fieldT Try.prog 101 7 = some (7, 1, false) := by kernel_rfl
@[simp] theorem fi101_8 : fieldT Try.prog 101 8 = some (8, 1, false) := by kernel_rfl
@[simp] theorem fi101_9 : fieldT Try.prog 101 9 = some (9, 1, false) := by kernel_rfl
@[simp] theorem fi101_10 : fieldT Try.prog 101 10 = some (10, 1, false) := by kernel_rfl
@[simp] theorem pl101 : placesT Try.prog 101 = some [(0, 1), (1, 1), (2, 1), (3, 1), (4, 1), (5, 1), (6, 1), (7, 1), (8, 1), (9, 1), (10, 1)] := by kernel_rfl
@[simp] theorem sz102 : szOf Try.prog 102 = some 1 := by kernel_rfl
@[simp] theorem ag102 : aggT Try.prog 102 = some false := by kernel_rfl
@[simp] theorem ze102 : zeroT Try.prog 102 = some [.d (.s (.pointer none))] := by kernel_rfl
@[simp] theorem ca2 : callable Try.prog 2 = true := by kernel_rfl
@[simp] theorem ca3 : callable Try.prog 3 = true := by kernel_rfl
@[simp] theorem ca4 : callable Try.prog 4 = true := by kernel_rfl
@[simp] theorem ca5 : callable Try.prog 5 = true := by kernel_rfl
@[simp] theorem ca6 : callable Try.prog 6 = true := by kernel_rfl
@[simp] theorem ca7 : callable Try.prog 7 = true := by kernel_rfl
@[simp] theorem ca8 : callable Try.prog 8 = true := by kernel_rfl
@[simp] theorem ca9 : callable Try.prog 9 = true := by kernel_rfl
@[simp] theorem ca10 : callable Try.prog 10 = true := by kernel_rfl
@[simp] theorem ca11 : callable Try.prog 11 = true := by kernel_rfl
@[simp] theorem ca12 : callable Try.prog 12 = true := by kernel_rfl
@[simp] theorem ca13 : callable Try.prog 13 = true := by kernel_rfl
@[simp] theorem ca14 : callable Try.prog 14 = true := by kernel_rfl
@[simp] theorem ca15 : callable Try.prog 15 = true := by kernel_rfl
@[simp] theorem ca16 : callable Try.prog 16 = true := by kernel_rfl
@[simp] theorem ca17 : callable Try.prog 17 = true := by kernel_rfl
@[simp] theorem ca18 : callable Try.prog 18 = true := by kernel_rfl
@[simp] theorem ca19 : callable Try.prog 19 = true := by kernel_rfl
@[simp] theorem ca20 : callable Try.prog 20 = true := by kernel_rfl
@[simp] theorem ca21 : callable Try.prog 21 = true := by kernel_rfl
@[simp] theorem ca22 : callable Try.prog 22 = true := by kernel_rfl
@[simp] theorem ca23 : callable Try.prog 23 = true := by kernel_rfl
@[simp] theorem ca24 : callable Try.prog 24 = true := by kernel_rfl
@[simp] theorem ca25 : callable Try.prog 25 = true := by kernel_rfl
@[simp] theorem ca26 : callable Try.prog 26 = true := by kernel_rfl
@[simp] theorem ca27 : callable Try.prog 27 = true := by kernel_rfl
@[simp] theorem ca28 : callable Try.prog 28 = true := by kernel_rfl
@[simp] theorem ca29 : callable Try.prog 29 = true := by kernel_rfl
@[simp] theorem ca30 : callable Try.prog 30 = true := by kernel_rfl
@[simp] theorem ca31 : callable Try.prog 31 = true := by kernel_rfl
@[simp] theorem ca32 : callable Try.prog 32 = true := by kernel_rfl
@[simp] theorem ca33 : callable Try.prog 33 = true := by kernel_rfl
@[simp] theorem ca34 : callable Try.prog 34 = true := by kernel_rfl
@[simp] theorem ca35 : callable Try.prog 35 = true := by kernel_rfl
@[simp] theorem ca36 : callable Try.prog 36 = true := by kernel_rfl
@[simp] theorem ca37 : callable Try.prog 37 = true := by kernel_rfl
@[simp] theorem ca38 : callable Try.prog 38 = true := by kernel_rfl
@[simp] theorem ca39 : callable Try.prog 39 = true := by kernel_rfl
@[simp] theorem ca40 : callable Try.prog 40 = true := by kernel_rfl
@[simp] theorem ca41 : callable Try.prog 41 = true := by kernel_rfl
@[simp] theorem ca42 : callable Try.prog 42 = true := by kernel_rfl
@[simp] theorem ca43 : callable Try.prog 43 = true := by kernel_rfl
@[simp] theorem ca44 : callable Try.prog 44 = true := by kernel_rfl
@[simp] theorem ca45 : callable Try.prog 45 = true := by kernel_rfl
@[simp] theorem ca46 : callable Try.prog 46 = true := by kernel_rfl
@[simp] theorem ca47 : callable Try.prog 47 = true := by kernel_rfl
@[simp] theorem ca48 : callable Try.prog 48 = true := by kernel_rfl
@[simp] theorem ca49 : callable Try.prog 49 = true := by kernel_rfl
@[simp] theorem ca50 : callable Try.prog 50 = true := by kernel_rfl
@[simp] theorem ca51 : callable Try.prog 51 = true := by kernel_rfl
@[simp] theorem ca52 : callable Try.prog 52 = true := by kernel_rfl
@[simp] theorem ca53 : callable Try.prog 53 = true := by kernel_rfl
@[simp] theorem ca54 : callable Try.prog 54 = true := by kernel_rfl
@[simp] theorem ca55 : callable Try.prog 55 = true := by kernel_rfl
@[simp] theorem ca56 : callable Try.prog 56 = true := by kernel_rfl
@[simp] theorem ca57 : callable Try.prog 57 = true := by kernel_rfl
@[simp] theorem ca58 : callable Try.prog 58 = true := by kernel_rfl
@[simp] theorem ca59 : callable Try.prog 59 = true := by kernel_rfl
@[simp] theorem ca60 : callable Try.prog 60 = true := by kernel_rfl
@[simp] theorem ca61 : callable Try.prog 61 = true := by kernel_rfl
@[simp] theorem ca62 : callable Try.prog 62 = true := by kernel_rfl
@[simp] theorem ca63 : callable Try.prog 63 = true := by kernel_rfl
@[simp] theorem ca64 : callable Try.prog 64 = true := by kernel_rfl
@[simp] theorem ca65 : callable Try.prog 65 = true := by kernel_rfl
@[simp] theorem ca66 : callable Try.prog 66 = true := by kernel_rfl
@[simp] theorem ca67 : callable Try.prog 67 = true := by kernel_rfl
@[simp] theorem ca68 : callable Try.prog 68 = true := by kernel_rfl
@[simp] theorem ca69 : callable Try.prog 69 = true := by kernel_rfl
@[simp] theorem ca70 : callable Try.prog 70 = true := by kernel_rfl
@[simp] theorem ca71 : callable Try.prog 71 = true := by kernel_rfl
@[simp] theorem ca72 : callable Try.prog 72 = true := by kernel_rfl
@[simp] theorem ca73 : callable Try.prog 73 = true := by kernel_rfl
theorem mixed : Try.prog.follows .mixedOrders = true := by kernel_rfl
end Go.Proofs.Ytaeakfbpioakmaa
