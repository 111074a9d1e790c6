import Derived.Shelf.Lay
import Derived.Shelf.LaySoft
import Derived.Shelf.Strings.SlTrimAscii
import Derived.Shelf.Strings.Repeat
import Derived.Shelf.Strings.Trim
import Derived.Shelf.Strings.Search2
import Derived.Shelf.Strings.Prefix
import Derived.Shelf.Strconv.Itoa3
import Derived.Test.YtilfmmjjiiabgaaProg
namespace Go.Proofs
open Go.Shelf
shelf_try shelf_lay Lays.n160 Nm 160 at Try as Try.lays160
shelf_try shelf_lay Lays.n162 Nm 162 at Try as Try.lays162
shelf_try shelf_lay Lays.n219 Nm 219 at Try as Try.lays219
shelf_try shelf_lay Lays.n206 Nm 206 at Try as Try.lays206
shelf_try shelf_lay LaysM.n171 Nm 171 at Try as Try.laysM171
shelf_try shelf_lay Lays.n105 Nm 105 at Try as Try.lays105
shelf_try theorem Try.Builder_Extra_105 : Builder.Extra Try.prog Try.lays105_ren where
  sizeBuilder := by kernel_rfl
  liesBuilder := by kernel_rfl
  t5 := Try.underlying5
  a5 := Try.isAgg5
  z5 := Try.sizeOf5
  v5 := Try.zeroValue5
  infoByte := by kernel_rfl
  cellsByte := by kernel_rfl
  sizeByte := by kernel_rfl
  neB5 := by decide
shelf_tried
end Go.Proofs
