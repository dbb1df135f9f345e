/- The closed values of the examples that every statement shows. -/
import Derived.Test.YtgldpdbdgjehkaaGreatDoorFields
namespace Go.Proofs.YtgldpdbdgjehkaaGreatDoor
open Go.RowKit Go.Shelf

theorem ex_list1 : listR [1, 2, 3, 7] = ([49, 45, 51, 44, 55], 0) := by kernel_rfl
theorem ex_list2 : listR [1, 2, 3, 3, 3] = ([49, 44, 50, 44, 51, 120, 51], 0) := by kernel_rfl
theorem ex_parse : parseR [53, 45, 55, 44, 50, 120, 57] = ([5, 6, 7, 9, 9], 0) := by kernel_rfl
theorem ex_quote : quoteR [115, 97, 121, 32, 34, 97, 34] = ([34, 115, 97, 121, 32, 34, 34, 97, 34, 34, 34], 0) := by kernel_rfl
theorem ex_split : splitR [99, 114, 101, 97, 116, 101, 32, 34, 109, 97, 105, 110, 32, 97, 114, 101, 110, 97, 34, 32, 49] = ([(false, [99, 114, 101, 97, 116, 101]), (true, [109, 97, 105, 110, 32, 97, 114, 101, 110, 97]), (false, [49])], 0) := by kernel_rfl
end Go.Proofs.YtgldpdbdgjehkaaGreatDoor
