// Package lasting: changes of a file that a crash can't take back.
//
// A call that fails leaves the old bytes or the new ones, and just those last which disk.FS.Read finds from then on. So
// whoever reads the file next and goes by its bytes can rely on them: no crash brings other ones back behind that. Its
// errors are those of package disk.
package lasting

import (
	"folio/api"
	"folio/disk"
)

// Replace makes b the bytes of the file called name, by way of a new file called spare. A crash amid it leaves the old
// bytes or the new ones.
func Replace(f *disk.FS, spare, name string, b []byte) api.Errno {
	err := write(f, spare, b)
	if err == api.OK {
		err = f.Rename(spare, name)
	}
	if err != api.OK {
		f.Remove(spare) // it would take room for nothing
		return err
	}
	return twice(f.SyncDir)
}

// Extend appends b to the file called name. A crash amid it leaves the old bytes, and of the new ones some first part.
func Extend(f *disk.FS, name string, b []byte) api.Errno {
	if err := f.Append(name, b); err != api.OK {
		return err
	}
	return twice(func() api.Errno { return f.Sync(name) })
}

// write gives a new file its bytes for good.
func write(f *disk.FS, name string, b []byte) api.Errno {
	if err := f.Create(name); err != api.OK {
		return err
	}
	return Extend(f, name, b)
}

// twice tries once more to sync what is there to be read already, and tells the error of the first time all the same.
func twice(sync func() api.Errno) api.Errno {
	err := sync()
	if err != api.OK {
		sync()
	}
	return err
}
